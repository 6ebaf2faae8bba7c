/-
  The reference's answers of chapter 2, Coded and Decoded: what they return; nothing that was there is written.
-/
import Derived.Test.YtjjfgmcgonkicaaGreatDoorHZig
import Derived.Test.YtjjfgmcgonkicaaGreatDoorP38
import Derived.Test.YtjjfgmcgonkicaaGreatDoorP32
import Derived.Test.YtjjfgmcgonkicaaGreatDoorP05
namespace Go.Proofs.YtjjfgmcgonkicaaGreatDoor
open Go.RowKit

def firstOf : Value → Nat
  | .bool true => 1
  | _ => 0

def upInts (c : List Nat) : List Int := c.map fun (x : Nat) => (x : Int)

theorem upInts_length (c : List Nat) : (upInts c).length = c.length := by simp [upInts]
theorem upInts_get (c : List Nat) (j : Nat) : (upInts c).getD j 0 = ((c.getD j 0 : Nat) : Int) := by
  unfold upInts
  by_cases h : j < c.length
  · simp [List.getD, h]
  · simp [List.getD, h]

theorem digs_succ (f m : Nat) (h : 0 < f) : ∃ g, f = g + 1 ∧ digs f m = m % 8 :: (if m / 8 = 0 then [] else digs g (m / 8)) := by
  cases f with
  | zero => omega
  | succ g => exact ⟨g, rfl, rfl⟩

theorem grp_up (m : Bool) (d : Nat) : [Value.bool m, .bool (decide ((4 : Int) ≤ (d : Int))), .bool (decide ((2 : Int) ≤ (d : Int) % 4)), .bool ((d : Int) % 2 == 1)] = (grp m d).map Value.bool := by
  have h1 : decide ((4 : Int) ≤ (d : Int)) = decide (4 ≤ d) := by
    by_cases h : 4 ≤ d
    · rw [decide_eq_true h, decide_eq_true (by omega)]
    · rw [decide_eq_false h, decide_eq_false (by omega)]
  have h2 : decide ((2 : Int) ≤ (d : Int) % 4) = decide (2 ≤ d % 4) := by
    by_cases h : 2 ≤ d % 4
    · rw [decide_eq_true h, decide_eq_true (by omega)]
    · rw [decide_eq_false h, decide_eq_false (by omega)]
  have h3 : ((d : Int) % 2 == 1) = decide (d % 2 = 1) := by
    by_cases h : d % 2 = 1
    · rw [decide_eq_true h]; simp; omega
    · rw [decide_eq_false h]; simp; omega
  rw [h1, h2, h3]
  rfl

set_option maxHeartbeats 1000000 in
set_option maxRecDepth 100000 in
theorem coded_ok (ao : Option Addr) (cap : Nat) (l : List Bool) (v : Int) (w : World) (hr : Sl w ao cap (l.map Value.bool)) (hl : l.length ≤ 140737488355160) (h : zigOk v = true) :
    Calls Tryz.prog 194 #[.slice ao l.length cap, .int .i64 v] w fun e w' =>
      ∃ a' G, e = .returned (.tuple #[.slice a' (l ++ code 8 (foldN v)).length G, .int .i64 0]) ∧ Sl w' a' G ((l ++ code 8 (foldN v)).map Value.bool) ∧ Below w.heap.size w w' := by
  have hin : decide (-4000000 ≤ v ∧ v ≤ 4000000) = true := h
  have hv := of_decide_eq_true hin
  have h1 := hv.1
  have h2 := hv.2
  have hfl := foldN_le v h
  have HN : Hid ((v < 0 ∧ 2 * -v - 1 = (foldN v : Int)) ∨ (¬ v < 0 ∧ 2 * v = (foldN v : Int))) := by
    by_cases hn : v < 0
    · exact .inl ⟨hn, by unfold foldN; rw [if_pos hn]; omega⟩
    · exact .inr ⟨hn, by unfold foldN; rw [if_neg hn]; omega⟩
  rw [← enc_digs 8 (foldN v) (by omega) (by decide)]
  clear hv h
  generalize foldN v = N at *
  have hDl := digs_len_le 8 N
  have hDp := digs_pos 8 N (by decide)
  have hDd := digs_lt 8 N
  obtain ⟨D, hD⟩ : ∃ D, D = digs 8 N := ⟨_, rfl⟩
  rw [← hD] at hDl hDd hDp ⊢
  have HD := hide hD
  clear hD
  obtain ⟨i1, hi1, hy0, hy1, hy2⟩ := info_parts infoInt
  obtain ⟨i0, hi, hz0, hz1, hz2⟩ := info_parts infoBool
  by_cases hsg : v < 0
  all_goals (
    go_enter Tryz.func194, Tryz.ntmps194
    go_wp2_with (go_at_call 40; refine (in_any _ _ _ _).mono ?_; rintro e w' ⟨rfl, rfl⟩; rw [hin])
    go_loopw [6, 7, 8] (fun n d b wr => ∃ (f m : Nat) (c : List Nat) (q : Bool), m < 8 ^ f ∧ m ≤ 8000000 ∧ n = .int .i64 m ∧ b = .bool q ∧ wr.ownsRow w.heap.size 3 1 d c.length ((upInts c).map (Value.int .i64)) ∧ Below w.heap.size w wr ∧ Hid ((q = true → f = 8 ∧ c = [] ∧ m = N) ∧ (q = false → c ++ (if m = 0 then [] else digs f m) = D))) (fun n _ b _ => 2 * (intOf n).toNat + firstOf b)
    case atStart => exact ⟨8, N, [], true, by omega, hfl, congrArg (Value.int .i64) (by have := HN.out; omega), rfl, ⟨rfl, .inl ⟨rfl, rfl⟩⟩, Below.refl _ _, fun _ => ⟨rfl, rfl, rfl⟩, fun h => by cases h⟩
    case round =>
      obtain ⟨f, m, c, q, hm1, hm2, rfl, rfl, own, bel, HQ⟩ := hrel
      by_cases hgo : q = true ∨ 0 < m
      · have hf : 0 < f := by
          rcases hgo with hq | hq
          · have := (HQ.out.1 hq).1; omega
          · cases f with
            | zero => simp at hm1; omega
            | succ f => omega
        have hcode : c ++ digs f m = D := by
          cases q with
          | true =>
            obtain ⟨q1, q2, q3⟩ := HQ.out.1 rfl
            rw [q1, q2, q3, HD.out]; rfl
          | false =>
            have h0 : 0 < m := by simpa using hgo
            have := HQ.out.2 rfl
            rw [if_neg (by omega)] at this
            exact this
        obtain ⟨g, rfl, hg⟩ := digs_succ f m hf
        have hclen : c.length ≤ 8 := by rw [← hcode] at hDl; rw [List.length_append] at hDl; omega
        rw [hg, List.append_cons] at hcode
        have HC := hide hcode
        clear hcode hg HQ hf
        have hmg : m / 8 < 8 ^ g := by
          rw [Nat.pow_succ] at hm1
          exact Nat.div_lt_of_lt_mul (by rw [Nat.mul_comm]; exact hm1)
        have HM := hide hmg
        clear hm1 hmg
        obtain ⟨a7, c7, rfl, t7, n7⟩ := ownSl own
        have hbz := bel.size
        have hcase : q = true ∨ (q = false ∧ (0 : Int) < (m : Int)) := by
          cases q with
          | true => exact .inl rfl
          | false => exact .inr ⟨rfl, by have : 0 < m := by simpa using hgo
                                         omega⟩
        have hmeas : 2 * (m / 8) < 2 * m + (if q = true then 1 else 0) := by
          rcases hcase with rfl | ⟨rfl, h0⟩
          · simp; omega
          · simp; omega
        clear hgo
        rcases hcase with rfl | ⟨rfl, h0⟩
        all_goals (
          go_wp2_with (at_builtin; refine wpList_append_new _ rfl (.tmp 28) (.tmp 31) 28 rfl w.heap.size 3 i1 (.int .i64 0) 1 8 Tryz.underlying28 hi1 hy0 hy1 hy2 rfl (by decide) _ c.length _ rfl own 1 _ _ rfl rfl (by simp [Value.oneCell']) (by decide) (by unfold maxLen; omega) (by omega) hbz ?_)
          intro v' w1 own1 grow1 went1
          have bel1 := belowGrown bel own grow1 (Nat.le_refl _) hbz
          have own2 : w1.ownsRow w.heap.size 3 1 v' (c ++ [m % 8]).length ((upInts (c ++ [m % 8])).map (Value.int .i64)) := by
            rw [List.length_append]
            simpa [upInts] using own1
          clear own1 own grow1 went1 bel t7 n7 hbz
          obtain ⟨a8, c8, rfl, t8, n8⟩ := ownSl own2
          go_wp2_with fail
          go_roundw
          case rel => first
            | exact ⟨g, m / 8, c ++ [m % 8], false, HM.out, by omega, by go_num, rfl, own2, bel1, hide ⟨fun h => absurd h (by decide), fun _ => HC.out⟩⟩
            | exact ⟨_, _, _, _, _, _, _, _, _, _, _, _, _, _, _, ⟨g, m / 8, c ++ [m % 8], false, HM.out, by omega, by go_num, rfl, own2, bel1, hide ⟨fun h => absurd h (by decide), fun _ => HC.out⟩⟩, rfl⟩
          case measure => simp [intOf, firstOf] at hmeas ⊢; omega)
      · have hq : q = false := by
          cases q with
          | true => exact absurd (.inl rfl) hgo
          | false => rfl
        subst hq
        obtain rfl : m = 0 := by
          have : ¬ 0 < m := fun h => hgo (.inr h)
          omega
        have hc := HQ.out.2 rfl
        rw [if_pos rfl, List.append_nil] at hc
        subst hc
        clear HQ hgo hm1 hm2
        rename World => w2
        obtain ⟨a7, c7, rfl, t7, n7⟩ := ownSl own
        have hr1 := hr.keep bel (Nat.le_refl _)
        obtain ⟨b7, o7, rfl, hb7, _⟩ := t7.row.at (by intro e; rw [e] at n7; simp at n7; omega)
        clear own n7 hr
        go_wp2_with (go_at_call 224; refine (clone_any ao cap l w2 hr1 (by omega)).mono ?_; rintro e w1 ⟨v1, rfl, own1, bel1⟩)
        clear hr1
        go_loopw [9, 39] (fun o i wl => ∃ (j : Nat) (X : List Bool), j ≤ c.length ∧ X.length = l.length + 4 * j ∧ i = .int .i64 j ∧ wl.ownsRow w2.heap.size 4 1 o X.length (X.map Value.bool) ∧ Below w2.heap.size w2 wl ∧ Hid (X ++ enc (c.drop j) = l ++ enc c)) (fun _ i _ => c.length - (intOf i).toNat)
        case atStart => exact ⟨0, l, Nat.zero_le _, by omega, rfl, own1, bel1, rfl⟩
        case round =>
          clear own1 bel1
          obtain ⟨j, X, hj, hX, rfl, ownX, belX, HX⟩ := hrel
          obtain ⟨a9, c9, rfl, t9, n9⟩ := ownSl ownX
          have hXb : X.length ≤ l.length + 32 := by omega
          have HL := hide hX
          clear hX n9
          by_cases hlt : j < c.length
          · have hc := (t7.keep belX (Nat.le_refl _)).int j (by rw [upInts_length]; exact hlt)
            rw [upInts_get] at hc
            have hdd : c.getD j 0 < 8 := hDd _ (by rw [List.getD_eq_getElem?_getD, List.getElem?_eq_getElem hlt]; exact List.getElem_mem hlt)
            have hdrop : c.drop j = c.getD j 0 :: c.drop (j + 1) := by
              rw [List.drop_eq_getElem_cons hlt, List.getD_eq_getElem?_getD, List.getElem?_eq_getElem hlt]; rfl
            have HX' := HX.out
            rw [hdrop, enc, ← List.append_assoc] at HX'
            have hmore : decide (0 < (c.drop (j + 1)).length) = decide ((j : Int) < (c.length : Int) - 1) := by
              rw [List.length_drop]
              by_cases h : 0 < c.length - (j + 1)
              · rw [decide_eq_true h, decide_eq_true (by omega)]
              · rw [decide_eq_false h, decide_eq_false (by omega)]
            rw [hmore] at HX'
            have HY := hide HX'
            clear HX HX' hdrop hmore
            generalize c.getD j 0 = d at *
            have hbz := belX.size
            have hlt' : (j : Int) < (c.length : Int) := by omega
            go_wp2_with (at_builtin; refine wpList_append_new _ rfl (.tmp 44) (.tmp 58) 103 rfl w2.heap.size 4 i0 (.bool false) 1 1 Tryz.underlying103 hi hz0 hz1 hz2 rfl (by decide) _ X.length _ rfl ownX 4 _ _ rfl rfl (by simp [Value.oneCell']) (by decide) (by unfold maxLen; omega) (by omega) hbz ?_)
            intro v' w3 own3 grow3 went3
            have bel3 := belowGrown belX ownX grow3 (Nat.le_refl _) hbz
            have own4 : w3.ownsRow w2.heap.size 4 1 v' (X ++ grp (decide ((j : Int) < (c.length : Int) - 1)) d).length ((X ++ grp (decide ((j : Int) < (c.length : Int) - 1)) d).map Value.bool) := by
              rw [List.map_append, ← grp_up, List.length_append, grp_length]
              exact own3
            have HL2 : Hid ((X ++ grp (decide ((j : Int) < (c.length : Int) - 1)) d).length = l.length + 4 * (j + 1)) := by
              show _ = _
              have := HL.out
              rw [List.length_append, grp_length]; omega
            generalize X ++ grp (decide ((j : Int) < (c.length : Int) - 1)) d = Y at *
            clear own3 grow3 went3 ownX belX t9 hc HL
            obtain ⟨a10, c10, rfl, t10, n10⟩ := ownSl own4
            clear n10
            go_wp2_with fail
            go_roundw
            case rel => exact ⟨j + 1, Y, by omega, HL2.out, by go_num, own4, bel3, HY⟩
            case measure => simp [intOf]; omega
          · obtain rfl : j = c.length := by omega
            have hY := HX.out
            rw [List.drop_length, enc, List.append_nil] at hY
            clear HX HL
            subst hY
            clear t7
            go_wp2_with fail
            go_ret2
            exact ⟨a9, c9, by simp, t9, belowCall bel belX⟩)

/-- Coded, whatever it is handed. -/
theorem coded_any (ao : Option Addr) (cap : Nat) (l : List Bool) (v : Int) (w : World) (hr : Sl w ao cap (l.map Value.bool)) (hl : l.length ≤ 140737488355160) :
    Calls Tryz.prog 194 #[.slice ao l.length cap, .int .i64 v] w fun e w' =>
      ∃ a' G, e = .returned (.tuple #[.slice a' (zigL l v).length G, .int .i64 (zigE v)]) ∧ Sl w' a' G ((zigL l v).map Value.bool) ∧ Below w.heap.size w w' := by
  cases h : zigOk v with
  | false =>
    have hin : decide (-4000000 ≤ v ∧ v ≤ 4000000) = false := h
    have e1 : zigL l v = [] := by simp [zigL, h]
    have e2 : zigE v = 3 := by simp [zigE, h]
    rw [e1, e2]
    clear e1 e2
    go_enter Tryz.func194, Tryz.ntmps194
    go_wp2_with (go_at_call 40; refine (in_any _ _ _ _).mono ?_; rintro e w' ⟨rfl, rfl⟩; rw [hin])
    go_ret2
    exact ⟨none, 0, rfl, Sl.ofNil _, Below.refl _ _⟩
  | true =>
    refine (coded_ok ao cap l v w hr hl h).mono ?_
    rintro e' w' ⟨a', G, rfl, hs, bel⟩
    exact ⟨a', G, by simp [zigL, zigE, h], by simpa [zigL, h] using hs, bel⟩

end Go.Proofs.YtjjfgmcgonkicaaGreatDoor

/-
  The reference's answer of chapter 2, Decoded: what it returns; nothing is written.
-/
namespace Go.Proofs.YtjjfgmcgonkicaaGreatDoor
open Go.RowKit

/-- The first so many of three bits, in their places. -/
def part (b c d : Bool) : Nat → Nat
  | 0 => 0
  | 1 => 4 * b.toNat
  | 2 => 4 * b.toNat + 2 * c.toNat
  | _ => 4 * b.toNat + 2 * c.toNat + d.toNat

theorem part_lt (b c d : Bool) : part b c d 3 < 8 := by revert b c d; decide
theorem part1_le (b c d : Bool) : part b c d 1 ≤ 4 := by revert b c d; decide
theorem part2_le (b c d : Bool) : part b c d 2 ≤ 6 := by revert b c d; decide

theorem abc (j q : Nat) : ((0 : Int) < (j : Int) ∧ (q : Int) = 0) ∨ ((0 : Int) < (j : Int) ∧ ¬ (q : Int) = 0) ∨ ¬ (0 : Int) < (j : Int) := by omega

theorem Sl.tailA {w : World} {B off G : Nat} {Y : List Bool} (hrow : Row w (some ⟨B, off + 4, none⟩) (Y.map Value.bool)) (hle : Y.length + 4 ≤ G) (hG : G ≤ 9223372036854775807) : Sl w (some ⟨B, off + 4, none⟩) (G - 4) (Y.map Value.bool) :=
  ⟨hrow, by rw [List.length_map]; omega, by omega, fun e => by cases e⟩

theorem Sl.tailB {w : World} {B off G : Nat} {Y : List Bool} (hle : Y.length + 4 ≤ G) (hG : G = 4) : Sl w (some ⟨B, off, none⟩) 0 (Y.map Value.bool) := by
  have hY : Y = [] := List.eq_nil_of_length_eq_zero (by omega)
  subst hY
  exact ⟨.inl rfl, Nat.le_refl _, by decide, fun e => by cases e⟩

set_option maxHeartbeats 1000000 in
set_option maxRecDepth 100000 in
/-- Decoded, whatever it is handed; what is left lies in what it was handed, so in whatever world that lay. -/
theorem decoded_two (ao : Option Addr) (cap : Nat) (l : List Bool) (w w0 : World) (hr : Sl w ao cap (l.map Value.bool)) (hr0 : Sl w0 ao cap (l.map Value.bool)) :
    Calls Tryz.prog 133 #[.slice ao l.length cap] w fun e w' =>
      ∃ a' G, e = .returned (.tuple #[.int .i64 (zigN l), .slice a' (zigR l).length G, .int .i64 (zigF l)]) ∧ Sl w' a' G ((zigR l).map Value.bool) ∧ Sl w0 a' G ((zigR l).map Value.bool) ∧ Below w.heap.size w w' := by
  unfold zigN zigR zigF
  obtain ⟨D, hD⟩ : ∃ D, D = decode 8 0 0 l := ⟨_, rfl⟩
  rw [← hD]
  go_enter Tryz.func133, Tryz.ntmps133
  go_wp2_with fail
  go_loop [0, 5, 6, 7] (fun s n p i => ∃ (j m G pw : Nat) (a' : Option Addr) (X : List Bool), Hid (pw = 8 ^ j) ∧ j ≤ 8 ∧ m ≤ 8000000 ∧ s = .slice a' X.length G ∧ n = .int .i64 m ∧ p = .int .i64 pw ∧ i = .int .i64 j ∧ D = decode (8 - j) j m X ∧ Sl w a' G (X.map Value.bool) ∧ Sl w0 a' G (X.map Value.bool)) (fun _ _ _ i => 9 - (intOf i).toNat)
  case atStart => exact ⟨0, 0, cap, 1, ao, l, hide rfl, by omega, by omega, rfl, rfl, rfl, rfl, hD, hr, hr0⟩
  case round =>
    obtain ⟨j, m, G, pw, a', X, HP, hj, hm, rfl, rfl, rfl, rfl, hdec, hs, hs0⟩ := hrel
    clear hr hr0 hD
    by_cases hlt : j < 8
    · have hj' : ¬ (j : Int) = 8 := by omega
      rw [show 8 - j = (8 - (j + 1)) + 1 by omega, decode] at hdec
      by_cases h4 : X.length < 4
      · rw [if_pos h4] at hdec
        subst hdec
        have h4' : (X.length : Int) < 4 := by omega
        go_wp2_with fail
        go_ret3
        exact ⟨none, 0, rfl, Sl.ofNil _, Sl.ofNil _, Below.refl _ _⟩
      · rw [if_neg h4] at hdec
        obtain ⟨x, b, c, d, Y, rfl⟩ := four X h4
        have h4' : ¬ ((x :: b :: c :: d :: Y).length : Int) < 4 := by omega
        obtain ⟨B, off, rfl, hB, hcell⟩ := hs.row.at (by simp)
        obtain ⟨B2, off2, hBo, hB0, hcell0⟩ := hs0.row.at (by simp)
        simp only [Option.some.injEq, Addr.mk.injEq, and_true] at hBo
        obtain ⟨rfl, rfl⟩ := hBo
        have hYrow0 : Row w0 (some ⟨B, off + 4, none⟩) (Y.map Value.bool) := .inr ⟨B, off + 4, rfl, hB0, fun i v hv => by
          rw [Nat.add_assoc, Nat.add_comm 4 i]
          exact hcell0 (i + 4) v hv⟩
        clear hcell0 hs0
        have c0 := hcell 0 (.bool x) rfl
        rw [Nat.add_zero] at c0
        have c1 := hcell 1 (.bool b) rfl
        have c2 := hcell 2 (.bool c) rfl
        have c3 := hcell 3 (.bool d) rfl
        have hle := hs.le
        have hmx := hs.max
        have htk : (x :: b :: c :: d :: Y).take 4 = [x, b, c, d] := rfl
        have hdr : (x :: b :: c :: d :: Y).drop 4 = Y := rfl
        rw [htk, hdr, numOf_four] at hdec
        have hlen : (x :: b :: c :: d :: Y).length = Y.length + 4 := rfl
        have hYrow : Row w (some ⟨B, off + 4, none⟩) (Y.map Value.bool) := .inr ⟨B, off + 4, rfl, hB, fun i v hv => by
          rw [Nat.add_assoc, Nat.add_comm 4 i]
          exact hcell (i + 4) v hv⟩
        rw [List.length_map] at hle
        rw [hlen] at hle h4' ⊢
        clear hcell htk hdr hlen h4
        have HD := hide hdec
        clear hdec
        go_wp2_with fail
        go_loop [8, 22] (fun dv i => ∃ k : Nat, k ≤ 3 ∧ i = .int .i64 k ∧ dv = .int .i64 (part b c d k)) (fun _ i => 3 - (intOf i).toNat)
        case atStart => exact ⟨0, by omega, rfl, rfl⟩
        case round =>
          obtain ⟨k, hk, rfl, rfl⟩ := hrel
          have hk4 : k = 0 ∨ k = 1 ∨ k = 2 ∨ k = 3 := by omega
          rcases hk4 with rfl | rfl | rfl | rfl
          · clear c0 c2 c3 HD hYrow
            cases b
            all_goals (
              go_wp2_with fail
              go_round
              case rel => exact ⟨1, by omega, by go_num, by simp [part, wrap64]⟩
              case measure => simp [intOf])
          · clear c0 c1 c3 HD hYrow
            cases c
            all_goals (
              have hp := part1_le b false d
              have hp' := part1_le b true d
              go_wp2_with fail
              go_round
              case rel => exact ⟨2, by omega, by go_num, by simp [part]⟩
              case measure => simp [intOf])
          · clear c0 c1 c2 HD hYrow
            cases d
            all_goals (
              have hp := part2_le b c false
              have hp' := part2_le b c true
              go_wp2_with fail
              go_round
              case rel => exact ⟨3, by omega, by go_num, by simp [part]⟩
              case measure => simp [intOf])
          · have hpl := part_lt b c d
            have hpe : 4 * b.toNat + 2 * c.toNat + d.toNat = part b c d 3 := rfl
            rw [hpe] at HD
            generalize part b c d 3 = q at *
            clear hpe c1 c2 c3
            have hpw : pw ≤ 2097152 := by
              rw [HP.out]
              exact Nat.pow_le_pow_right (n := 8) (j := 7) (by decide) (by omega)
            have hple : q * pw ≤ 7 * 2097152 := Nat.mul_le_mul (by omega) hpw
            have hmul : (q : Int) * (pw : Int) = ((q * pw : Nat) : Int) := by rw [Int.natCast_mul]
            rw [← HP.out] at HD
            have HP' : Hid (pw * 8 = 8 ^ (j + 1)) := by
              show _ = _
              rw [Nat.pow_succ, HP.out]
            have hq8 : (8 * x.toNat + q) % 8 = q := by omega
            rw [hq8] at HD
            generalize q * pw = r at *
            clear hq8 HP
            have HD' := HD.out
            clear HD
            by_cases h0 : 0 < j ∧ 8 * x.toNat + q = 0
            · rw [if_pos h0] at HD'
              subst HD'
              obtain rfl : x = false := by
                cases x with
                | false => rfl
                | true => simp at h0
              obtain rfl : q = 0 := by omega
              have hj0 : (0 : Int) < (j : Int) := by omega
              clear h0
              go_wp2_with fail
              go_ret3
              exact ⟨none, 0, rfl, Sl.ofNil _, Sl.ofNil _, Below.refl _ _⟩
            · rw [if_neg h0] at HD'
              by_cases hbig : 8000000 < m + r
              · rw [if_pos hbig] at HD'
                subst HD'
                have hb' : (8000000 : Int) < (m : Int) + (r : Int) := by omega
                clear hbig hYrow HP'
                cases x
                · by_cases hj0 : 0 < j
                  · have hj0' : (0 : Int) < (j : Int) := by omega
                    have hq0 : ¬ (q : Int) = 0 := by simp at h0; omega
                    clear h0 hj0
                    go_wp2_with fail
                    all_goals go_ret3
                    all_goals exact ⟨none, 0, rfl, Sl.ofNil _, Sl.ofNil _, Below.refl _ _⟩
                  · have hj0' : ¬ (0 : Int) < (j : Int) := by omega
                    clear h0 hj0
                    go_wp2_with fail
                    all_goals go_ret3
                    all_goals exact ⟨none, 0, rfl, Sl.ofNil _, Sl.ofNil _, Below.refl _ _⟩
                · clear h0
                  rcases abc j q with ⟨hj0, hq0⟩ | ⟨hj0, hq0⟩ | hj0
                  · rw [hq0, Int.zero_mul] at hmul
                    omega
                  all_goals (
                    go_wp2_with fail
                    all_goals go_ret3
                    all_goals exact ⟨none, 0, rfl, Sl.ofNil _, Sl.ofNil _, Below.refl _ _⟩)
              · rw [if_neg hbig] at HD'
                have hb' : ¬ (8000000 : Int) < (m : Int) + (r : Int) := by omega
                have tA := hide (Sl.tailA hYrow hle hmx)
                have tB := hide (fun h => Sl.tailB (w := w) (B := B) (off := off) hle h)
                have tA0 := hide (Sl.tailA hYrow0 hle hmx)
                have tB0 := hide (fun h => Sl.tailB (w := w0) (B := B) (off := off) hle h)
                have tC0 : Hid (Sl w0 (if G = 4 then some ⟨B, off, none⟩ else some ⟨B, off + 4, none⟩) (G - 4) (Y.map Value.bool)) := by
                  show Sl _ _ _ _
                  by_cases hG : G = 4
                  · rw [if_pos hG, hG]; exact tB0.out hG
                  · rw [if_neg hG]; exact tA0.out
                have tC : Hid (Sl w (if G = 4 then some ⟨B, off, none⟩ else some ⟨B, off + 4, none⟩) (G - 4) (Y.map Value.bool)) := by
                  show Sl _ _ _ _
                  by_cases hG : G = 4
                  · rw [if_pos hG, hG]; exact tB.out hG
                  · rw [if_neg hG]; exact tA.out
                clear hYrow hbig
                cases x
                · have hsure : (decide ((0 : Int) < (j : Int)) && ((q : Int) == 0)) = false := by
                    rw [Bool.eq_false_iff]; simp at h0 ⊢; omega
                  have hjq : ((0 : Int) < (j : Int) ∧ ¬ (q : Int) = 0) ∨ ¬ (0 : Int) < (j : Int) := by
                    simp at h0; omega
                  rw [if_pos (by simp; omega)] at HD'
                  clear hsure h0
                  by_cases hodd : (m + r) % 2 = 1
                  · have hodd' : ¬ ((m : Int) + (r : Int)) % 2 = 0 := by omega
                    have hu : unfoldN (m + r) = -(((m : Int) + (r : Int)) / 2 + 1) := by
                      unfold unfoldN
                      rw [if_pos hodd]; omega
                    rw [hu] at HD'
                    subst HD'
                    clear hu hodd HP'
                    rcases hjq with ⟨hj0, hq0⟩ | hj0
                    all_goals (
                      go_wp2_with fail
                      all_goals go_ret3
                      all_goals first
                        | exact ⟨_, _, rfl, tA.out, tA0.out, Below.refl _ _⟩
                        | exact ⟨_, _, rfl, tB.out (by omega), tB0.out (by omega), Below.refl _ _⟩)
                  · have hodd' : ((m : Int) + (r : Int)) % 2 = 0 := by omega
                    have hu : unfoldN (m + r) = ((m : Int) + (r : Int)) / 2 := by
                      unfold unfoldN
                      rw [if_neg hodd]; omega
                    rw [hu] at HD'
                    subst HD'
                    clear hu hodd HP'
                    rcases hjq with ⟨hj0, hq0⟩ | hj0
                    all_goals (
                      go_wp2_with fail
                      all_goals go_ret3
                      all_goals first
                        | exact ⟨_, _, rfl, tA.out, tA0.out, Below.refl _ _⟩
                        | exact ⟨_, _, rfl, tB.out (by omega), tB0.out (by omega), Below.refl _ _⟩)
                · rw [if_neg (by simp)] at HD'
                  have HD := hide HD'
                  clear HD' h0
                  rcases abc j q with ⟨hj0, hq0⟩ | ⟨hj0, hq0⟩ | hj0
                  · obtain rfl : q = 0 := by omega
                    obtain rfl : r = 0 := by simp at hmul; omega
                    clear hmul hq0 hple hb'
                    have hj9 : ¬ (8000000 : Int) < (m : Int) := by omega
                    go_wp2_with fail
                    all_goals go_round
                    all_goals first
                      | exact ⟨j + 1, m, _, pw * 8, _, Y, HP', by omega, by omega, rfl, by go_num, by go_num, by go_num, HD.out, tC.out, tC0.out⟩
                      | (simp [intOf]; omega)
                  all_goals (
                    go_wp2_with fail
                    all_goals go_round)
                  all_goals first
                    | exact ⟨j + 1, m + r, _, pw * 8, _, Y, HP', by omega, by omega, rfl, by go_num, by go_num, by go_num, HD.out, tC.out, tC0.out⟩
                    | (simp [intOf]; omega)
    · obtain rfl : j = 8 := by omega
      rw [Nat.sub_self, decode] at hdec
      subst hdec
      go_wp2_with fail
      go_ret3
      exact ⟨none, 0, rfl, Sl.ofNil _, Sl.ofNil _, Below.refl _ _⟩

/-- Decoded, whatever it is handed. -/
theorem decoded_any (ao : Option Addr) (cap : Nat) (l : List Bool) (w : World) (hr : Sl w ao cap (l.map Value.bool)) :
    Calls Tryz.prog 133 #[.slice ao l.length cap] w fun e w' =>
      ∃ a' G, e = .returned (.tuple #[.int .i64 (zigN l), .slice a' (zigR l).length G, .int .i64 (zigF l)]) ∧ Sl w' a' G ((zigR l).map Value.bool) ∧ Below w.heap.size w w' := by
  refine (decoded_two ao cap l w w hr hr).mono ?_
  rintro e' w' ⟨a', G, h, hs, _, bel⟩
  exact ⟨a', G, h, hs, bel⟩

end Go.Proofs.YtjjfgmcgonkicaaGreatDoor

/-
  The reference's answers of chapter 3: CheckPoint, CheckPoints, PackedOf: what they return; nothing that was there is written.
-/
namespace Go.Proofs.YtjjfgmcgonkicaaGreatDoor
open Go.RowKit

set_option maxHeartbeats 1000000 in
set_option maxRecDepth 100000 in
theorem refCheck_any (ao : Option Addr) (cap : Nat) (l : List Pt) (w : World) (hr : SlP w ao cap l) :
    Calls Tryz.prog 62 #[.slice ao l.length cap] w fun e w' => e = .returned (.int .i64 (checkE l)) ∧ Below w.heap.size w w' := by
  by_cases h40 : 40 < l.length
  · have h40' : (40 : Int) < l.length := by omega
    have e : checkE l = 2 := if_pos h40
    rw [e]
    clear e h40
    go_enter Tryz.func62, Tryz.ntmps62
    go_wp2
    go_ret
    exact ⟨rfl, Below.refl _ _⟩
  · have e : checkE l = chk (-1) l := if_neg h40
    rw [e]
    clear e
    obtain ⟨C, hC⟩ : ∃ C, C = chk (-1) l := ⟨_, rfl⟩
    rw [← hC]
    obtain ⟨n, hn⟩ : ∃ n, n = l.length := ⟨_, rfl⟩
    rw [← hn] at h40 ⊢
    have HL := hide hn
    have HC : Hid (C = chk (-1) (l.drop 0)) := by rw [List.drop_zero]; exact hC
    clear hn hC
    have h40' : ¬ (40 : Int) < (n : Int) := by omega
    go_enter Tryz.func62, Tryz.ntmps62
    go_wp2
    go_loopw [3, 12] (fun la i wr => ∃ (k : Nat) (last : Int), k ≤ n ∧ i = .int .i64 k ∧ la = .int .i64 last ∧ Hid (C = chk last (l.drop k)) ∧ Below w.heap.size w wr) (fun _ i _ => n - (intOf i).toNat)
    case atStart => exact ⟨0, -1, by omega, rfl, rfl, HC, Below.refl _ _⟩
    case round =>
      obtain ⟨k, last, hk, rfl, rfl, HR, bel⟩ := hrel
      clear HC
      by_cases hlt : k < n
      · have hs := hr.keep bel (Nat.le_refl _)
        obtain ⟨b, off, rfl, hbw⟩ := hs.where (by intro h; rw [HL.out, h] at hlt; simp at hlt)
        obtain ⟨x, y, e0, e1, hx, hd⟩ := hs.pt k (by rw [← HL.out]; exact hlt)
        have HR' : Hid (C = chk last ((x, y) :: l.drop (k + 1))) := by have := HR.out; rw [hd] at this; exact this
        clear HR hx hd
        have inr : ∀ W : World, (wr.alloc (.cells #[.int .i64 x, .int .i64 y] 56)) = W → Calls Tryz.prog 96 #[.agg #[.int .i64 x, .int .i64 y]] W fun e w1 => e = .returned (.int .i64 (if ptOk (x, y) = false then 3 else 0)) ∧ Below w.heap.size w w1 ∧ w1.cell? ⟨wr.heap.size, 0, none⟩ = some (.int .i64 x) := by
          rintro W rfl
          refine (refPoint_any x y _).mono ?_
          rintro e w1 ⟨rfl, b1⟩
          refine ⟨rfl, belowCall (bel.alloc bel.size _) b1, ?_⟩
          rw [b1.cell (p := ⟨wr.heap.size, 0, none⟩) (by simp), World.cell?_alloc_at (hn := rfl)]
          rfl
        cases hp : ptOk (x, y) with
        | false =>
          rw [hp, if_pos rfl] at inr
          go_wp2_with (go_at_call 96; refine (inr _ rfl).mono ?_; rintro e w1 ⟨rfl, b1, -⟩)
          go_ret
          refine ⟨ret_int ?_, b1⟩
          rw [HR'.out, chk, if_pos hp]
        | true =>
          rw [hp, if_neg (by decide)] at inr
          by_cases hle : x ≤ last
          · go_wp2_with (go_at_call 96; refine (inr _ rfl).mono ?_; rintro e w1 ⟨rfl, b1, c1⟩)
            go_ret
            refine ⟨ret_int ?_, b1⟩
            rw [HR'.out, chk, if_neg (by rw [hp]; decide), if_pos hle]
          · go_wp2_with (go_at_call 96; refine (inr _ rfl).mono ?_; rintro e w1 ⟨rfl, b1, c1⟩)
            go_roundw
            case rel =>
              refine ⟨k + 1, x, by omega, by go_num, rfl, hide ?_, b1⟩
              rw [HR'.out, chk, if_neg (by rw [hp]; decide), if_neg (by simp only; omega)]
            case measure => simp [intOf]; omega
      · obtain rfl : k = n := by omega
        go_wp2_with fail
        go_ret
        refine ⟨ret_int ?_, bel⟩
        rw [HR.out, HL.out, List.drop_length, chk]

theorem coded2_ok (ao : Option Addr) (cap : Nat) (l : List Bool) (v : Int) (w : World) (hr : Sl w ao cap (l.map Value.bool)) (hl : l.length ≤ 100000) (h : zigOk v = true) :
    Calls Tryz.prog 194 #[.slice ao l.length cap, .int .i64 v] w fun e w' =>
      ∃ a' G, e = .returned (.tuple #[.slice a' (l ++ code 8 (foldN v)).length G, .int .i64 0]) ∧ Sl w' a' G ((l ++ code 8 (foldN v)).map Value.bool) ∧ Below w.heap.size w w' := by
  have p := coded_any ao cap l v w hr (by omega)
  rw [zigL, zigE, if_pos h, if_pos h] at p
  exact p

end Go.Proofs.YtjjfgmcgonkicaaGreatDoor

/-
  The reference's PackedOf: what it returns, for every list of points; nothing that was there is written.
-/
namespace Go.Proofs.YtjjfgmcgonkicaaGreatDoor
open Go.RowKit

/-- What the two points ahead say of the place. -/
def Behind (l : List Pt) (k : Nat) (t v s : Int) : Prop :=
  (k = 0 ∧ t = 0 ∧ v = 0 ∧ s = 0) ∨ (k = 1 ∧ l[0]? = some (t, v) ∧ s = t) ∨ ∃ j y, k = j + 2 ∧ l[j + 1]? = some (t, v) ∧ l[j]? = some (t - s, y)

theorem Behind.next {l : List Pt} {k : Nat} {t v s x y : Int} (h : Behind l k t v s) (hx : l[k]? = some (x, y)) : Behind l (k + 1) x y (x - t) := by
  rcases h with ⟨rfl, rfl, rfl, rfl⟩ | ⟨rfl, h0, rfl⟩ | ⟨j, y', rfl, h1, h0⟩
  · exact .inr (.inl ⟨rfl, hx, by omega⟩)
  · exact .inr (.inr ⟨0, v, rfl, hx, by rw [h0]; simp only [Option.some.injEq, Prod.mk.injEq, and_true]; omega⟩)
  · exact .inr (.inr ⟨j + 1, v, rfl, hx, by rw [h1]; simp only [Option.some.injEq, Prod.mk.injEq, and_true]; omega⟩)

theorem Sl.drew {w : World} {ao : Option Addr} {cap : Nat} {cs : List Value} (h : Sl w ao cap cs) : Sl w.drew ao cap cs := ⟨h.row, h.le, h.max, h.nil⟩

set_option maxHeartbeats 1000000 in
set_option maxRecDepth 100000 in
theorem refPack_ok (ao : Option Addr) (cap : Nat) (l : List Pt) (w : World) (hr : SlP w ao cap l) (h : checkE l = 0) :
    Calls Tryz.prog 167 #[.slice ao l.length cap] w fun e w' =>
      ∃ a' G, e = .returned (.tuple #[.slice a' (pk 0 0 0 l).length G, .int .i64 0]) ∧ Sl w' a' G ((pk 0 0 0 l).map Value.bool) ∧ Below w.heap.size w w' := by
  have hc := refCheck_any ao cap l w hr
  rw [h] at hc
  obtain ⟨h40, hchk⟩ := checkE_zero h
  obtain ⟨P, hP⟩ : ∃ P, P = pk 0 0 0 l := ⟨_, rfl⟩
  rw [← hP]
  obtain ⟨n, hn⟩ : ∃ n, n = l.length := ⟨_, rfl⟩
  rw [← hn] at h40 hc ⊢
  have HL := hide hn
  have HP : Hid (P = [] ++ pk 0 0 0 (l.drop 0)) := by rw [List.drop_zero]; exact hP
  have HC : Hid (chk (-1) (l.drop 0) = 0) := by rw [List.drop_zero]; exact hchk
  clear hn hP hchk h
  go_enter Tryz.func167, Tryz.ntmps167
  go_wp2_with fail
  go_at_call 62
  refine hc.mono ?_
  rintro e w1 ⟨rfl, b1⟩
  clear hc
  go_wp2_with fail
  go_loopw [5, 17] (fun o i wr => ∃ (k G : Nat) (t v s last : Int) (a' : Option Addr) (O : List Bool), k ≤ n ∧ i = .int .i64 k ∧ o = .slice a' O.length G ∧ (0 ≤ t ∧ t ≤ 100000) ∧ t ≤ last + 1 ∧ (-1000000 ≤ v ∧ v ≤ 1000000) ∧ (0 ≤ s ∧ s ≤ 100000) ∧ O.length ≤ 64 * k ∧ Hid (P = O ++ pk t v s (l.drop k)) ∧ Hid (chk last (l.drop k) = 0) ∧ Hid (Behind l k t v s) ∧ Sl wr a' G (O.map Value.bool) ∧ Below w.heap.size w wr) (fun _ i _ => n - (intOf i).toNat)
  case atStart => exact ⟨0, 0, 0, 0, 0, -1, none, [], by omega, rfl, rfl, by omega, by omega, by omega, by omega, by simp, HP, HC, hide (.inl ⟨rfl, rfl, rfl, rfl⟩), Sl.ofNil _, b1⟩
  case round =>
    clear HP HC b1 w1
    obtain ⟨k, G, t, v, s, last, a', O, hk, rfl, rfl, ht, hl, hv, hs, hO, HP, HC, HB, S, bel⟩ := hrel
    by_cases hlt : k < n
    · have hs1 := hr.keep bel (Nat.le_refl _)
      obtain ⟨b, o, rfl, hbw⟩ := hs1.where (by intro h; rw [HL.out, h] at hlt; simp at hlt)
      obtain ⟨x, y, e0, e1, hx, hd⟩ := hs1.pt k (by rw [← HL.out]; exact hlt)
      have HP' := HP.out
      have HC' := HC.out
      rw [hd] at HP' HC'
      obtain ⟨z1, z2, hx', hy', hs'⟩ := zig_fits HC' ht hl hv hs
      obtain ⟨_, _, HC2⟩ := chk_cons HC'
      have HC3 := hide HC2
      have HB2 := hide (HB.out.next hx)
      rw [pk, ← List.append_assoc, ← List.append_assoc] at HP'
      simp only at HP' z1 z2 hx' hy' hs'
      have C1 : ∀ W z, Sl W a' G (O.map Value.bool) → z = x - t - s → Calls Tryz.prog 194 #[.slice a' O.length G, .int .i64 z] W fun e w' => ∃ a' G, e = .returned (.tuple #[.slice a' (O ++ code 8 (foldN (x - t - s))).length G, .int .i64 0]) ∧ Sl w' a' G ((O ++ code 8 (foldN (x - t - s))).map Value.bool) ∧ Below W.heap.size W w' := by
        rintro W z h rfl
        exact coded2_ok a' G O _ W h (by omega) z1
      have hO1 : (O ++ code 8 (foldN (x - t - s))).length ≤ 64 * k + 32 := by
        have h1 := code_len_le 8 (foldN (x - t - s))
        rw [List.length_append]; omega
      generalize O ++ code 8 (foldN (x - t - s)) = O1 at *
      have C2 : ∀ a' G W z, Sl W a' G (O1.map Value.bool) → z = y - v → Calls Tryz.prog 194 #[.slice a' O1.length G, .int .i64 z] W fun e w' => ∃ a' G, e = .returned (.tuple #[.slice a' (O1 ++ code 8 (foldN (y - v))).length G, .int .i64 0]) ∧ Sl w' a' G ((O1 ++ code 8 (foldN (y - v))).map Value.bool) ∧ Below W.heap.size W w' := by
        rintro a' G W z h rfl
        exact coded2_ok a' G O1 _ W h (by omega) z2
      have hO2 : (O1 ++ code 8 (foldN (y - v))).length ≤ 64 * (k + 1) := by
        have h1 := code_len_le 8 (foldN (y - v))
        rw [List.length_append]; omega
      generalize O1 ++ code 8 (foldN (y - v)) = O2 at *
      have HP3 := hide HP'
      have HX := hide hx
      clear HP HC HP' HC' HC2 hd hx z1 z2
      obtain ⟨ht0, ht1⟩ := ht
      obtain ⟨hv0, hv1⟩ := hv
      obtain ⟨hs0, hs2⟩ := hs
      have hx1 := hx'
      have hy1 := hy'
      have hs3 := hs'
      obtain ⟨hxa, hxb⟩ := hx1
      obtain ⟨hya, hyb⟩ := hy1
      obtain ⟨hsa, hsb⟩ := hs3
      rcases HB.out with ⟨rfl, rfl, rfl, rfl⟩ | ⟨rfl, h0, rfl⟩ | ⟨j, y', rfl, h1, h0⟩
      · clear HB
        rw [Nat.zero_mul, Nat.add_zero] at e0 e1
        go_wp2_with fail
        go_region
        all_goals go_wp2_with fail
        all_goals go_at_call 194
        refine (C1 _ _ (S.alloc _).drew (by omega)).mono ?_
        rintro e w3 ⟨a3, G3, rfl, S3, b3⟩
        go_wp2_with fail
        go_at_call 194
        refine (C2 _ _ _ _ S3 (by omega)).mono ?_
        rintro e w4 ⟨a4, G4, rfl, S4, b4⟩
        go_wp2_with fail
        go_roundw
        case rel => exact ⟨0 + 1, G4, x, y, _, x, a4, O2, by omega, by go_num, rfl, hx', by omega, hy', hs', hO2, HP3, HC3, HB2, S4, belowCall (belowCall (belowDrew (bel.alloc bel.size _)) b3) b4⟩
        case measure => simp [intOf]; omega
      · clear HB
        obtain ⟨t', v', e2, e3, h2, -⟩ := hs1.pt 0 (by rw [← HL.out]; omega)
        rw [h0] at h2
        simp only [Option.some.injEq, Prod.mk.injEq] at h2
        obtain ⟨rfl, rfl⟩ := h2
        clear h0
        rw [Nat.zero_mul, Nat.add_zero] at e2 e3
        go_wp2_with fail
        go_region
        all_goals go_wp2_with fail
        all_goals go_at_call 194
        refine (C1 _ _ (S.alloc _).drew (by omega)).mono ?_
        rintro e w3 ⟨a3, G3, rfl, S3, b3⟩
        go_wp2_with fail
        go_at_call 194
        refine (C2 _ _ _ _ S3 (by omega)).mono ?_
        rintro e w4 ⟨a4, G4, rfl, S4, b4⟩
        go_wp2_with fail
        go_roundw
        case rel => exact ⟨1 + 1, G4, x, y, _, x, a4, O2, by omega, by go_num, rfl, hx', by omega, hy', hs', hO2, HP3, HC3, HB2, S4, belowCall (belowCall (belowDrew (bel.alloc bel.size _)) b3) b4⟩
        case measure => simp [intOf]; omega
      · clear HB
        obtain ⟨t', v', e2, e3, h2, -⟩ := hs1.pt (j + 1) (by rw [← HL.out]; omega)
        obtain ⟨t'', v'', e4, e5, h3, -⟩ := hs1.pt j (by rw [← HL.out]; omega)
        rw [h1] at h2
        rw [h0] at h3
        simp only [Option.some.injEq, Prod.mk.injEq] at h2 h3
        obtain ⟨rfl, rfl⟩ := h2
        obtain ⟨hz, rfl⟩ := h3
        have hz0 : -100000 ≤ t'' := by omega
        have hz1 : t'' ≤ 100000 := by omega
        clear h0 h1
        go_wp2_with fail
        go_region
        all_goals go_wp2_with fail
        all_goals go_at_call 194
        refine (C1 _ _ (S.alloc _).drew (by omega)).mono ?_
        rintro e w3 ⟨a3, G3, rfl, S3, b3⟩
        go_wp2_with fail
        go_at_call 194
        refine (C2 _ _ _ _ S3 (by omega)).mono ?_
        rintro e w4 ⟨a4, G4, rfl, S4, b4⟩
        go_wp2_with fail
        go_roundw
        case rel => exact ⟨(j + 2) + 1, G4, x, y, _, x, a4, O2, by omega, by go_num, rfl, hx', by omega, hy', hs', hO2, HP3, HC3, HB2, S4, belowCall (belowCall (belowDrew (bel.alloc bel.size _)) b3) b4⟩
        case measure => simp [intOf]; omega
    · obtain rfl : k = n := by omega
      have HP' := HP.out
      rw [HL.out, List.drop_length, pk, List.append_nil] at HP'
      subst HP'
      go_wp2_with fail
      go_ret2
      exact ⟨_, _, rfl, S, bel⟩

theorem refPack_no (ao : Option Addr) (cap : Nat) (l : List Pt) (w : World) (hr : SlP w ao cap l) (h : ¬ checkE l = 0) :
    Calls Tryz.prog 167 #[.slice ao l.length cap] w fun e w' => e = .returned (.tuple #[.slice none 0 0, .int .i64 (checkE l)]) ∧ Below w.heap.size w w' := by
  have hc := refCheck_any ao cap l w hr
  generalize checkE l = E at *
  go_enter Tryz.func167, Tryz.ntmps167
  go_wp2_with fail
  go_at_call 62
  refine hc.mono ?_
  rintro e w1 ⟨rfl, b1⟩
  go_wp2_with fail
  go_ret2
  exact ⟨rfl, b1⟩

/-- PackedOf, whatever it is handed. -/
theorem refPack_any (ao : Option Addr) (cap : Nat) (l : List Pt) (w : World) (hr : SlP w ao cap l) :
    Calls Tryz.prog 167 #[.slice ao l.length cap] w fun e w' =>
      ∃ a' G, e = .returned (.tuple #[.slice a' (packL l).length G, .int .i64 (checkE l)]) ∧ Sl w' a' G ((packL l).map Value.bool) ∧ Below w.heap.size w w' := by
  by_cases h : checkE l = 0
  · have e : packL l = pk 0 0 0 l := if_pos h
    rw [e, h]
    exact refPack_ok ao cap l w hr h
  · have e : packL l = [] := if_neg h
    rw [e]
    refine (refPack_no ao cap l w hr h).mono ?_
    rintro e w' ⟨rfl, b⟩
    exact ⟨none, 0, rfl, Sl.ofNil _, b⟩

end Go.Proofs.YtjjfgmcgonkicaaGreatDoor
