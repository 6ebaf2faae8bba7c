/-
  The reference's answers of chapter 2, Coded and Decoded: what they return; nothing that was there is written.
-/
import Derived.Test.YtpeeeealbfmklacZig
import Derived.Test.YtpeeeealbfmklacClone
import Derived.Test.YtpeeeealbfmklacIn
namespace Go.Proofs.Ytpeeeealbfmklac
open Go.RowKit

def firstOf : Value → Nat
  | .bool true => 1
  | _ => 0

def upInts (c : List Nat) : List Int := c.map fun (x : Nat) => (x : Int)

theorem upInts_length (c : List Nat) : (upInts c).length = c.length := by simp [upInts]
theorem upInts_get (c : List Nat) (j : Nat) : (upInts c).getD j 0 = ((c.getD j 0 : Nat) : Int) := by
  unfold upInts
  by_cases h : j < c.length
  · simp [List.getD, h]
  · simp [List.getD, h]

theorem digs_succ (f m : Nat) (h : 0 < f) : ∃ g, f = g + 1 ∧ digs f m = m % 8 :: (if m / 8 = 0 then [] else digs g (m / 8)) := by
  cases f with
  | zero => omega
  | succ g => exact ⟨g, rfl, rfl⟩

theorem grp_up (m : Bool) (d : Nat) : [Value.bool m, .bool (decide ((4 : Int) ≤ (d : Int))), .bool (decide ((2 : Int) ≤ (d : Int) % 4)), .bool ((d : Int) % 2 == 1)] = (grp m d).map Value.bool := by
  have h1 : decide ((4 : Int) ≤ (d : Int)) = decide (4 ≤ d) := by
    by_cases h : 4 ≤ d
    · rw [decide_eq_true h, decide_eq_true (by omega)]
    · rw [decide_eq_false h, decide_eq_false (by omega)]
  have h2 : decide ((2 : Int) ≤ (d : Int) % 4) = decide (2 ≤ d % 4) := by
    by_cases h : 2 ≤ d % 4
    · rw [decide_eq_true h, decide_eq_true (by omega)]
    · rw [decide_eq_false h, decide_eq_false (by omega)]
  have h3 : ((d : Int) % 2 == 1) = decide (d % 2 = 1) := by
    by_cases h : d % 2 = 1
    · rw [decide_eq_true h]; simp; omega
    · rw [decide_eq_false h]; simp; omega
  rw [h1, h2, h3]
  rfl

set_option maxHeartbeats 1000000 in
set_option maxRecDepth 100000 in
theorem coded_ok (ao : Option Addr) (cap : Nat) (l : List Bool) (v : Int) (w : World) (hr : Sl w ao cap (l.map Value.bool)) (hl : l.length ≤ 140737488355160) (h : zigOk v = true) :
    Calls Try.prog 30 #[.slice ao l.length cap, .int .i64 v] w fun e w' =>
      ∃ a' G, e = .returned (.tuple #[.slice a' (l ++ code 8 (foldN v)).length G, .int .i64 0]) ∧ Sl w' a' G ((l ++ code 8 (foldN v)).map Value.bool) ∧ Below w.heap.size w w' := by
  have hin : decide (-4000000 ≤ v ∧ v ≤ 4000000) = true := h
  have hv := of_decide_eq_true hin
  have h1 := hv.1
  have h2 := hv.2
  have hfl := foldN_le v h
  have HN : Hid ((v < 0 ∧ 2 * -v - 1 = (foldN v : Int)) ∨ (¬ v < 0 ∧ 2 * v = (foldN v : Int))) := by
    by_cases hn : v < 0
    · exact .inl ⟨hn, by unfold foldN; rw [if_pos hn]; omega⟩
    · exact .inr ⟨hn, by unfold foldN; rw [if_neg hn]; omega⟩
  rw [← enc_digs 8 (foldN v) (by omega) (by decide)]
  clear hv h
  generalize foldN v = N at *
  have hDl := digs_len_le 8 N
  have hDp := digs_pos 8 N (by decide)
  have hDd := digs_lt 8 N
  obtain ⟨D, hD⟩ : ∃ D, D = digs 8 N := ⟨_, rfl⟩
  rw [← hD] at hDl hDd hDp ⊢
  have HD := hide hD
  clear hD
  obtain ⟨i1, hi1, hy0, hy1, hy2⟩ := info_parts infoInt
  obtain ⟨i0, hi, hz0, hz1, hz2⟩ := info_parts infoBool
  by_cases hsg : v < 0
  all_goals (
    go_enter Try.func30, Try.ntmps30
    go_wp2_with (go_at_call 31; refine (in_any _ _ _ _).mono ?_; rintro e w' ⟨rfl, rfl⟩; rw [hin])
    go_loopw [6, 7, 8] (fun n d b wr => ∃ (f m : Nat) (c : List Nat) (q : Bool), m < 8 ^ f ∧ m ≤ 8000000 ∧ n = .int .i64 m ∧ b = .bool q ∧ wr.ownsRow w.heap.size 3 1 d c.length ((upInts c).map (Value.int .i64)) ∧ Below w.heap.size w wr ∧ Hid ((q = true → f = 8 ∧ c = [] ∧ m = N) ∧ (q = false → c ++ (if m = 0 then [] else digs f m) = D))) (fun n _ b _ => 2 * (intOf n).toNat + firstOf b)
    case atStart => exact ⟨8, N, [], true, by omega, hfl, congrArg (Value.int .i64) (by have := HN.out; omega), rfl, ⟨rfl, .inl ⟨rfl, rfl⟩⟩, Below.refl _ _, fun _ => ⟨rfl, rfl, rfl⟩, fun h => by cases h⟩
    case round =>
      obtain ⟨f, m, c, q, hm1, hm2, rfl, rfl, own, bel, HQ⟩ := hrel
      by_cases hgo : q = true ∨ 0 < m
      · have hf : 0 < f := by
          rcases hgo with hq | hq
          · have := (HQ.out.1 hq).1; omega
          · cases f with
            | zero => simp at hm1; omega
            | succ f => omega
        have hcode : c ++ digs f m = D := by
          cases q with
          | true =>
            obtain ⟨q1, q2, q3⟩ := HQ.out.1 rfl
            rw [q1, q2, q3, HD.out]; rfl
          | false =>
            have h0 : 0 < m := by simpa using hgo
            have := HQ.out.2 rfl
            rw [if_neg (by omega)] at this
            exact this
        obtain ⟨g, rfl, hg⟩ := digs_succ f m hf
        have hclen : c.length ≤ 8 := by rw [← hcode] at hDl; rw [List.length_append] at hDl; omega
        rw [hg, List.append_cons] at hcode
        have HC := hide hcode
        clear hcode hg HQ hf
        have hmg : m / 8 < 8 ^ g := by
          rw [Nat.pow_succ] at hm1
          exact Nat.div_lt_of_lt_mul (by rw [Nat.mul_comm]; exact hm1)
        have HM := hide hmg
        clear hm1 hmg
        obtain ⟨a7, c7, rfl, t7, n7⟩ := ownSl own
        have hbz := bel.size
        have hcase : q = true ∨ (q = false ∧ (0 : Int) < (m : Int)) := by
          cases q with
          | true => exact .inl rfl
          | false => exact .inr ⟨rfl, by have : 0 < m := by simpa using hgo
                                         omega⟩
        have hmeas : 2 * (m / 8) < 2 * m + (if q = true then 1 else 0) := by
          rcases hcase with rfl | ⟨rfl, h0⟩
          · simp; omega
          · simp; omega
        clear hgo
        rcases hcase with rfl | ⟨rfl, h0⟩
        all_goals (
          go_wp2_with (at_builtin; refine wpList_append_new _ rfl (.tmp 28) (.tmp 31) 62 rfl w.heap.size 3 i1 (.int .i64 0) 1 8 Try.underlying62 hi1 hy0 hy1 hy2 rfl (by decide) _ c.length _ rfl own 1 _ _ rfl rfl (by simp [Value.oneCell']) (by decide) (by unfold maxLen; omega) (by omega) hbz ?_)
          intro v' w1 own1 grow1 went1
          have bel1 := belowGrown bel own grow1 (Nat.le_refl _) hbz
          have own2 : w1.ownsRow w.heap.size 3 1 v' (c ++ [m % 8]).length ((upInts (c ++ [m % 8])).map (Value.int .i64)) := by
            rw [List.length_append]
            simpa [upInts] using own1
          clear own1 own grow1 went1 bel t7 n7 hbz
          obtain ⟨a8, c8, rfl, t8, n8⟩ := ownSl own2
          go_wp2_with fail
          go_roundw
          case rel => first
            | exact ⟨g, m / 8, c ++ [m % 8], false, HM.out, by omega, by go_num, rfl, own2, bel1, hide ⟨fun h => absurd h (by decide), fun _ => HC.out⟩⟩
            | exact ⟨_, _, _, _, _, _, _, _, _, _, _, _, _, _, _, ⟨g, m / 8, c ++ [m % 8], false, HM.out, by omega, by go_num, rfl, own2, bel1, hide ⟨fun h => absurd h (by decide), fun _ => HC.out⟩⟩, rfl⟩
          case measure => simp [intOf, firstOf] at hmeas ⊢; omega)
      · have hq : q = false := by
          cases q with
          | true => exact absurd (.inl rfl) hgo
          | false => rfl
        subst hq
        obtain rfl : m = 0 := by
          have : ¬ 0 < m := fun h => hgo (.inr h)
          omega
        have hc := HQ.out.2 rfl
        rw [if_pos rfl, List.append_nil] at hc
        subst hc
        clear HQ hgo hm1 hm2
        rename World => w2
        obtain ⟨a7, c7, rfl, t7, n7⟩ := ownSl own
        have hr1 := hr.keep bel (Nat.le_refl _)
        obtain ⟨b7, o7, rfl, hb7, _⟩ := t7.row.at (by intro e; rw [e] at n7; simp at n7; omega)
        clear own n7 hr
        go_wp2_with (go_at_call 36; refine (clone_any ao cap l w2 hr1 (by omega)).mono ?_; rintro e w1 ⟨v1, rfl, own1, bel1⟩)
        clear hr1
        go_loopw [9, 39] (fun o i wl => ∃ (j : Nat) (X : List Bool), j ≤ c.length ∧ X.length = l.length + 4 * j ∧ i = .int .i64 j ∧ wl.ownsRow w2.heap.size 4 1 o X.length (X.map Value.bool) ∧ Below w2.heap.size w2 wl ∧ Hid (X ++ enc (c.drop j) = l ++ enc c)) (fun _ i _ => c.length - (intOf i).toNat)
        case atStart => exact ⟨0, l, Nat.zero_le _, by omega, rfl, own1, bel1, rfl⟩
        case round =>
          clear own1 bel1
          obtain ⟨j, X, hj, hX, rfl, ownX, belX, HX⟩ := hrel
          obtain ⟨a9, c9, rfl, t9, n9⟩ := ownSl ownX
          have hXb : X.length ≤ l.length + 32 := by omega
          have HL := hide hX
          clear hX n9
          by_cases hlt : j < c.length
          · have hc := (t7.keep belX (Nat.le_refl _)).int j (by rw [upInts_length]; exact hlt)
            rw [upInts_get] at hc
            have hdd : c.getD j 0 < 8 := hDd _ (by rw [List.getD_eq_getElem?_getD, List.getElem?_eq_getElem hlt]; exact List.getElem_mem hlt)
            have hdrop : c.drop j = c.getD j 0 :: c.drop (j + 1) := by
              rw [List.drop_eq_getElem_cons hlt, List.getD_eq_getElem?_getD, List.getElem?_eq_getElem hlt]; rfl
            have HX' := HX.out
            rw [hdrop, enc, ← List.append_assoc] at HX'
            have hmore : decide (0 < (c.drop (j + 1)).length) = decide ((j : Int) < (c.length : Int) - 1) := by
              rw [List.length_drop]
              by_cases h : 0 < c.length - (j + 1)
              · rw [decide_eq_true h, decide_eq_true (by omega)]
              · rw [decide_eq_false h, decide_eq_false (by omega)]
            rw [hmore] at HX'
            have HY := hide HX'
            clear HX HX' hdrop hmore
            generalize c.getD j 0 = d at *
            have hbz := belX.size
            have hlt' : (j : Int) < (c.length : Int) := by omega
            go_wp2_with (at_builtin; refine wpList_append_new _ rfl (.tmp 44) (.tmp 58) 23 rfl w2.heap.size 4 i0 (.bool false) 1 1 Try.underlying23 hi hz0 hz1 hz2 rfl (by decide) _ X.length _ rfl ownX 4 _ _ rfl rfl (by simp [Value.oneCell']) (by decide) (by unfold maxLen; omega) (by omega) hbz ?_)
            intro v' w3 own3 grow3 went3
            have bel3 := belowGrown belX ownX grow3 (Nat.le_refl _) hbz
            have own4 : w3.ownsRow w2.heap.size 4 1 v' (X ++ grp (decide ((j : Int) < (c.length : Int) - 1)) d).length ((X ++ grp (decide ((j : Int) < (c.length : Int) - 1)) d).map Value.bool) := by
              rw [List.map_append, ← grp_up, List.length_append, grp_length]
              exact own3
            have HL2 : Hid ((X ++ grp (decide ((j : Int) < (c.length : Int) - 1)) d).length = l.length + 4 * (j + 1)) := by
              show _ = _
              have := HL.out
              rw [List.length_append, grp_length]; omega
            generalize X ++ grp (decide ((j : Int) < (c.length : Int) - 1)) d = Y at *
            clear own3 grow3 went3 ownX belX t9 hc HL
            obtain ⟨a10, c10, rfl, t10, n10⟩ := ownSl own4
            clear n10
            go_wp2_with fail
            go_roundw
            case rel => exact ⟨j + 1, Y, by omega, HL2.out, by go_num, own4, bel3, HY⟩
            case measure => simp [intOf]; omega
          · obtain rfl : j = c.length := by omega
            have hY := HX.out
            rw [List.drop_length, enc, List.append_nil] at hY
            clear HX HL
            subst hY
            clear t7
            go_wp2_with fail
            go_ret2
            exact ⟨a9, c9, by simp, t9, belowCall bel belX⟩)

/-- Coded, whatever it is handed. -/
theorem coded_any (ao : Option Addr) (cap : Nat) (l : List Bool) (v : Int) (w : World) (hr : Sl w ao cap (l.map Value.bool)) (hl : l.length ≤ 140737488355160) :
    Calls Try.prog 30 #[.slice ao l.length cap, .int .i64 v] w fun e w' =>
      ∃ a' G, e = .returned (.tuple #[.slice a' (zigL l v).length G, .int .i64 (zigE v)]) ∧ Sl w' a' G ((zigL l v).map Value.bool) ∧ Below w.heap.size w w' := by
  cases h : zigOk v with
  | false =>
    have hin : decide (-4000000 ≤ v ∧ v ≤ 4000000) = false := h
    have e1 : zigL l v = [] := by simp [zigL, h]
    have e2 : zigE v = 3 := by simp [zigE, h]
    rw [e1, e2]
    clear e1 e2
    go_enter Try.func30, Try.ntmps30
    go_wp2_with (go_at_call 31; refine (in_any _ _ _ _).mono ?_; rintro e w' ⟨rfl, rfl⟩; rw [hin])
    go_ret2
    exact ⟨none, 0, rfl, Sl.ofNil _, Below.refl _ _⟩
  | true =>
    refine (coded_ok ao cap l v w hr hl h).mono ?_
    rintro e' w' ⟨a', G, rfl, hs, bel⟩
    exact ⟨a', G, by simp [zigL, zigE, h], by simpa [zigL, h] using hs, bel⟩

end Go.Proofs.Ytpeeeealbfmklac
