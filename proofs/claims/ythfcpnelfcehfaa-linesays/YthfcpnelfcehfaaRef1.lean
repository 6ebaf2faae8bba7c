/-
  The reference's answers of chapter 1, BitsOf and Taken: what they return; nothing that was there is written.
-/
import Derived.Test.YthfcpnelfcehfaaBitsAny
import Derived.Test.YthfcpnelfcehfaaIn
import Derived.Test.YthfcpnelfcehfaaConcat
namespace Go.Proofs.Ythfcpnelfcehfaa
open Go.RowKit

set_option maxHeartbeats 1000000 in
set_option maxRecDepth 100000 in
theorem ref_put_ok (ao : Option Addr) (cap : Nat) (l : List Bool) (n : Int) (k : Nat) (w : World) (hr : Sl w ao cap (l.map Value.bool)) (hk : k ≤ 40) (hn : okN n k = true) (hl : l.length ≤ 140737488351232) :
    Calls Try.prog 12 #[.slice ao l.length cap, .int .i64 n, .int .i64 k] w fun e w' =>
      ∃ a' G, e = .returned (.tuple #[.slice a' (l ++ bitsOf n k).length G, .int .i64 0]) ∧ Sl w' a' G ((l ++ bitsOf n k).map Value.bool) ∧ Below w.heap.size w w' := by
  obtain ⟨i0, hi, hz0, hz1, hz2⟩ := info_parts infoBool
  have hN := (of_decide_eq_true hn : 0 ≤ n ∧ n < 2 ^ (k : Int).toNat)
  have hp := pow_le_40 k hk
  have hp0 := pow_pos k
  have hn0 : 0 ≤ n := hN.1
  have hn2 : n < 2 ^ k := by
    have h2 := hN.2
    rw [Int.toNat_natCast] at h2
    exact h2
  have hn1 : n ≤ 1099511627776 := by omega
  clear hN hn
  have hn3 : n ≤ 2 ^ k - 1 := by omega
  clear hn2
  go_enter Try.func12, Try.ntmps12
  go_wp2_with (first | (go_at_call 33; refine (in_any _ _ _ _).mono ?_; rintro e w' ⟨rfl, rfl⟩) | (at_make; refine wpList_make_full _ rfl (.tmp 21) (.tmp 21) 27 rfl w.heap.size 4 i0 (.bool false) 1 Try.underlying27 hi hz0 hz1 _ _ _ _ k rfl rfl rfl rfl (by rw [hz2]; omega) (by unfold maxLen; omega) (Nat.le_refl _) ?_))
  intro w1 hown hgrow
  have B0 := madeBlk hown
  have bel0 : Below w.heap.size w w1 := (Below.refl _ _).grown hgrow (Nat.le_refl _) (fun k h => by cases h)
  have hs1 := hr.keep bel0 (Nat.le_refl _)
  clear hown hgrow hn3 hp hp0
  go_wp2_with fail
  go_loopw [1, 9] (fun v i wr => ∃ j : Nat, j ≤ k ∧ v = .int .i64 (n / 2 ^ j) ∧ i = .int .i64 ((k : Int) - 1 - j) ∧ Blk wr w.heap.size (List.replicate (k - j) (Value.bool false) ++ ((bitsOf n k).drop (k - j)).map Value.bool) 4 ∧ Below w.heap.size w wr) (fun _ i _ => (intOf i + 1).toNat)
  case atStart => exact ⟨0, Nat.zero_le _, by simp, by simp, by simpa [List.drop_eq_nil_of_le, length_bitsOf] using B0, bel0⟩
  case round =>
    obtain ⟨j, hj, rfl, rfl, B, bel⟩ := hrel
    have hv0 := (shifted_bounds n j hn0 (by omega)).1
    have hv1 : n / 2 ^ j ≤ 1099511627776 := Int.le_trans (Int.ediv_le_self _ hn0) hn1
    by_cases hlt : j < k
    · have e1 : ∃ v, wr.cell? ⟨w.heap.size, k - 1 - j, none⟩ = some v := by
        rw [B.cell]
        exact ⟨_, List.getElem?_eq_getElem (by simp [length_bitsOf]; omega)⟩
      obtain ⟨v1, e1⟩ := e1
      have e2 := B.free (k - 1 - j)
      have hge : (0 : Int) ≤ (k : Int) - 1 - j := by omega
      clear B0 bel0 hr hs1
      go_wp2_with fail
      go_roundw
      case rel =>
        refine ⟨j + 1, by omega, ?_, by go_num, ?_, bel.setCell (Nat.le_refl _) _⟩
        · rw [half_half]
        · have h := B.set (k - 1 - j) (.bool (bitAt n j))
          rw [ref_step n k j hlt] at h
          rw [bit_ref]
          exact h
      case measure => simp [intOf]; omega
    · obtain rfl : j = k := by omega
      have B' : Blk wr w.heap.size ((bitsOf n j).map Value.bool) 4 := by simpa using B
      have hlen : ((bitsOf n j).map Value.bool).length = j := by rw [List.length_map, length_bitsOf]
      have t2 : Sl wr (some ⟨w.heap.size, 0, none⟩) j ((bitsOf n j).map Value.bool) := by
        have h := Sl.ofBlk B' (by omega)
        rw [hlen] at h
        exact h
      have t1 := hr.keep bel (Nat.le_refl _)
      have HL : Hid (((bitsOf n j).map Value.bool).length = j) := hlen
      clear B0 bel0 hr hs1 hlen B B'
      go_wp2_with fail
      have e0 : (wr.alloc (Obj.cells #[Value.slice ao l.length cap, Value.slice (some ⟨w.heap.size, 0, none⟩) j j] 27)).cell? ⟨wr.heap.size, 0, none⟩ = some (.slice ao (l.map Value.bool).length cap) := by
        rw [World.cell?_alloc_at (hn := rfl)]; simp
      have e1 : (wr.alloc (Obj.cells #[Value.slice ao l.length cap, Value.slice (some ⟨w.heap.size, 0, none⟩) j j] 27)).cell? ⟨wr.heap.size, 1, none⟩ = some (.slice (some ⟨w.heap.size, 0, none⟩) ((bitsOf n j).map Value.bool).length j) := by
        rw [World.cell?_alloc_at (hn := rfl), HL.out]; simp
      have belA := (Below.refl wr.heap.size wr).alloc (Nat.le_refl _) (Obj.cells #[Value.slice ao l.length cap, Value.slice (some ⟨w.heap.size, 0, none⟩) j j] 27)
      refine (concat_any wr.heap.size _ _ _ _ _ _ _ e0 e1 (t1.keep belA (Nat.le_refl _)) (t2.keep belA (Nat.le_refl _)) (bools_one _) (bools_one _) (by rw [HL.out, List.length_map]; omega) (by simp)).mono ?_
      rintro e w2 ⟨a', G, rfl, hs2, bel2⟩
      clear e0 e1
      have hsz := bel.size
      have belE : Below w.heap.size w w2 := (bel.trans (belA.mono hsz)).trans (bel2.mono (by simp; omega))
      rw [← List.map_append] at hs2 ⊢
      rw [List.length_map]
      go_wp2_with fail
      go_ret2
      exact ⟨a', G, by simp, hs2, belE⟩

theorem ref_put_no (ao : Option Addr) (len cap : Nat) (n width : Int) (w : World) (h : okW width = false ∨ okN n width = false) :
    Calls Try.prog 12 #[.slice ao len cap, .int .i64 n, .int .i64 width] w fun e w' => e = .returned (.tuple #[.slice none 0 0, .int .i64 3]) ∧ w = w' := by
  cases hw : okW width with
  | false =>
    have hr := okW_false hw
    clear h hw
    have d1 : decide ((0 : Int) ≤ width ∧ width ≤ 40) = false := by simp; omega
    go_enter Try.func12, Try.ntmps12
    go_wp2_with (go_at_call 33; refine (in_any _ _ _ _).mono ?_; rintro e w' ⟨rfl, rfl⟩; rw [d1])
    go_ret2
    exact ⟨rfl, rfl⟩
  | true =>
    have hn : okN n width = false := by
      rcases h with h | h
      · rw [hw] at h; cases h
      · exact h
    clear h
    obtain ⟨h0, h1⟩ := okW_true hw
    clear hw
    obtain ⟨k, rfl⟩ := Int.eq_ofNat_of_zero_le h0
    have hN := (of_decide_eq_false hn : ¬ (0 ≤ n ∧ n < 2 ^ (k : Int).toNat))
    rw [Int.toNat_natCast] at hN
    have hp := pow_le_40 k (by omega)
    have hp0 := pow_pos k
    have d2 : decide ((0 : Int) ≤ n ∧ n ≤ 2 ^ k - 1) = false := by simp; omega
    clear hN hn
    go_enter Try.func12, Try.ntmps12
    go_wp2_with (go_at_call 33; refine (in_any _ _ _ _).mono ?_; rintro e w' ⟨rfl, rfl⟩; try rw [d2])
    go_ret2
    exact ⟨rfl, rfl⟩

/-- BitsOf, whatever it is handed. -/
theorem ref_put_any (ao : Option Addr) (cap : Nat) (l : List Bool) (n width : Int) (w : World) (hr : Sl w ao cap (l.map Value.bool)) (hl : l.length ≤ 140737488351232) :
    Calls Try.prog 12 #[.slice ao l.length cap, .int .i64 n, .int .i64 width] w fun e w' =>
      ∃ a' G, e = .returned (.tuple #[.slice a' (putL l n width).length G, .int .i64 (putE n width)]) ∧ Sl w' a' G ((putL l n width).map Value.bool) ∧ Below w.heap.size w w' := by
  cases hw : okW width with
  | false =>
    have e : putOk n width = false := by simp [putOk, hw]
    refine (ref_put_no ao l.length cap n width w (.inl hw)).mono ?_
    rintro e' w' ⟨rfl, rfl⟩
    exact ⟨none, 0, by simp [putL, putE, e], by simpa [putL, e] using Sl.ofNil w, Below.refl _ _⟩
  | true =>
    cases hn : okN n width with
    | false =>
      have e : putOk n width = false := by simp [putOk, hn]
      refine (ref_put_no ao l.length cap n width w (.inr hn)).mono ?_
      rintro e' w' ⟨rfl, rfl⟩
      exact ⟨none, 0, by simp [putL, putE, e], by simpa [putL, e] using Sl.ofNil w, Below.refl _ _⟩
    | true =>
      have e : putOk n width = true := by simp [putOk, hw, hn]
      obtain ⟨h0, h1⟩ := okW_true hw
      obtain ⟨k, rfl⟩ := Int.eq_ofNat_of_zero_le h0
      refine (ref_put_ok ao cap l n k w hr (by omega) hn hl).mono ?_
      rintro e' w' ⟨a', G, rfl, hs, hb⟩
      exact ⟨a', G, by simp [putL, putE, e], by simpa [putL, e] using hs, hb⟩

set_option maxHeartbeats 1000000 in
set_option maxRecDepth 100000 in
theorem ref_take_ok (b off cap : Nat) (l : List Bool) (k : Nat) (w : World) (hcell : ∀ i v, (l.map Value.bool)[i]? = some v → w.cell? ⟨b, off + i, none⟩ = some v) (hk : k ≤ 40) (hkl : k ≤ l.length) (hc : l.length ≤ cap) (hc2 : cap ≤ 9223372036854775807) :
    Calls Try.prog 13 #[.slice (some ⟨b, off, none⟩) l.length cap, .int .i64 k] w fun e w' =>
      ∃ a', (cap ≠ k → a' = some ⟨b, off + k, none⟩) ∧ a' ≠ none ∧ e = .returned (.tuple #[.int .i64 (numOf (l.take k)), .slice a' (l.length - k) (cap - k), .int .i64 0]) ∧ ∃ q, w' = w.drewN q := by
  have g := fun j hj => boolAt hcell j hj
  have hge : ¬ (l.length : Int) < (k : Int) := by omega
  have hk40 : (k : Int) ≤ 40 := by omega
  go_enter Try.func13, Try.ntmps13
  go_wp2_with (go_at_call 33; refine (in_any _ _ _ _).mono ?_; rintro e w' ⟨rfl, rfl⟩)
  go_loop [7, 8, 9] (fun n p i => ∃ j : Nat, j ≤ k ∧ n = .int .i64 (numOf ((l.take k).drop (k - j))) ∧ p = .int .i64 (2 ^ j) ∧ i = .int .i64 ((k : Int) - 1 - j)) (fun _ _ i => (intOf i + 1).toNat)
  case atStart => exact ⟨0, Nat.zero_le _, by simp [numOf], by simp, by simp⟩
  case round =>
    obtain ⟨j, hj, rfl, rfl, rfl⟩ := hrel
    by_cases hlt : j < k
    · have e1 := g (k - 1 - j) (by omega)
      have hN := numOf_behind l k j hkl hlt
      have hM : numOf ((l.take k).drop (k - j)) < 1099511627776 := by
        have h1 := numOf_behind_lt l k j hkl hj
        have h2 := pow_le_nat j 40 (by omega)
        omega
      have hp := pow_le_40 j (by omega)
      have hp0 := pow_pos j
      have hps : (2 : Int) ^ (j + 1) = 2 ^ j * 2 := Int.pow_succ 2 j
      have hcast : ((2 ^ j : Nat) : Int) = (2 : Int) ^ j := by simp
      generalize numOf ((l.take k).drop (k - j)) = m at *
      generalize l.getD (k - 1 - j) false = x at *
      have HN : Hid (numOf ((l.take k).drop (k - (j + 1))) = x.toNat * 2 ^ j + m) := hN
      have HP : Hid ((2 : Int) ^ (j + 1) = 2 ^ j * 2) := hps
      have HC : Hid (((2 ^ j : Nat) : Int) = (2 : Int) ^ j) := hcast
      have hge : (0 : Int) ≤ (k : Int) - 1 - j := by omega
      clear hN g hcell hps hcast
      cases x
      · go_wp2_with fail
        go_round
        case rel => exact ⟨j + 1, by omega, by rw [HN.out]; simp, by rw [HP.out], by go_num⟩
        case measure => simp [intOf]; omega
      · go_wp2_with fail
        go_round
        case rel => exact ⟨j + 1, by omega, by rw [HN.out]; simp; omega, by rw [HP.out], by go_num⟩
        case measure => simp [intOf]; omega
    · obtain rfl : j = k := by omega
      clear g hcell
      by_cases hcj : cap = j
      · subst hcj
        have hlc : l.length = cap := by omega
        go_wp2_with fail
        go_region
        all_goals go_wp2
        all_goals go_ret3
        all_goals exact ⟨some ⟨b, off, none⟩, fun h => absurd rfl h, by simp, by simp [hlc], 1, rfl⟩
      · go_wp2_with fail
        go_region
        all_goals go_wp2
        all_goals go_ret3
        all_goals exact ⟨some ⟨b, off + j, none⟩, fun _ => rfl, by simp, rfl, 1, rfl⟩

set_option maxHeartbeats 1000000 in
set_option maxRecDepth 100000 in
theorem ref_take_nil (ao : Option Addr) (cap : Nat) (w : World) :
    Calls Try.prog 13 #[.slice ao 0 cap, .int .i64 0] w fun e w' => e = .returned (.tuple #[.int .i64 0, .slice ao 0 cap, .int .i64 0]) ∧ ∃ q, w' = w.drewN q := by
  go_enter Try.func13, Try.ntmps13
  go_wp2_with (go_at_call 33; refine (in_any _ _ _ _).mono ?_; rintro e w' ⟨rfl, rfl⟩)
  refine wp_loop_rounds 1 ?_
  rw [rounds_succ]
  go_wp2_with fail
  go_region
  all_goals go_wp2
  all_goals go_ret3
  all_goals exact ⟨rfl, 1, rfl⟩

theorem ref_take_range (ao : Option Addr) (len cap : Nat) (width : Int) (w : World) (h : okW width = false) :
    Calls Try.prog 13 #[.slice ao len cap, .int .i64 width] w fun e w' => e = .returned (.tuple #[.int .i64 0, .slice none 0 0, .int .i64 3]) ∧ w = w' := by
  have hr := okW_false h
  clear h
  have d1 : decide ((0 : Int) ≤ width ∧ width ≤ 40) = false := by simp; omega
  go_enter Try.func13, Try.ntmps13
  go_wp2_with (go_at_call 33; refine (in_any _ _ _ _).mono ?_; rintro e w' ⟨rfl, rfl⟩; rw [d1])
  go_ret3
  exact ⟨rfl, rfl⟩

theorem ref_take_torn (ao : Option Addr) (len cap : Nat) (width : Int) (w : World) (h : okW width = true) (hlt : (len : Int) < width) :
    Calls Try.prog 13 #[.slice ao len cap, .int .i64 width] w fun e w' => e = .returned (.tuple #[.int .i64 0, .slice none 0 0, .int .i64 8]) ∧ w = w' := by
  obtain ⟨h0, h1⟩ := okW_true h
  clear h
  go_enter Try.func13, Try.ntmps13
  go_wp2_with (go_at_call 33; refine (in_any _ _ _ _).mono ?_; rintro e w' ⟨rfl, rfl⟩)
  go_ret3
  exact ⟨rfl, rfl⟩

/-- Taken, whatever it is handed. -/
theorem ref_take_any (ao : Option Addr) (cap : Nat) (l : List Bool) (width : Int) (w : World) (hr : Sl w ao cap (l.map Value.bool)) :
    Calls Try.prog 13 #[.slice ao l.length cap, .int .i64 width] w fun e w' =>
      ∃ a' G, e = .returned (.tuple #[.int .i64 (takeN l width), .slice a' (takeL l width).length G, .int .i64 (takeE l width)]) ∧ Sl w' a' G ((takeL l width).map Value.bool) ∧ Below w.heap.size w w' := by
  cases hw : okW width with
  | false =>
    have e : takeOk l width = false := by simp [takeOk, hw]
    refine (ref_take_range ao l.length cap width w hw).mono ?_
    rintro e' w' ⟨rfl, rfl⟩
    exact ⟨none, 0, by simp [takeL, takeE, takeN, e, hw], by simpa [takeL, e] using Sl.ofNil w, Below.refl _ _⟩
  | true =>
    by_cases hn : width ≤ l.length
    · have e : takeOk l width = true := by simp [takeOk, hw, hn]
      obtain ⟨h0, h1⟩ := okW_true hw
      obtain ⟨k, rfl⟩ := Int.eq_ofNat_of_zero_le h0
      have hle := hr.le
      have hmax := hr.max
      rw [List.length_map] at hle
      rcases hr.row with hnil | ⟨b, off, rfl, hb, hcell⟩
      · obtain rfl : l = [] := by simpa using hnil
        obtain rfl : k = 0 := by simp at hn; omega
        refine (ref_take_nil ao cap w).mono ?_
        rintro e' w' ⟨rfl, q, rfl⟩
        refine ⟨ao, cap, rfl, ?_, belowDrewN (Below.refl _ _) q⟩
        rw [show takeL [] ((0 : Nat) : Int) = [] by simp [takeL]]
        exact ⟨.inl rfl, Nat.zero_le _, hr.max, hr.nil⟩
      · refine (ref_take_ok b off cap l k w hcell (by omega) (by omega) hle hmax).mono ?_
        rintro e' w' ⟨a', ha, hne, rfl, q, rfl⟩
        refine ⟨a', cap - k, by simp [takeL, takeE, takeN, e], ?_, belowDrewN (Below.refl _ _) q⟩
        rw [show takeL l (k : Int) = l.drop k by simp [takeL, e]]
        refine ⟨?_, by simp; omega, by omega, fun h => absurd h hne⟩
        by_cases hd : l.length = k
        · exact .inl (by simp; omega)
        · refine .inr ⟨b, off + k, ha (by omega), hb, fun i v hv => ?_⟩
          rw [Nat.add_assoc]
          refine hcell (k + i) v ?_
          rw [List.getElem?_map, List.getElem?_drop] at hv
          rw [List.getElem?_map]
          exact hv
    · have e : takeOk l width = false := by simp [takeOk, hn]
      refine (ref_take_torn ao l.length cap width w hw (by omega)).mono ?_
      rintro e' w' ⟨rfl, rfl⟩
      exact ⟨none, 0, by simp [takeL, takeE, takeN, e, hw], by simpa [takeL, e] using Sl.ofNil w, Below.refl _ _⟩

end Go.Proofs.Ythfcpnelfcehfaa
