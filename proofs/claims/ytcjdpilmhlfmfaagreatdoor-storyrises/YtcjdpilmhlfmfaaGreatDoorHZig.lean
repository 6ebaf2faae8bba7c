/-
  Package zig: what fold, unfold, Put and Take return; nothing that was there is written.
-/
import Derived.Test.YtcjdpilmhlfmfaaGreatDoorP03
import Derived.Test.YtcjdpilmhlfmfaaGreatDoorP01
namespace Go.Proofs.YtcjdpilmhlfmfaaGreatDoor
open Go.RowKit

theorem fold_any (v : Int) (w : World) (h : zigOk v = true) :
    Calls Tryz.prog 242 #[.int .i64 v] w fun e w' => e = .returned (.int .i64 (foldN v)) ∧ w = w' := by
  have hv := (of_decide_eq_true h : -4000000 ≤ v ∧ v ≤ 4000000)
  have h1 := hv.1
  have h2 := hv.2
  clear hv h
  by_cases hn : v < 0
  · go_enter Tryz.func242, Tryz.ntmps242
    go_wp2_with fail
    go_ret
    refine ⟨ret_int ?_, rfl⟩
    unfold foldN
    rw [if_pos hn]; omega
  · go_enter Tryz.func242, Tryz.ntmps242
    go_wp2_with fail
    go_ret
    refine ⟨ret_int ?_, rfl⟩
    unfold foldN
    rw [if_neg (by omega)]; omega

theorem unfold_any (n : Nat) (w : World) (h : n ≤ 8000000) :
    Calls Tryz.prog 238 #[.int .i64 n] w fun e w' => e = .returned (.int .i64 (unfoldN n)) ∧ w = w' := by
  by_cases hn : n % 2 = 1
  · go_enter Tryz.func238, Tryz.ntmps238
    go_wp2_with fail
    go_ret
    refine ⟨ret_int ?_, rfl⟩
    unfold unfoldN
    rw [if_pos hn, Int.tdiv_eq_ediv_of_nonneg (by omega)]
    unfold wrap64; omega
  · go_enter Tryz.func238, Tryz.ntmps238
    go_wp2_with fail
    go_ret
    refine ⟨ret_int ?_, rfl⟩
    unfold unfoldN
    rw [if_neg hn]

theorem put_low (d : Nat) (h : d < 8) : okN (d : Int) (4 : Nat) = true := by
  unfold okN
  apply decide_eq_true
  rw [Int.toNat_natCast]; omega

theorem put_high (d : Nat) (h : d < 8) : okN ((d : Int) + 8) (4 : Nat) = true := by
  unfold okN
  apply decide_eq_true
  rw [Int.toNat_natCast]; omega

set_option maxHeartbeats 1000000 in
set_option maxRecDepth 100000 in
theorem zput_ok (ao : Option Addr) (cap : Nat) (l : List Bool) (v : Int) (w : World) (hr : Sl w ao cap (l.map Value.bool)) (hl : l.length ≤ 140737488355160) (h : zigOk v = true) :
    Calls Tryz.prog 236 #[.slice ao l.length cap, .int .i64 v] w fun e w' =>
      ∃ a' G, e = .returned (.tuple #[.slice a' (l ++ code 8 (foldN v)).length G, .int .i64 0]) ∧ Sl w' a' G ((l ++ code 8 (foldN v)).map Value.bool) ∧ Below w.heap.size w w' ∧ Kin w.heap.size ao a' := by
  have hv := (of_decide_eq_true h : -4000000 ≤ v ∧ v ≤ 4000000)
  have h1 := hv.1
  have h2 := hv.2
  have hfl := foldN_le v h
  have hfold := fun w => fold_any v w h
  clear hv h
  generalize foldN v = N at *
  go_enter Tryz.func236, Tryz.ntmps236
  go_wp2_with (go_at_call 242; refine (hfold _).mono ?_; rintro e w' ⟨rfl, rfl⟩)
  clear h1 h2 hfold
  go_loopw [0, 6, 17] (fun s n i wr => ∃ (j m G : Nat) (a' : Option Addr) (X : List Bool), j ≤ 8 ∧ m ≤ 8000000 ∧ X.length = l.length + 4 * j ∧ s = .slice a' X.length G ∧ n = .int .i64 m ∧ i = .int .i64 j ∧ X ++ code (8 - j) m = l ++ code 8 N ∧ Sl wr a' G (X.map Value.bool) ∧ Below w.heap.size w wr ∧ Kin w.heap.size ao a') (fun _ _ i _ => 8 - (intOf i).toNat)
  case atStart => exact ⟨0, N, cap, ao, l, by omega, hfl, by omega, rfl, rfl, rfl, rfl, hr, Below.refl _ _, Kin.refl _ _⟩
  case round =>
    obtain ⟨j, m, G, a', X, hj, hm, hX, rfl, rfl, rfl, hcode, hs, bel, kin⟩ := hrel
    by_cases hlt : j < 8
    · have hf : 8 - j = (8 - (j + 1)) + 1 := by omega
      have hj' : (j : Int) < 8 := by omega
      rw [hf, code] at hcode
      have hd : m % 8 < 8 := Nat.mod_lt _ (by decide)
      by_cases hz : m / 8 = 0
      · rw [if_pos hz, decide_eq_false (show ¬ 0 < m / 8 by omega), List.append_nil] at hcode
        have g1 : ¬ (0 : Int) < (m : Int) / 8 := by omega
        have g2 : (m : Int) / 8 = 0 := by omega
        have hP : ∀ W : World, Sl W a' G (X.map Value.bool) → Calls Tryz.prog 243 #[.slice a' X.length G, .int .i64 ((m : Int) % 8), .int .i64 4] W fun e w' => ∃ a' G, e = .returned (.tuple #[.slice a' (l ++ code 8 N).length G, .int .i64 0]) ∧ Sl w' a' G ((l ++ code 8 N).map Value.bool) ∧ Below W.heap.size W w' ∧ Kin W.heap.size none a' := by
          intro W hW
          rw [show (m : Int) % 8 = ((m % 8 : Nat) : Int) by omega]
          refine (put_ok a' G X _ 4 W hW.row (by decide) (put_low _ hd) (by omega)).mono ?_
          rintro e w' ⟨rfl, hB, hbel⟩
          rw [grp_low _ hd, hcode] at hB
          have hs2 := Sl.ofBlk hB (by rw [List.length_map, ← hcode, List.length_append, grp_length]; omega)
          rw [List.length_map] at hs2
          have hlen : X.length + 4 = (l ++ code 8 N).length := by rw [← hcode, List.length_append, grp_length]
          rw [hlen]
          exact ⟨_, _, rfl, hs2, hbel, Kin.new _ _ _⟩
        clear hcode hf hr hd hz hX
        go_wp2_with (go_at_call 243; refine (hP _ hs).mono ?_; rintro e w1 ⟨a1, G1, rfl, hs1, bel1, kin1⟩)
        go_ret2
        exact ⟨_, _, by simp, hs1, belowCall bel bel1, kin1.fresh bel.size⟩
      · rw [if_neg hz, decide_eq_true (show 0 < m / 8 by omega), ← List.append_assoc] at hcode
        have g1 : (0 : Int) < (m : Int) / 8 := by omega
        have g2 : ¬ (m : Int) / 8 = 0 := by omega
        have hP : ∀ W : World, Sl W a' G (X.map Value.bool) → Calls Tryz.prog 243 #[.slice a' X.length G, .int .i64 ((m : Int) % 8 + 8), .int .i64 4] W fun e w' => ∃ a' G, e = .returned (.tuple #[.slice a' (X ++ grp true (m % 8)).length G, .int .i64 0]) ∧ Sl w' a' G ((X ++ grp true (m % 8)).map Value.bool) ∧ Below W.heap.size W w' ∧ Kin W.heap.size none a' := by
          intro W hW
          rw [show (m : Int) % 8 = ((m % 8 : Nat) : Int) by omega]
          refine (put_ok a' G X _ 4 W hW.row (by decide) (put_high _ hd) (by omega)).mono ?_
          rintro e w' ⟨rfl, hB, hbel⟩
          rw [grp_high _ hd] at hB
          have hs2 := Sl.ofBlk hB (by rw [List.length_map, List.length_append, grp_length]; omega)
          rw [List.length_map] at hs2
          have hlen : X.length + 4 = (X ++ grp true (m % 8)).length := by rw [List.length_append, grp_length]
          rw [hlen]
          exact ⟨_, _, rfl, hs2, hbel, Kin.new _ _ _⟩
        have HC : Hid (X ++ grp true (m % 8) ++ code (8 - (j + 1)) (m / 8) = l ++ code 8 N) := hcode
        have HX : Hid ((X ++ grp true (m % 8)).length = l.length + 4 * (j + 1)) := by
          show _ = _
          rw [List.length_append, grp_length]; omega
        clear hcode hf hr hd hX
        generalize X ++ grp true (m % 8) = Y at *
        go_wp2_with (go_at_call 243; refine (hP _ hs).mono ?_; rintro e w1 ⟨a1, G1, rfl, hs1, bel1, kin1⟩)
        go_roundw
        case rel => exact ⟨j + 1, m / 8, G1, a1, Y, by omega, by omega, HX.out, rfl, by go_num, by go_num, HC.out, hs1, belowCall bel bel1, kin1.fresh bel.size⟩
        case measure => simp [intOf]; omega
    · obtain rfl : j = 8 := by omega
      rw [Nat.sub_self, code, List.append_nil] at hcode
      subst hcode
      go_wp2_with fail
      go_ret2
      exact ⟨_, _, rfl, hs, bel, kin⟩

set_option maxHeartbeats 1000000 in
set_option maxRecDepth 100000 in
/-- Take, whatever it is handed, with where the rest lies. -/
theorem ztake_kin (ao : Option Addr) (cap : Nat) (l : List Bool) (w : World) (hr : Sl w ao cap (l.map Value.bool)) (hl : l.length ≤ 140737488355328) :
    Calls Tryz.prog 216 #[.slice ao l.length cap] w fun e w' =>
      ∃ a' G, e = .returned (.tuple #[.int .i64 (zigN l), .slice a' (zigR l).length G, .int .i64 (zigF l)]) ∧ Sl w' a' G ((zigR l).map Value.bool) ∧ Below w.heap.size w w' ∧ Kin w.heap.size ao a' := by
  unfold zigN zigR zigF
  obtain ⟨D, hD⟩ : ∃ D, D = decode 8 0 0 l := ⟨_, rfl⟩
  rw [← hD]
  go_enter Tryz.func216, Tryz.ntmps216
  go_wp2_with fail
  go_loopw [0, 5, 10] (fun s n i wr => ∃ (j m G : Nat) (a' : Option Addr) (X : List Bool), j ≤ 8 ∧ m ≤ 8000000 ∧ X.length ≤ l.length ∧ s = .slice a' X.length G ∧ n = .int .i64 m ∧ i = .int .i64 j ∧ D = decode (8 - j) j m X ∧ Sl wr a' G (X.map Value.bool) ∧ Below w.heap.size w wr ∧ Kin w.heap.size ao a') (fun _ _ i _ => 8 - (intOf i).toNat)
  case atStart => exact ⟨0, 0, cap, ao, l, by omega, by omega, by omega, rfl, rfl, rfl, hD, hr, Below.refl _ _, Kin.refl _ _⟩
  case round =>
    obtain ⟨j, m, G, a', X, hj, hm, hX, rfl, rfl, rfl, hdec, hs, bel, kin⟩ := hrel
    clear hr hD
    by_cases hlt : j < 8
    · have hj' : (j : Int) < 8 := by omega
      rw [show 8 - j = (8 - (j + 1)) + 1 by omega, decode] at hdec
      by_cases h4 : X.length < 4
      · rw [if_pos h4] at hdec
        subst hdec
        have h4' : (X.length : Int) < 4 := by omega
        go_wp2_with (go_at_call 237; refine (take_torn _ _ _ _ _ (by decide) h4').mono ?_; rintro e w1 ⟨rfl, rfl⟩)
        go_ret3
        exact ⟨none, 0, rfl, Sl.ofNil _, bel, Kin.nil _ _⟩
      · rw [if_neg h4] at hdec
        have hT : ∀ W : World, Sl W a' G (X.map Value.bool) → Calls Tryz.prog 237 #[.slice a' X.length G, .int .i64 4] W fun e w' => ∃ a' G, e = .returned (.tuple #[.int .i64 (numOf (X.take 4)), .slice a' (X.drop 4).length G, .int .i64 0]) ∧ Sl w' a' G ((X.drop 4).map Value.bool) ∧ Below W.heap.size W w' ∧ Kin W.heap.size none a' := by
          intro W hW
          have hle := hW.le
          rw [List.length_map] at hle
          refine (take_ok a' G X 4 W hW.row (by decide) (by omega) (by omega) hle hW.max).mono ?_
          rintro e w' ⟨rfl, hB, hbel⟩
          have hs2 := Sl.ofBlk hB (by rw [List.length_map, List.length_drop]; omega)
          rw [List.length_map, List.length_drop] at hs2
          rw [List.length_drop]
          exact ⟨_, _, rfl, hs2, hbel, Kin.new _ _ _⟩
        have hg16 : numOf (X.take 4) < 16 := numOf_take_lt X 4
        have hXd : (X.drop 4).length ≤ l.length := by rw [List.length_drop]; omega
        generalize numOf (X.take 4) = g at *
        generalize X.drop 4 = Y at *
        have HD := hide hdec
        clear hdec h4
        by_cases h0 : 0 < j ∧ g = 0
        · obtain ⟨hj0, rfl⟩ := h0
          have hj1 : (0 : Int) < (j : Int) := by omega
          have HD' := HD.out
          rw [if_pos ⟨hj0, rfl⟩] at HD'
          subst HD'
          clear HD
          go_wp2_with (go_at_call 237; refine (hT _ hs).mono ?_; rintro e w1 ⟨a1, G1, rfl, hs1, bel1, kin1⟩)
          go_ret3
          exact ⟨none, 0, rfl, Sl.ofNil _, belowCall bel bel1, Kin.nil _ _⟩
        · have HD' := HD.out
          rw [if_neg h0] at HD'
          clear HD
          have hd2 : (decide ((0 : Int) < (j : Int)) && ((g : Int) == 0)) = false := by
            rw [Bool.eq_false_iff]; simp; omega
          have hp8 : (8 : Nat) ^ j ≤ 8 ^ 7 := Nat.pow_le_pow_right (by decide) (by omega)
          have hple : g % 8 * 8 ^ j ≤ 7 * 8 ^ 7 := Nat.mul_le_mul (by omega) hp8
          have hsh : wrap64 ((g : Int) % 8 * 2 ^ (j * 3)) = ((g % 8 * 8 ^ j : Nat) : Int) := by
            have h23 : (2 : Int) ^ (j * 3) = ((8 ^ j : Nat) : Int) := by
              rw [Nat.mul_comm, Int.pow_mul]
              simp
            rw [h23, show (g : Int) % 8 = ((g % 8 : Nat) : Int) by omega, ← Int.natCast_mul]
            unfold wrap64; omega
          generalize g % 8 * 8 ^ j = p at *
          clear hp8
          by_cases hbig : 8000000 < m + p
          · rw [if_pos hbig] at HD'
            subst HD'
            have hb' : (8000000 : Int) < (m : Int) + (p : Int) := by omega
            go_wp2_with (go_at_call 237; refine (hT _ hs).mono ?_; rintro e w1 ⟨a1, G1, rfl, hs1, bel1, kin1⟩)
            all_goals go_ret3
            all_goals exact ⟨none, 0, rfl, Sl.ofNil _, belowCall bel bel1, Kin.nil _ _⟩
          · rw [if_neg hbig] at HD'
            have hb' : ¬ (8000000 : Int) < (m : Int) + (p : Int) := by omega
            by_cases hg8 : g < 8
            · rw [if_pos hg8] at HD'
              subst HD'
              have hg8' : (g : Int) < 8 := by omega
              go_wp2_with (first | (go_at_call 237; refine (hT _ hs).mono ?_; rintro e w1 ⟨a1, G1, rfl, hs1, bel1, kin1⟩) | (go_at_call 238; rw [show (m : Int) + (p : Int) = ((m + p : Nat) : Int) from rfl]; refine (unfold_any (m + p) _ (by omega)).mono ?_; rintro e w2 ⟨rfl, rfl⟩))
              all_goals go_ret3
              all_goals exact ⟨a1, G1, rfl, hs1, belowCall bel bel1, kin1.fresh bel.size⟩
            · rw [if_neg hg8] at HD'
              have HD := hide HD'
              have hg8' : ¬ (g : Int) < 8 := by omega
              clear HD'
              go_wp2_with (go_at_call 237; refine (hT _ hs).mono ?_; rintro e w1 ⟨a1, G1, rfl, hs1, bel1, kin1⟩)
              all_goals go_roundw
              all_goals first
                | exact ⟨j + 1, m + p, G1, a1, Y, by omega, by omega, hXd, rfl, by go_num, by go_num, HD.out, hs1, belowCall bel bel1, kin1.fresh bel.size⟩
                | (simp [intOf]; omega)
    · obtain rfl : j = 8 := by omega
      rw [Nat.sub_self, decode] at hdec
      subst hdec
      go_wp2_with fail
      go_ret3
      exact ⟨none, 0, rfl, Sl.ofNil _, bel, Kin.nil _ _⟩

end Go.Proofs.YtcjdpilmhlfmfaaGreatDoor
