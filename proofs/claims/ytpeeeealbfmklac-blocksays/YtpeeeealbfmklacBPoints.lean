/-
  block.Points: what it answers, whatever it is handed; nothing that was there is written.
-/
import Derived.Test.YtpeeeealbfmklacMake
namespace Go.Proofs.Ytpeeeealbfmklac
open Go.RowKit

set_option maxHeartbeats 400000 in
set_option maxRecDepth 100000 in
theorem bpoints_err (b : Bk) (ao : Option Addr) (cap : Nat) (w : World) (hr : Sl w ao cap (b.bits.map Value.bool)) (hl : b.bits.length ≤ 140737488355328) (h : ¬ unpE b.bits b.n = 0) :
    Calls Try.prog 6 #[bkV b ao cap] w fun e w' => e = .returned (.tuple #[.slice none 0 0, .int .i64 (unpE b.bits b.n)]) ∧ Below w.heap.size w w' := by
  have c1 := fun W h => unpack_any ao cap b.bits b.n W h hl
  obtain ⟨N, fr, to, X⟩ := b
  unfold bkV
  simp only at *
  generalize unpL X N = U at *
  generalize unpE X N = E at *
  clear hl
  go_enter Try.func6, Try.ntmps6
  go_wp2_with fail
  go_at_call 18
  refine (c1 _ (hr.alloc _)).mono ?_
  rintro e w1 ⟨a1, G1, rfl, s1, b1⟩
  have bel := belowCall ((Below.refl _ _).alloc (Nat.le_refl _) _) b1
  clear c1 b1
  go_wp2_with fail
  go_ret2
  exact ⟨rfl, bel⟩

set_option maxHeartbeats 400000 in
set_option maxRecDepth 100000 in
theorem bpoints_none (b : Bk) (ao : Option Addr) (cap : Nat) (w : World) (hr : Sl w ao cap (b.bits.map Value.bool)) (hl : b.bits.length ≤ 140737488355328) (h : unpE b.bits b.n = 0) (h0 : (unpL b.bits b.n).length = 0) :
    Calls Try.prog 6 #[bkV b ao cap] w fun e w' => e = .returned (.tuple #[.slice none 0 0, .int .i64 4]) ∧ Below w.heap.size w w' := by
  have c1 := fun W h => unpack_any ao cap b.bits b.n W h hl
  obtain ⟨N, fr, to, X⟩ := b
  unfold bkV
  simp only at *
  rw [h, h0] at c1
  generalize unpL X N = U at *
  clear hl h h0
  go_enter Try.func6, Try.ntmps6
  go_wp2_with fail
  go_at_call 18
  refine (c1 _ (hr.alloc _)).mono ?_
  rintro e w1 ⟨a1, G1, rfl, s1, b1⟩
  have bel := belowCall ((Below.refl _ _).alloc (Nat.le_refl _) _) b1
  clear c1 b1
  go_wp2_with fail
  go_quiet (fail)
  go_wp2_with fail
  go_ret2
  exact ⟨rfl, belowDrewN bel _⟩

set_option maxHeartbeats 400000 in
set_option maxRecDepth 100000 in
theorem bpoints_some (b : Bk) (ao : Option Addr) (cap : Nat) (w : World) (hr : Sl w ao cap (b.bits.map Value.bool)) (hl : b.bits.length ≤ 140737488355328) (h : unpE b.bits b.n = 0) (h0 : 0 < (unpL b.bits b.n).length) :
    Calls Try.prog 6 #[bkV b ao cap] w fun e w' => ∃ a' G, e = .returned (.tuple #[if fitsB b (unpL b.bits b.n) = true then .slice a' (unpL b.bits b.n).length G else .slice none 0 0, .int .i64 (if fitsB b (unpL b.bits b.n) = true then 0 else 4)]) ∧ SlP w' a' G (unpL b.bits b.n) ∧ Below w.heap.size w w' := by
  have c1 := fun W h => unpack_any ao cap b.bits b.n W h hl
  have h40 := unpL_length b.bits b.n
  obtain ⟨N, fr, to, X⟩ := b
  unfold bkV fitsB
  simp only at *
  rw [h] at c1
  generalize unpL X N = U at *
  have s0 := fun W b off cap (h : SlP W (some ⟨b, off, none⟩) cap U) => h.first h0
  have s1 := fun W b off cap (h : SlP W (some ⟨b, off, none⟩) cap U) => h.last h0
  have hne : U ≠ [] := by intro e; rw [e] at h0; simp at h0
  generalize firstT U = P at *
  generalize endT U = Q at *
  obtain ⟨n, hn⟩ : ∃ n, n + 1 = U.length := ⟨U.length - 1, by omega⟩
  rw [← hn] at c1 s1 h40 ⊢
  simp only [Nat.add_sub_cancel] at s1
  clear hl h h0 hn
  have fin : decide (0 < n + 1 ∧ fr = P ∧ to = Q) = decide (fr = P ∧ to = Q) := by simp
  rw [fin]
  clear fin
  have hz : ((n : Int) + 1 == 0) = false := by simp; omega
  by_cases g1 : fr = P
  · subst g1
    by_cases g2 : to = Q
    · subst g2
      rw [show decide (fr = fr ∧ to = to) = true by simp]
      simp only [if_true]
      go_enter Try.func6, Try.ntmps6
      go_wp2_with fail
      go_at_call 18
      refine (c1 _ (hr.alloc _)).mono ?_
      rintro e w1 ⟨a1, G1, rfl, t1, b1⟩
      have B0 := (Blk.laid w [.int .i64 N, .int .i64 fr, .int .i64 to, .slice ao X.length cap] 25 _ rfl).keep b1 (by simp)
      have bel := belowCall ((Below.refl _ _).alloc (Nat.le_refl _) _) b1
      obtain ⟨ub, uo, rfl, hub⟩ := t1.where hne
      have e0 := s0 _ _ _ _ t1
      have e1 := s1 _ _ _ _ t1
      have d1 : w1.cell? ⟨w.heap.size, 1, none⟩ = some (.int .i64 fr) := B0.cell 1
      have d2 : w1.cell? ⟨w.heap.size, 2, none⟩ = some (.int .i64 to) := B0.cell 2
      have hgl := B0.lt
      clear c1 b1 s0 s1
      go_wp2_with fail
      go_region
      go_wp2_with fail
      go_ret2
      exact ⟨_, _, rfl, t1.drewS, belowDrew bel⟩
    · rw [show decide (fr = fr ∧ to = Q) = false by simp [g2]]
      simp only [Bool.false_eq_true, if_false]
      go_enter Try.func6, Try.ntmps6
      go_wp2_with fail
      go_at_call 18
      refine (c1 _ (hr.alloc _)).mono ?_
      rintro e w1 ⟨a1, G1, rfl, t1, b1⟩
      have B0 := (Blk.laid w [.int .i64 N, .int .i64 fr, .int .i64 to, .slice ao X.length cap] 25 _ rfl).keep b1 (by simp)
      have bel := belowCall ((Below.refl _ _).alloc (Nat.le_refl _) _) b1
      obtain ⟨ub, uo, rfl, hub⟩ := t1.where hne
      have e0 := s0 _ _ _ _ t1
      have e1 := s1 _ _ _ _ t1
      have d1 : w1.cell? ⟨w.heap.size, 1, none⟩ = some (.int .i64 fr) := B0.cell 1
      have d2 : w1.cell? ⟨w.heap.size, 2, none⟩ = some (.int .i64 to) := B0.cell 2
      have hgl := B0.lt
      clear c1 b1 s0 s1
      go_wp2_with fail
      go_region
      go_wp2_with fail
      go_ret2
      exact ⟨_, _, rfl, t1.drewS, belowDrew bel⟩
  · rw [show decide (fr = P ∧ to = Q) = false by simp [g1]]
    simp only [Bool.false_eq_true, if_false]
    go_enter Try.func6, Try.ntmps6
    go_wp2_with fail
    go_at_call 18
    refine (c1 _ (hr.alloc _)).mono ?_
    rintro e w1 ⟨a1, G1, rfl, t1, b1⟩
    have B0 := (Blk.laid w [.int .i64 N, .int .i64 fr, .int .i64 to, .slice ao X.length cap] 25 _ rfl).keep b1 (by simp)
    have bel := belowCall ((Below.refl _ _).alloc (Nat.le_refl _) _) b1
    obtain ⟨ub, uo, rfl, hub⟩ := t1.where hne
    have e0 := s0 _ _ _ _ t1
    have e1 := s1 _ _ _ _ t1
    have d1 : w1.cell? ⟨w.heap.size, 1, none⟩ = some (.int .i64 fr) := B0.cell 1
    have d2 : w1.cell? ⟨w.heap.size, 2, none⟩ = some (.int .i64 to) := B0.cell 2
    have hgl := B0.lt
    clear c1 b1 s0 s1
    go_wp2_with fail
    go_quiet (fail)
    go_wp2_with fail
    go_ret2
    exact ⟨_, _, rfl, t1.drewN _, belowDrewN bel _⟩

/-- Points, whatever it is handed. -/
theorem bpoints_any (b : Bk) (ao : Option Addr) (cap : Nat) (w : World) (hr : Sl w ao cap (b.bits.map Value.bool)) (hl : b.bits.length ≤ 140737488355328) :
    Calls Try.prog 6 #[bkV b ao cap] w fun e w' => ∃ a' G, e = .returned (.tuple #[.slice a' (ptsL b).length G, .int .i64 (ptsE b)]) ∧ SlP w' a' G (ptsL b) ∧ Below w.heap.size w w' := by
  by_cases h : unpE b.bits b.n = 0
  · by_cases h0 : (unpL b.bits b.n).length = 0
    · have hf : fitsB b (unpL b.bits b.n) = false := decide_eq_false (by omega)
      have he : ptsE b = 4 := by unfold ptsE; rw [if_pos h, hf]; rfl
      have hL : ptsL b = [] := by unfold ptsL; rw [he]; rfl
      rw [he, hL]
      refine (bpoints_none b ao cap w hr hl h h0).mono ?_
      rintro e w' ⟨rfl, hb⟩
      exact ⟨none, 0, rfl, SlP.ofNil _, hb⟩
    · cases hf : fitsB b (unpL b.bits b.n) with
      | true =>
        have he : ptsE b = 0 := by unfold ptsE; rw [if_pos h, hf]; rfl
        have hL : ptsL b = unpL b.bits b.n := by unfold ptsL; rw [he]; rfl
        rw [he, hL]
        refine (bpoints_some b ao cap w hr hl h (by omega)).mono ?_
        rw [hf]
        rintro e w' ⟨a', G, rfl, hs, hb⟩
        exact ⟨a', G, rfl, hs, hb⟩
      | false =>
        have he : ptsE b = 4 := by unfold ptsE; rw [if_pos h, hf]; rfl
        have hL : ptsL b = [] := by unfold ptsL; rw [he]; rfl
        rw [he, hL]
        refine (bpoints_some b ao cap w hr hl h (by omega)).mono ?_
        rw [hf]
        rintro e w' ⟨a', G, rfl, hs, hb⟩
        exact ⟨none, 0, rfl, SlP.ofNil _, hb⟩
  · have he : ptsE b = unpE b.bits b.n := if_neg h
    have hL : ptsL b = [] := by unfold ptsL; rw [he, if_neg h]
    rw [he, hL]
    refine (bpoints_err b ao cap w hr hl h).mono ?_
    rintro e w' ⟨rfl, hb⟩
    exact ⟨none, 0, rfl, SlP.ofNil _, hb⟩

end Go.Proofs.Ytpeeeealbfmklac
