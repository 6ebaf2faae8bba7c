/-
  block.Make: what it answers, whatever it is handed; nothing that was there is written.
-/
import Derived.Deep.DeepAppendWide
import Derived.Laws.AppendOwnNone
import Derived.Lib.SliceRun
import Derived.Test.YtnpikbpngohimaaP05
import Derived.Test.YtnpikbpngohimaaP10
import Derived.Test.YtnpikbpngohimaaP02
import Derived.Test.YtnpikbpngohimaaP04
import Derived.Test.YtnpikbpngohimaaP01
import Derived.Test.YtnpikbpngohimaaP07
namespace Go.Proofs.Ytnpikbpngohimaa
open Go.RowKit

set_option maxHeartbeats 400000 in
set_option maxRecDepth 100000 in
theorem make_ok (ao : Option Addr) (cap : Nat) (l : List Pt) (w : World) (hr : SlP w ao cap l) (h : checkE l = 0) (hl : 0 < l.length) :
    Calls Try.prog 48 #[.slice ao l.length cap] w fun e w' =>
      ∃ a' G, e = .returned (.tuple #[.agg #[.int .i64 l.length, .int .i64 (firstT l), .int .i64 (endT l), .slice a' (packL l).length G], .int .i64 0]) ∧ Sl w' a' G ((packL l).map Value.bool) ∧ Below w.heap.size w w' := by
  have c1 := fun W h => pack_any ao cap l W h
  rw [h] at c1
  have h40 := (checkE_zero h).1
  obtain ⟨b, off, rfl, hb⟩ := hr.where (by intro e; rw [e] at hl; simp at hl)
  have s0 := fun W (h : SlP W (some ⟨b, off, none⟩) cap l) => h.first hl
  have s1 := fun W (h : SlP W (some ⟨b, off, none⟩) cap l) => h.last hl
  generalize packL l = P at *
  generalize firstT l = X at *
  generalize endT l = Y at *
  obtain ⟨n, hn⟩ : ∃ n, n + 1 = l.length := ⟨l.length - 1, by omega⟩
  rw [← hn] at c1 s1 h40 ⊢
  clear hn hl h
  go_enter Try.func48, Try.ntmps48
  go_wp2_with fail
  go_at_call 86
  refine (c1 _ (hr.alloc _)).mono ?_
  rintro e w1 ⟨a1, G1, rfl, t1, b1⟩
  have B0 := (Blk.laid w [.int .i64 0, .int .i64 0, .int .i64 0, .slice none 0 0] 83 _ rfl).keep b1 (by simp)
  have bel := belowCall ((Below.refl _ _).alloc (Nat.le_refl _) _) b1
  have hr1 := (hr.alloc _).call b1
  have e0 := s0 _ hr1
  have e1 := s1 _ hr1
  clear c1 s0 s1 b1
  simp only [Nat.add_sub_cancel] at e1
  have f0 := B0.free 0
  have f1 := B0.free 1
  have f2 := B0.free 2
  have f3 := B0.free 3
  have d0 : w1.cell? ⟨w.heap.size, 0, none⟩ = some (.int .i64 0) := B0.cell 0
  have d1 : w1.cell? ⟨w.heap.size, 1, none⟩ = some (.int .i64 0) := B0.cell 1
  have d2 : w1.cell? ⟨w.heap.size, 2, none⟩ = some (.int .i64 0) := B0.cell 2
  have d3 : w1.cell? ⟨w.heap.size, 3, none⟩ = some (.slice none 0 0) := B0.cell 3
  have hgl := B0.lt
  go_wp2_with fail
  go_region
  go_wp2_with fail
  have B4 := (B0.put4 (.int .i64 ((n : Int) + 1)) (.int .i64 X) (.int .i64 Y) (.slice a1 P.length G1)).drewS
  have bel4 := belowDrew (below4 bel (g := w.heap.size) (Nat.le_refl _) (.int .i64 ((n : Int) + 1)) (.int .i64 X) (.int .i64 Y) (.slice a1 P.length G1))
  have t4 := (t1.put4 B0 (.int .i64 ((n : Int) + 1)) (.int .i64 X) (.int .i64 Y) (.slice a1 P.length G1)).drewS
  generalize (World.setCell _ _ _).drew = w5 at *
  have i0 : w5.cell? ⟨w.heap.size, 0, none⟩ = some (.int .i64 ((n : Int) + 1)) := B4.cell 0
  have i1 : w5.cell? ⟨w.heap.size, 1, none⟩ = some (.int .i64 X) := B4.cell 1
  have i2 : w5.cell? ⟨w.heap.size, 2, none⟩ = some (.int .i64 Y) := B4.cell 2
  have i3 : w5.cell? ⟨w.heap.size, 3, none⟩ = some (.slice a1 P.length G1) := B4.cell 3
  exact bodyPost_ret (v := .tuple #[.agg #[.int .i64 ((n : Int) + 1), .int .i64 X, .int .i64 Y, .slice a1 P.length G1], .int .i64 0]) (by simp [results, Try.results48, go_sem, i0, i1, i2, i3]) rfl ⟨a1, G1, by simp, t4, bel4⟩

set_option maxHeartbeats 400000 in
set_option maxRecDepth 100000 in
theorem make_no (ao : Option Addr) (cap : Nat) (l : List Pt) (w : World) (hr : SlP w ao cap l) (h : ¬ makeE l = 0) :
    Calls Try.prog 48 #[.slice ao l.length cap] w fun e w' =>
      e = .returned (.tuple #[.agg #[.int .i64 0, .int .i64 0, .int .i64 0, .slice none 0 0], .int .i64 (makeE l)]) ∧ Below w.heap.size w w' := by
  have c1 := fun W h => pack_any ao cap l W h
  unfold makeE at h ⊢
  by_cases h0 : checkE l = 0
  · rw [h0] at c1
    rw [if_pos h0] at h ⊢
    by_cases h1 : l.length = 0
    · rw [if_pos h1, h1]
      rw [h1] at c1
      generalize packL l = P at *
      clear h h0 h1
      go_enter Try.func48, Try.ntmps48
      go_wp2_with fail
      go_at_call 86
      refine (c1 _ (hr.alloc _)).mono ?_
      rintro e w1 ⟨a1, G1, rfl, t1, b1⟩
      have B0 := (Blk.laid w [.int .i64 0, .int .i64 0, .int .i64 0, .slice none 0 0] 83 _ rfl).keep b1 (by simp)
      have bel := belowCall ((Below.refl _ _).alloc (Nat.le_refl _) _) b1
      clear c1 b1
      have f0 := B0.free 0
      have f1 := B0.free 1
      have f2 := B0.free 2
      have f3 := B0.free 3
      have d0 : w1.cell? ⟨w.heap.size, 0, none⟩ = some (.int .i64 0) := B0.cell 0
      have d1 : w1.cell? ⟨w.heap.size, 1, none⟩ = some (.int .i64 0) := B0.cell 1
      have d2 : w1.cell? ⟨w.heap.size, 2, none⟩ = some (.int .i64 0) := B0.cell 2
      have d3 : w1.cell? ⟨w.heap.size, 3, none⟩ = some (.slice none 0 0) := B0.cell 3
      have hgl := B0.lt
      go_wp2_with fail
      have B4 := B0.put4 (.int .i64 0) (.int .i64 0) (.int .i64 0) (.slice none 0 0)
      have bel4 := below4 bel (g := w.heap.size) (Nat.le_refl _) (.int .i64 0) (.int .i64 0) (.int .i64 0) (.slice none 0 0)
      generalize World.setCell _ _ _ = w5 at *
      have i0 : w5.cell? ⟨w.heap.size, 0, none⟩ = some (.int .i64 0) := B4.cell 0
      have i1 : w5.cell? ⟨w.heap.size, 1, none⟩ = some (.int .i64 0) := B4.cell 1
      have i2 : w5.cell? ⟨w.heap.size, 2, none⟩ = some (.int .i64 0) := B4.cell 2
      have i3 : w5.cell? ⟨w.heap.size, 3, none⟩ = some (.slice none 0 0) := B4.cell 3
      exact bodyPost_ret (v := .tuple #[.agg #[.int .i64 0, .int .i64 0, .int .i64 0, .slice none 0 0], .int .i64 4]) (by simp [results, Try.results48, go_sem, i0, i1, i2, i3]) rfl ⟨rfl, bel4⟩
    · rw [if_neg h1] at h
      exact absurd rfl h
  · rw [if_neg h0]
    generalize packL l = P at *
    generalize checkE l = E at *
    generalize l.length = n at *
    clear h
    go_enter Try.func48, Try.ntmps48
    go_wp2_with fail
    go_at_call 86
    refine (c1 _ (hr.alloc _)).mono ?_
    rintro e w1 ⟨a1, G1, rfl, t1, b1⟩
    have B0 := (Blk.laid w [.int .i64 0, .int .i64 0, .int .i64 0, .slice none 0 0] 83 _ rfl).keep b1 (by simp)
    have bel := belowCall ((Below.refl _ _).alloc (Nat.le_refl _) _) b1
    clear c1 b1
    have f0 := B0.free 0
    have f1 := B0.free 1
    have f2 := B0.free 2
    have f3 := B0.free 3
    have d0 : w1.cell? ⟨w.heap.size, 0, none⟩ = some (.int .i64 0) := B0.cell 0
    have d1 : w1.cell? ⟨w.heap.size, 1, none⟩ = some (.int .i64 0) := B0.cell 1
    have d2 : w1.cell? ⟨w.heap.size, 2, none⟩ = some (.int .i64 0) := B0.cell 2
    have d3 : w1.cell? ⟨w.heap.size, 3, none⟩ = some (.slice none 0 0) := B0.cell 3
    have hgl := B0.lt
    go_wp2_with fail
    have B4 := B0.put4 (.int .i64 0) (.int .i64 0) (.int .i64 0) (.slice none 0 0)
    have bel4 := below4 bel (g := w.heap.size) (Nat.le_refl _) (.int .i64 0) (.int .i64 0) (.int .i64 0) (.slice none 0 0)
    generalize World.setCell _ _ _ = w5 at *
    have i0 : w5.cell? ⟨w.heap.size, 0, none⟩ = some (.int .i64 0) := B4.cell 0
    have i1 : w5.cell? ⟨w.heap.size, 1, none⟩ = some (.int .i64 0) := B4.cell 1
    have i2 : w5.cell? ⟨w.heap.size, 2, none⟩ = some (.int .i64 0) := B4.cell 2
    have i3 : w5.cell? ⟨w.heap.size, 3, none⟩ = some (.slice none 0 0) := B4.cell 3
    exact bodyPost_ret (v := .tuple #[.agg #[.int .i64 0, .int .i64 0, .int .i64 0, .slice none 0 0], .int .i64 E]) (by simp [results, Try.results48, go_sem, i0, i1, i2, i3]) rfl ⟨rfl, bel4⟩

/-- Make, whatever it is handed. -/
theorem make_any (ao : Option Addr) (cap : Nat) (l : List Pt) (w : World) (hr : SlP w ao cap l) :
    Calls Try.prog 48 #[.slice ao l.length cap] w fun e w' =>
      ∃ a' G, e = .returned (.tuple #[bkV (makeB l) a' G, .int .i64 (makeE l)]) ∧ Sl w' a' G ((makeB l).bits.map Value.bool) ∧ Below w.heap.size w w' := by
  by_cases h : makeE l = 0
  · have hc : checkE l = 0 ∧ 0 < l.length := by
      unfold makeE at h
      by_cases h0 : checkE l = 0
      · rw [if_pos h0] at h
        refine ⟨h0, ?_⟩
        by_cases h1 : l.length = 0
        · rw [if_pos h1] at h; cases h
        · omega
      · rw [if_neg h0] at h
        exact absurd h h0
    rw [makeB_eq hc.1 hc.2, h]
    exact make_ok ao cap l w hr hc.1 hc.2
  · have e : makeB l = bk0 := if_neg h
    rw [e]
    refine (make_no ao cap l w hr h).mono ?_
    rintro e w' ⟨rfl, b⟩
    exact ⟨none, 0, rfl, Sl.ofNil _, b⟩

end Go.Proofs.Ytnpikbpngohimaa

/-
  block.Points: what it answers, whatever it is handed; nothing that was there is written.
-/
namespace Go.Proofs.Ytnpikbpngohimaa
open Go.RowKit

set_option maxHeartbeats 400000 in
set_option maxRecDepth 100000 in
theorem bpoints_err (b : Bk) (ao : Option Addr) (cap : Nat) (w : World) (hr : Sl w ao cap (b.bits.map Value.bool)) (hl : b.bits.length ≤ 140737488355328) (h : ¬ unpE b.bits b.n = 0) :
    Calls Try.prog 82 #[bkV b ao cap] w fun e w' => e = .returned (.tuple #[.slice none 0 0, .int .i64 (unpE b.bits b.n)]) ∧ Below w.heap.size w w' := by
  have c1 := fun W h => unpack_any ao cap b.bits b.n W h hl
  obtain ⟨N, fr, to, X⟩ := b
  unfold bkV
  simp only at *
  generalize unpL X N = U at *
  generalize unpE X N = E at *
  clear hl
  go_enter Try.func82, Try.ntmps82
  go_wp2_with fail
  go_at_call 107
  refine (c1 _ (hr.alloc _)).mono ?_
  rintro e w1 ⟨a1, G1, rfl, s1, b1⟩
  have bel := belowCall ((Below.refl _ _).alloc (Nat.le_refl _) _) b1
  clear c1 b1
  go_wp2_with fail
  go_ret2
  exact ⟨rfl, bel⟩

set_option maxHeartbeats 400000 in
set_option maxRecDepth 100000 in
theorem bpoints_none (b : Bk) (ao : Option Addr) (cap : Nat) (w : World) (hr : Sl w ao cap (b.bits.map Value.bool)) (hl : b.bits.length ≤ 140737488355328) (h : unpE b.bits b.n = 0) (h0 : (unpL b.bits b.n).length = 0) :
    Calls Try.prog 82 #[bkV b ao cap] w fun e w' => e = .returned (.tuple #[.slice none 0 0, .int .i64 4]) ∧ Below w.heap.size w w' := by
  have c1 := fun W h => unpack_any ao cap b.bits b.n W h hl
  obtain ⟨N, fr, to, X⟩ := b
  unfold bkV
  simp only at *
  rw [h, h0] at c1
  generalize unpL X N = U at *
  clear hl h h0
  go_enter Try.func82, Try.ntmps82
  go_wp2_with fail
  go_at_call 107
  refine (c1 _ (hr.alloc _)).mono ?_
  rintro e w1 ⟨a1, G1, rfl, s1, b1⟩
  have bel := belowCall ((Below.refl _ _).alloc (Nat.le_refl _) _) b1
  clear c1 b1
  go_wp2_with fail
  go_quiet (fail)
  go_wp2_with fail
  go_ret2
  exact ⟨rfl, belowDrewN bel _⟩

set_option maxHeartbeats 400000 in
set_option maxRecDepth 100000 in
theorem bpoints_some (b : Bk) (ao : Option Addr) (cap : Nat) (w : World) (hr : Sl w ao cap (b.bits.map Value.bool)) (hl : b.bits.length ≤ 140737488355328) (h : unpE b.bits b.n = 0) (h0 : 0 < (unpL b.bits b.n).length) :
    Calls Try.prog 82 #[bkV b ao cap] w fun e w' => ∃ a' G, e = .returned (.tuple #[if fitsB b (unpL b.bits b.n) = true then .slice a' (unpL b.bits b.n).length G else .slice none 0 0, .int .i64 (if fitsB b (unpL b.bits b.n) = true then 0 else 4)]) ∧ SlP w' a' G (unpL b.bits b.n) ∧ Below w.heap.size w w' := by
  have c1 := fun W h => unpack_any ao cap b.bits b.n W h hl
  have h40 := unpL_length b.bits b.n
  obtain ⟨N, fr, to, X⟩ := b
  unfold bkV fitsB
  simp only at *
  rw [h] at c1
  generalize unpL X N = U at *
  have s0 := fun W b off cap (h : SlP W (some ⟨b, off, none⟩) cap U) => h.first h0
  have s1 := fun W b off cap (h : SlP W (some ⟨b, off, none⟩) cap U) => h.last h0
  have hne : U ≠ [] := by intro e; rw [e] at h0; simp at h0
  generalize firstT U = P at *
  generalize endT U = Q at *
  obtain ⟨n, hn⟩ : ∃ n, n + 1 = U.length := ⟨U.length - 1, by omega⟩
  rw [← hn] at c1 s1 h40 ⊢
  simp only [Nat.add_sub_cancel] at s1
  clear hl h h0 hn
  have fin : decide (0 < n + 1 ∧ fr = P ∧ to = Q) = decide (fr = P ∧ to = Q) := by simp
  rw [fin]
  clear fin
  have hz : ((n : Int) + 1 == 0) = false := by simp; omega
  by_cases g1 : fr = P
  · subst g1
    by_cases g2 : to = Q
    · subst g2
      rw [show decide (fr = fr ∧ to = to) = true by simp]
      simp only [if_true]
      go_enter Try.func82, Try.ntmps82
      go_wp2_with fail
      go_at_call 107
      refine (c1 _ (hr.alloc _)).mono ?_
      rintro e w1 ⟨a1, G1, rfl, t1, b1⟩
      have B0 := (Blk.laid w [.int .i64 N, .int .i64 fr, .int .i64 to, .slice ao X.length cap] 83 _ rfl).keep b1 (by simp)
      have bel := belowCall ((Below.refl _ _).alloc (Nat.le_refl _) _) b1
      obtain ⟨ub, uo, rfl, hub⟩ := t1.where hne
      have e0 := s0 _ _ _ _ t1
      have e1 := s1 _ _ _ _ t1
      have d1 : w1.cell? ⟨w.heap.size, 1, none⟩ = some (.int .i64 fr) := B0.cell 1
      have d2 : w1.cell? ⟨w.heap.size, 2, none⟩ = some (.int .i64 to) := B0.cell 2
      have hgl := B0.lt
      clear c1 b1 s0 s1
      go_wp2_with fail
      go_region
      go_wp2_with fail
      go_ret2
      exact ⟨_, _, rfl, t1.drewS, belowDrew bel⟩
    · rw [show decide (fr = fr ∧ to = Q) = false by simp [g2]]
      simp only [Bool.false_eq_true, if_false]
      go_enter Try.func82, Try.ntmps82
      go_wp2_with fail
      go_at_call 107
      refine (c1 _ (hr.alloc _)).mono ?_
      rintro e w1 ⟨a1, G1, rfl, t1, b1⟩
      have B0 := (Blk.laid w [.int .i64 N, .int .i64 fr, .int .i64 to, .slice ao X.length cap] 83 _ rfl).keep b1 (by simp)
      have bel := belowCall ((Below.refl _ _).alloc (Nat.le_refl _) _) b1
      obtain ⟨ub, uo, rfl, hub⟩ := t1.where hne
      have e0 := s0 _ _ _ _ t1
      have e1 := s1 _ _ _ _ t1
      have d1 : w1.cell? ⟨w.heap.size, 1, none⟩ = some (.int .i64 fr) := B0.cell 1
      have d2 : w1.cell? ⟨w.heap.size, 2, none⟩ = some (.int .i64 to) := B0.cell 2
      have hgl := B0.lt
      clear c1 b1 s0 s1
      go_wp2_with fail
      go_region
      go_wp2_with fail
      go_ret2
      exact ⟨_, _, rfl, t1.drewS, belowDrew bel⟩
  · rw [show decide (fr = P ∧ to = Q) = false by simp [g1]]
    simp only [Bool.false_eq_true, if_false]
    go_enter Try.func82, Try.ntmps82
    go_wp2_with fail
    go_at_call 107
    refine (c1 _ (hr.alloc _)).mono ?_
    rintro e w1 ⟨a1, G1, rfl, t1, b1⟩
    have B0 := (Blk.laid w [.int .i64 N, .int .i64 fr, .int .i64 to, .slice ao X.length cap] 83 _ rfl).keep b1 (by simp)
    have bel := belowCall ((Below.refl _ _).alloc (Nat.le_refl _) _) b1
    obtain ⟨ub, uo, rfl, hub⟩ := t1.where hne
    have e0 := s0 _ _ _ _ t1
    have e1 := s1 _ _ _ _ t1
    have d1 : w1.cell? ⟨w.heap.size, 1, none⟩ = some (.int .i64 fr) := B0.cell 1
    have d2 : w1.cell? ⟨w.heap.size, 2, none⟩ = some (.int .i64 to) := B0.cell 2
    have hgl := B0.lt
    clear c1 b1 s0 s1
    go_wp2_with fail
    go_quiet (fail)
    go_wp2_with fail
    go_ret2
    exact ⟨_, _, rfl, t1.drewN _, belowDrewN bel _⟩

/-- Points, whatever it is handed. -/
theorem bpoints_any (b : Bk) (ao : Option Addr) (cap : Nat) (w : World) (hr : Sl w ao cap (b.bits.map Value.bool)) (hl : b.bits.length ≤ 140737488355328) :
    Calls Try.prog 82 #[bkV b ao cap] w fun e w' => ∃ a' G, e = .returned (.tuple #[.slice a' (ptsL b).length G, .int .i64 (ptsE b)]) ∧ SlP w' a' G (ptsL b) ∧ Below w.heap.size w w' := by
  by_cases h : unpE b.bits b.n = 0
  · by_cases h0 : (unpL b.bits b.n).length = 0
    · have hf : fitsB b (unpL b.bits b.n) = false := decide_eq_false (by omega)
      have he : ptsE b = 4 := by unfold ptsE; rw [if_pos h, hf]; rfl
      have hL : ptsL b = [] := by unfold ptsL; rw [he]; rfl
      rw [he, hL]
      refine (bpoints_none b ao cap w hr hl h h0).mono ?_
      rintro e w' ⟨rfl, hb⟩
      exact ⟨none, 0, rfl, SlP.ofNil _, hb⟩
    · cases hf : fitsB b (unpL b.bits b.n) with
      | true =>
        have he : ptsE b = 0 := by unfold ptsE; rw [if_pos h, hf]; rfl
        have hL : ptsL b = unpL b.bits b.n := by unfold ptsL; rw [he]; rfl
        rw [he, hL]
        refine (bpoints_some b ao cap w hr hl h (by omega)).mono ?_
        rw [hf]
        rintro e w' ⟨a', G, rfl, hs, hb⟩
        exact ⟨a', G, rfl, hs, hb⟩
      | false =>
        have he : ptsE b = 4 := by unfold ptsE; rw [if_pos h, hf]; rfl
        have hL : ptsL b = [] := by unfold ptsL; rw [he]; rfl
        rw [he, hL]
        refine (bpoints_some b ao cap w hr hl h (by omega)).mono ?_
        rw [hf]
        rintro e w' ⟨a', G, rfl, hs, hb⟩
        exact ⟨none, 0, rfl, SlP.ofNil _, hb⟩
  · have he : ptsE b = unpE b.bits b.n := if_neg h
    have hL : ptsL b = [] := by unfold ptsL; rw [he, if_neg h]
    rw [he, hL]
    refine (bpoints_err b ao cap w hr hl h).mono ?_
    rintro e w' ⟨rfl, hb⟩
    exact ⟨none, 0, rfl, SlP.ofNil _, hb⟩

end Go.Proofs.Ytnpikbpngohimaa

/-
  shelf.points: the points of all blocks of a row, and its head behind them: what it answers of a row of eight blocks at most; the points lie in memory of the call's own.
-/
namespace Go.Proofs.Ytnpikbpngohimaa
open Go.RowKit

/-- What is owned from a later block on is owned from an earlier one on. -/
theorem ownBase {w : World} {base base' : Nat} {e : TypeId} {size n : Nat} {v : Value} {xs : List Value} (h : w.ownsRow base e size v n xs) (hb : base' ≤ base) : w.ownsRow base' e size v n xs := by
  refine ⟨h.1, ?_⟩
  rcases h.2 with h0 | ⟨g, cap, cur, q1, q2, q3⟩
  · exact .inl h0
  · exact .inr ⟨g, cap, cur, q1, by omega, q3⟩

/-- All points of a row, or none where a block is wrong. -/
def rpts (r : Rw) : List Pt := if blksE r.blocks = 0 then allPts r else []

set_option maxHeartbeats 400000 in
set_option maxRecDepth 100000 in
theorem sPoints_any (r : Lr) (w : World) (hg : r.Good w) (h : r.bs.length ≤ 8) :
    Calls Try.prog 42 #[r.v] w fun e w' => ∃ a' G, e = .returned (.tuple #[.slice a' (rpts r.rw).length G, .int .i64 (blksE r.rw.blocks)]) ∧ w'.ownsRow w.heap.size 44 2 (.slice a' (rpts r.rw).length G) (rpts r.rw).length (cellsP (rpts r.rw)) ∧ Below w.heap.size w w' := by
  obtain ⟨L, hL⟩ : ∃ L, L = rpts r.rw := ⟨_, rfl⟩
  obtain ⟨E, hE⟩ : ∃ E, E = blksE r.rw.blocks := ⟨_, rfl⟩
  rw [← hL, ← hE]
  have hE1 : E = blksE (r.bs.map Lb.b) := hE
  have hL1 : L = if E = 0 then blksL (r.bs.map Lb.b) ++ r.hd else [] := by rw [hL]; unfold rpts; rw [← hE]; rfl
  clear hL hE
  obtain ⟨bs, ba, bc, hd, ha, hc⟩ := r
  obtain ⟨sb, sh, -, hfew⟩ := hg
  unfold Lr.v
  simp only at *
  obtain ⟨n, hn⟩ : ∃ n, n = bs.length := ⟨_, rfl⟩
  obtain ⟨m, hm⟩ : ∃ m, m = hd.length := ⟨_, rfl⟩
  rw [← hn] at h ⊢
  rw [← hm] at hfew ⊢
  have h' : (n : Int) ≤ 8 := by omega
  replace hn := hide hn
  replace hm := hide hm
  have H0 : Hid (E = blksE ((bs.drop 0).map Lb.b)) := by rw [List.drop_zero]; exact hE1
  have H1 : Hid (L = if E = 0 then ([] ++ blksL ((bs.drop 0).map Lb.b)) ++ hd else []) := by rw [List.drop_zero, List.nil_append]; exact hL1
  clear hE1 hL1
  obtain ⟨i0, hi, hz0, hz1, hz2⟩ := info_parts infoPoint
  go_enter Try.func42, Try.ntmps42
  go_wp2_with fail
  have B0 := Blk.laid w [.slice ba n bc, .slice ha m hc] 41 _ rfl
  have bel0 : Below w.heap.size w (w.alloc (.cells #[.slice ba n bc, .slice ha m hc] 41)) := (Below.refl _ _).alloc (Nat.le_refl _) _
  generalize w.alloc _ = w1 at *
  go_loopw [12, 4] (fun i o wr => ∃ (k G : Nat) (a' : Option Addr) (O : List Pt), k ≤ n ∧ i = .int .i64 k ∧ o = .slice a' O.length G ∧ O.length ≤ 40 * k ∧ wr.ownsRow (w.heap.size + 1) 44 2 (.slice a' O.length G) O.length (cellsP O) ∧
      Hid (E = blksE ((bs.drop k).map Lb.b)) ∧ Hid (L = if E = 0 then (O ++ blksL ((bs.drop k).map Lb.b)) ++ hd else []) ∧
      Blk wr w.heap.size [.slice ba n bc, .slice ha m hc] 41 ∧ Below w.heap.size w wr) (fun i _ _ => n - (intOf i).toNat)
  case atStart => exact ⟨0, 0, none, [], by omega, rfl, rfl, by simp, World.ownsRow_nil _ _ _ _, H0, H1, B0, bel0⟩
  case round =>
    clear H0 H1 B0 bel0
    obtain ⟨k, G, a', O, hk, rfl, rfl, hO, own, H0, H1, B, bel⟩ := hrel
    by_cases hlt : k < n
    · have hs := sb.keep bel (Nat.le_refl _)
      obtain ⟨b, off, rfl, hbw⟩ := hs.where (by intro e; rw [hn.out, e] at hlt; simp at hlt)
      obtain ⟨x, hx⟩ : ∃ x, bs[k]? = some x := ⟨_, List.getElem?_eq_getElem (by rw [← hn.out]; exact hlt)⟩
      obtain ⟨e0, e1, e2, e3, gx⟩ := hs.at k x hx
      have hd : bs.drop k = x :: bs.drop (k + 1) := by
        obtain ⟨hk', rfl⟩ := List.getElem?_eq_some_iff.1 hx
        exact List.drop_eq_getElem_cons hk'
      have H0' := H0.out
      have H1' := H1.out
      rw [hd, List.map_cons] at H0' H1'
      clear H0 H1 hd hx
      obtain ⟨⟨xn, xf, xT, X⟩, xa, xc⟩ := x
      obtain ⟨gb, gf⟩ := gx
      simp only at *
      have c1 := fun W h => bpoints_any ⟨xn, xf, xT, X⟩ xa xc W h gf
      have pl := ptsL_length ⟨xn, xf, xT, X⟩
      by_cases hp : ptsE ⟨xn, xf, xT, X⟩ = 0
      · have pp := ptsL_pos hp
        rw [blksE, if_pos hp] at H0'
        rw [show blksL (⟨xn, xf, xT, X⟩ :: (bs.drop (k + 1)).map Lb.b) = ptsL ⟨xn, xf, xT, X⟩ ++ blksL ((bs.drop (k + 1)).map Lb.b) from rfl, ← List.append_assoc] at H1'
        rw [hp] at c1
        generalize ptsL ⟨xn, xf, xT, X⟩ = P at *
        replace H0' := hide H0'
        replace H1' := hide H1'
        have hPc := cellsP_length P
        have hPo := cellsP_one P
        have hPn : P ≠ [] := by intro e; rw [e] at pp; simp at pp
        have hOP : (O ++ P).length = O.length + P.length := List.length_append
        have hcat := cellsP_append O P
        obtain ⟨on, hon⟩ : ∃ on, on = O.length := ⟨_, rfl⟩
        obtain ⟨pn, hpn⟩ : ∃ pn, pn = P.length := ⟨_, rfl⟩
        rw [← hon] at own hO hOP
        rw [← hpn] at c1 pp pl hPc hOP
        replace hPc := hide hPc
        replace hOP := hide hOP
        replace hcat := hide hcat
        replace hon := hide hon
        clear hpn hp
        rw [← hon.out]
        unfold bkV at c1
        simp only at c1
        go_wp2_with fail
        go_at_call 82
        refine (c1 _ (gb.alloc _)).mono ?_
        rintro e w2 ⟨a2, G2, rfl, s2, b2⟩
        have own2 := ownCall (own.alloc _) b2
        have B2 := (B.alc _).keep b2 (B.alc _).lt
        have bel2 := belowCall (belowNew bel _) b2
        have hsz : w.heap.size + 1 ≤ w2.heap.size := B2.lt
        obtain ⟨yb, yo, rfl, hyb⟩ := s2.where hPn
        have ysrc : ∀ j u, (cellsP P)[j]? = some u → w2.cell? ((⟨yb, yo, none⟩ : Addr).add j) = some u := by
          intro j u hu
          obtain ⟨b', off', e, _, hc⟩ := s2.row.at (by intro e; rw [e] at hu; simp at hu)
          simp only [Option.some.injEq, Addr.mk.injEq, and_true] at e
          obtain ⟨rfl, rfl⟩ := e
          rw [Addr.add_lit]
          exact hc j u hu
        clear c1 b2 own B bel s2 e0 e1 e2 e3
        go_wp2_with (at_builtin; refine wpList_append_went _ rfl (.tmp 24) (.tmp 25) 26 rfl (w.heap.size + 1) 44 i0 (.agg #[.int .i64 0, .int .i64 0]) 2 16 Try.underlying26 hi hz0 hz1 hz2 rfl (by decide) _ on _ rfl own2 ⟨yb, yo, none⟩ pn _ (cellsP P) rfl hPc.out ysrc hPo pp (by unfold maxLen; omega) (by omega) hsz ?_)
        intro v3 w3 own3 grow3 _
        have bel3 := belowGrown bel2 own2 grow3 (Nat.le_succ _) bel2.size
        have B3 := B2.grown grow3 (fun j hj => by have := (own2.lt j hj).1; omega)
        rw [← hcat.out] at own3
        obtain ⟨a3, G3, rfl, _, _, _⟩ := SlP.ofOwn own3
        go_wp2_with fail
        go_roundw
        case rel => exact ⟨k + 1, G3, a3, O ++ P, by omega, by go_num, by rw [hOP.out], by rw [hOP.out]; omega, by rw [hOP.out]; exact own3, H0', H1', B3, bel3⟩
        case measure => simp [intOf]; omega
      · have e1' : E = ptsE ⟨xn, xf, xT, X⟩ := by rw [H0', blksE, if_neg hp]
        have e2' : L = [] := by rw [H1', e1', if_neg hp]
        clear H0' H1'
        generalize ptsE ⟨xn, xf, xT, X⟩ = F at *
        generalize ptsL ⟨xn, xf, xT, X⟩ = P at *
        replace e1' := hide e1'
        replace e2' := hide e2'
        clear pl
        unfold bkV at c1
        simp only at c1
        go_wp2_with fail
        go_at_call 82
        refine (c1 _ (gb.alloc _)).mono ?_
        rintro e w2 ⟨a2, G2, rfl, s2, b2⟩
        have bel2 := belowCall (belowNew bel _) b2
        go_wp2_with fail
        go_ret2
        exact ⟨none, 0, by rw [e1'.out, e2'.out]; rfl, by rw [e2'.out]; exact World.ownsRow_nil _ _ _ _, bel2⟩
    · obtain rfl : k = n := by omega
      have H0' := H0.out
      have H1' := H1.out
      rw [hn.out, List.drop_length] at H0' H1'
      simp only [List.map_nil, blksE, blksL, List.flatMap_nil, List.append_nil] at H0' H1'
      rw [H0', if_pos rfl] at H1'
      clear H0 H1
      have e1 : w.heap.size < wr.heap.size := B.lt
      have d1 : wr.cell? ⟨w.heap.size, 1, none⟩ = some (.slice ha m hc) := B.cell 1
      have sh1 := sh.keep bel (Nat.le_refl _)
      have hcat := cellsP_append O hd
      have hdc := cellsP_length hd
      have hdo := cellsP_one hd
      rw [← hm.out] at hdc
      obtain ⟨on, hon⟩ : ∃ on, on = O.length := ⟨_, rfl⟩
      rw [← hon] at own hO ⊢
      have hlen : L.length = on + m := by rw [H1', List.length_append, ← hon, ← hm.out]
      replace hlen := hide hlen
      replace hcat := hide hcat
      replace hdc := hide hdc
      replace H0' := hide H0'
      replace H1' := hide H1'
      clear hon
      cases ha with
      | none =>
        have h1 := sh1.nil rfl
        have h2 := sh1.le
        have h3 : hd = [] := List.eq_nil_of_length_eq_zero (by omega)
        obtain rfl : m = 0 := by rw [hm.out, h3]; rfl
        subst h1
        have own' : wr.ownsRow (w.heap.size + 1) 44 2 (.slice a' on G) on (cellsP L) := by rw [H1'.out, h3, List.append_nil]; exact own
        replace h3 := hide h3
        clear h2
        go_wp2_with (at_builtin; refine wpList_append_own_none rfl (.tmp 28) (.tmp 30) 26 rfl (w.heap.size + 1) 44 i0 2 Try.underlying26 hi _ on _ rfl own rfl ?_)
        go_wp2_with fail
        go_ret2
        exact ⟨a', G, by rw [hlen.out, H0'.out]; rfl, by rw [hlen.out]; exact ownBase own' (Nat.le_succ _), bel⟩
      | some ad =>
        have ysrc : ∀ j u, (cellsP hd)[j]? = some u → wr.cell? (ad.add j) = some u := by
          intro j u hu
          obtain ⟨b', off', e, _, hc⟩ := sh1.row.at (by intro e; rw [e] at hu; simp at hu)
          obtain rfl := Option.some.inj e
          rw [Addr.add_lit]
          exact hc j u hu
        go_wp2_with (at_builtin; refine wpList_append_own_wide _ rfl (.tmp 28) (.tmp 30) 26 rfl (w.heap.size + 1) 44 i0 (.agg #[.int .i64 0, .int .i64 0]) 2 16 Try.underlying26 hi hz0 hz1 hz2 rfl (by decide) _ on _ rfl own ad m _ (cellsP hd) rfl hdc.out ysrc hdo (by unfold maxLen; omega) (by omega) e1 ?_)
        intro v3 w3 own3 grow3 _
        have bel3 := belowGrown bel own grow3 (Nat.le_succ _) bel.size
        rw [← hcat.out, ← H1'.out] at own3
        obtain ⟨a3, G3, rfl, _, _, _⟩ := SlP.ofOwn own3
        clear grow3 own
        go_wp2_with fail
        go_ret2
        exact ⟨a3, G3, by rw [hlen.out, H0'.out]; rfl, by rw [hlen.out]; exact ownBase own3 (Nat.le_succ _), bel3⟩

end Go.Proofs.Ytnpikbpngohimaa

/-
  shelf.checkPoints, shelf.checkRow, shelf.Check: what they answer of a row, of a shelf, whatever it is; nothing that was there is written. shelf.isSeries.
-/
namespace Go.Proofs.Ytnpikbpngohimaa
open Go.RowKit

set_option maxHeartbeats 400000 in
set_option maxRecDepth 100000 in
theorem isSeries_any (x : Int) (w : World) :
    Calls Try.prog 41 #[.int .i64 x] w fun e w' => e = .returned (.bool (inI x 0 3)) ∧ w' = w := by
  by_cases h0 : 0 ≤ x
  · by_cases h1 : x < 4
    · rw [show inI x 0 3 = true by unfold inI; simp; omega]
      go_enter Try.func41, Try.ntmps41
      go_wp2_with fail
      go_ret
      exact ⟨rfl, rfl⟩
    · rw [show inI x 0 3 = false by unfold inI; simp; omega]
      go_enter Try.func41, Try.ntmps41
      go_wp2_with fail
      go_ret
      exact ⟨rfl, rfl⟩
  · rw [show inI x 0 3 = false by unfold inI; simp; omega]
    go_enter Try.func41, Try.ntmps41
    go_wp2_with fail
    go_ret
    exact ⟨rfl, rfl⟩

/-- What is wrong with the points of a row. -/
def cpE (r : Rw) : Int := if blksE r.blocks = 0 then checkE (allPts r) else blksE r.blocks

set_option maxHeartbeats 400000 in
set_option maxRecDepth 100000 in
theorem checkPoints_any (r : Lr) (w : World) (hg : r.Good w) (h : r.bs.length ≤ 8) :
    Calls Try.prog 84 #[r.v] w fun e w' => e = .returned (.int .i64 (cpE r.rw)) ∧ Below w.heap.size w w' := by
  have c1 := fun W k => sPoints_any r W k h
  have c2 := fun a c W k => check_any a c (rpts r.rw) W k
  have g1 := fun o => hg.alloc o
  unfold Lr.v at *
  have hz : blksE r.rw.blocks = 0 → cpE r.rw = checkE (rpts r.rw) := fun e => by unfold cpE rpts; rw [if_pos e, if_pos e]
  have hn : blksE r.rw.blocks ≠ 0 → cpE r.rw = blksE r.rw.blocks := fun e => by unfold cpE; rw [if_neg e]
  generalize cpE r.rw = F at *
  generalize blksE r.rw.blocks = E at *
  generalize rpts r.rw = L at *
  obtain ⟨bs, ba, bc, hd, ha, hc⟩ := r
  simp only at *
  generalize bs.length = n1 at *
  generalize hd.length = n2 at *
  clear hg h
  by_cases hE : E = 0
  · have hz' := hide (hz hE)
    subst hE
    clear hz hn
    go_enter Try.func84, Try.ntmps84
    go_wp2_with fail
    go_at_call 42
    refine (c1 _ (g1 _)).mono ?_
    rintro e w2 ⟨a2, G2, rfl, own2, b2⟩
    have bel2 := belowCall (belowNew (Below.refl _ w) _) b2
    obtain ⟨a3, G3, e3, s3, _, _⟩ := SlP.ofOwn own2
    simp only [Value.slice.injEq, true_and] at e3
    obtain ⟨rfl, rfl⟩ := e3
    go_wp2_with fail
    go_at_call 112
    refine (c2 _ _ _ s3).mono ?_
    rintro e w4 ⟨rfl, b4⟩
    have bel4 := belowCall bel2 b4
    go_wp2_with fail
    go_ret
    exact ⟨by rw [hz'.out]; rfl, bel4⟩
  · have hn' := hide (hn hE)
    clear hz hn
    go_enter Try.func84, Try.ntmps84
    go_wp2_with fail
    go_at_call 42
    refine (c1 _ (g1 _)).mono ?_
    rintro e w2 ⟨a2, G2, rfl, own2, b2⟩
    have bel2 := belowCall (belowNew (Below.refl _ w) _) b2
    go_wp2_with fail
    go_ret
    exact ⟨by rw [hn'.out]; rfl, bel2⟩

set_option maxHeartbeats 400000 in
set_option maxRecDepth 100000 in
theorem checkRow_any (r : Lr) (w : World) (hg : r.Good w) :
    Calls Try.prog 57 #[r.v] w fun e w' => e = .returned (.int .i64 (rowE r.rw)) ∧ Below w.heap.size w w' := by
  by_cases h : r.bs.length ≤ 8
  · have hE : rowE r.rw = cpE r.rw := by unfold rowE cpE; rw [if_neg (by unfold Lr.rw; simp only [List.length_map]; omega)]
    have c1 := fun W k => checkPoints_any r W k h
    rw [← hE] at c1
    have g1 := fun o => hg.alloc o
    generalize rowE r.rw = F at *
    clear hE
    unfold Lr.v at *
    obtain ⟨bs, ba, bc, hd, ha, hc⟩ := r
    simp only at *
    generalize bs.length = n1 at *
    generalize hd.length = n2 at *
    have h' : ¬ (8 : Int) < n1 := by omega
    clear hg
    go_enter Try.func57, Try.ntmps57
    go_wp2_with fail
    go_at_call 84
    refine (c1 _ (g1 _)).mono ?_
    rintro e w2 ⟨rfl, b2⟩
    have bel2 := belowCall (belowNew (Below.refl _ w) _) b2
    go_wp2_with fail
    go_ret
    exact ⟨rfl, bel2⟩
  · have hE : rowE r.rw = 2 := by unfold rowE; rw [if_pos (by unfold Lr.rw; simp only [List.length_map]; omega)]
    have hf := hg.few
    rw [hE]
    unfold Lr.v
    obtain ⟨bs, ba, bc, hd, ha, hc⟩ := r
    simp only at *
    generalize bs.length = n1 at *
    generalize hd.length = n2 at *
    have h' : (8 : Int) < n1 := by omega
    clear hg hE
    go_enter Try.func57, Try.ntmps57
    go_wp2_with fail
    go_ret
    exact ⟨rfl, (Below.refl _ _).alloc (Nat.le_refl _) _⟩

set_option maxHeartbeats 400000 in
set_option maxRecDepth 100000 in
theorem sCheck_no (n : Nat) (ao : Option Addr) (cap : Nat) (w : World) (h : n ≠ 4) :
    Calls Try.prog 17 #[.agg #[.slice ao n cap]] w fun e w' => e = .returned (.int .i64 4) ∧ Below w.heap.size w w' := by
  have h' : ¬ (n : Int) = 4 := by omega
  go_enter Try.func17, Try.ntmps17
  go_wp2_with fail
  go_ret
  exact ⟨rfl, (Below.refl _ _).alloc (Nat.le_refl _) _⟩

set_option maxHeartbeats 400000 in
set_option maxRecDepth 100000 in
theorem sCheck_four (l : List Lr) (ao : Option Addr) (cap : Nat) (w : World) (hs : SlR w ao cap l) (h4 : l.length = 4) :
    Calls Try.prog 17 #[.agg #[.slice ao 4 cap]] w fun e w' => e = .returned (.int .i64 (rowsE (l.map Lr.rw))) ∧ Below w.heap.size w w' := by
  obtain ⟨E, hE⟩ : ∃ E, E = rowsE (l.map Lr.rw) := ⟨_, rfl⟩
  rw [← hE]
  have H0 : Hid (E = rowsE ((l.drop 0).map Lr.rw)) := by rw [List.drop_zero]; exact hE
  clear hE
  obtain ⟨b, off, rfl, hbw⟩ := hs.where (by intro e; rw [e] at h4; simp at h4)
  replace h4 := hide h4
  go_enter Try.func17, Try.ntmps17
  go_wp2_with fail
  have B0 := Blk.laid w [.slice (some ⟨b, off, none⟩) 4 cap] 24 _ rfl
  have bel0 : Below w.heap.size w (w.alloc (.cells #[.slice (some ⟨b, off, none⟩) 4 cap] 24)) := (Below.refl _ _).alloc (Nat.le_refl _) _
  generalize w.alloc _ = w1 at *
  go_loopw [13] (fun i wr => ∃ (k : Nat), k ≤ 4 ∧ i = .int .i64 k ∧ Hid (E = rowsE ((l.drop k).map Lr.rw)) ∧ Below w.heap.size w wr) (fun i _ => 4 - (intOf i).toNat)
  case atStart => exact ⟨0, by omega, rfl, H0, bel0⟩
  case round =>
    clear H0 B0 bel0
    obtain ⟨k, hk, rfl, H0, bel⟩ := hrel
    by_cases hlt : k < 4
    · have hs1 := hs.keep bel (Nat.le_refl _)
      obtain ⟨r, hr⟩ : ∃ r, l[k]? = some r := ⟨_, List.getElem?_eq_getElem (by rw [h4.out]; exact hlt)⟩
      obtain ⟨e0, e1, gr⟩ := hs1.at k r hr
      have hd : l.drop k = r :: l.drop (k + 1) := by
        obtain ⟨hk', rfl⟩ := List.getElem?_eq_some_iff.1 hr
        exact List.drop_eq_getElem_cons hk'
      have H0' := H0.out
      rw [hd, List.map_cons, rowsE] at H0'
      have c1 := fun W h => checkRow_any r W h
      unfold Lr.v at c1
      clear H0 hd hr hs1
      by_cases hE : rowE r.rw = 0
      · rw [if_pos hE] at H0'
        rw [hE] at c1
        replace H0' := hide H0'
        clear hE
        go_wp2_with fail
        go_at_call 57
        refine (c1 _ (gr.alloc _)).mono ?_
        rintro e w2 ⟨rfl, b2⟩
        have bel2 := belowCall (belowNew bel _) b2
        go_wp2_with fail
        go_roundw
        case rel => exact ⟨k + 1, by omega, by go_num, H0', bel2⟩
        case measure => simp [intOf]; omega
      · rw [if_neg hE] at H0'
        generalize rowE r.rw = F at *
        replace H0' := hide H0'
        go_wp2_with fail
        go_at_call 57
        refine (c1 _ (gr.alloc _)).mono ?_
        rintro e w2 ⟨rfl, b2⟩
        have bel2 := belowCall (belowNew bel _) b2
        go_wp2_with fail
        go_ret
        exact ⟨by rw [H0'.out]; rfl, bel2⟩
    · obtain rfl : k = 4 := by omega
      have H0' := H0.out
      rw [List.drop_eq_nil_of_le (by rw [h4.out]; exact Nat.le_refl _)] at H0'
      replace H0' := hide H0'
      clear H0
      go_wp2_with fail
      go_ret
      exact ⟨by rw [H0'.out]; rfl, bel⟩

/-- Check, whatever it is handed. -/
theorem sCheck_any (l : List Lr) (ao : Option Addr) (cap : Nat) (w : World) (hs : SlR w ao cap l) :
    Calls Try.prog 17 #[.agg #[.slice ao l.length cap]] w fun e w' => e = .returned (.int .i64 (shelfE (l.map Lr.rw))) ∧ Below w.heap.size w w' := by
  unfold shelfE
  rw [List.length_map]
  by_cases h : l.length = 4
  · rw [if_pos h, h]
    exact sCheck_four l ao cap w hs h
  · rw [if_neg h]
    exact sCheck_no l.length ao cap w h

end Go.Proofs.Ytnpikbpngohimaa

/-
  slices.Clone at rows, whatever is handed: a slice of the call's own with the same cells.
-/
namespace Go.Proofs.Ytnpikbpngohimaa
open Go.RowKit

theorem infoR : (Try.prog.info? 41).map (fun i => (i.zero, i.size, i.bytes)) = some (some (.agg #[.slice none 0 0, .slice none 0 0]), 2, 48) := by kernel_rfl

set_option maxHeartbeats 400000 in
set_option maxRecDepth 100000 in
theorem cloneR (ao : Option Addr) (cap : Nat) (C : List Value) (n : Nat) (w : World) (hrow : Row w ao C) (hle : n ≤ cap) (hnil : ao = none → cap = 0) (hlen : C.length = n * 2) (one : ∀ v ∈ C, v.oneCell' = true) (hl : n ≤ 1000000000000) :
    Calls Try.prog 63 #[.slice ao n cap] w fun e w' =>
      ∃ v', e = .returned v' ∧ w'.ownsRow w.heap.size 41 2 v' n C ∧ Below w.heap.size w w' := by
  obtain ⟨i0, hi, hz0, hz1, hz2⟩ := info_parts infoR
  have q : ∀ (w : World) (a : Option Addr) (n c n' c' : Nat), (binOp .eql 22 (.slice a n c) (.slice none n' c')).run Try.prog w = .ok (.bool a.isNone) w := fun w a n c n' c' => Lib.run_eql_slice_nil w _ _ a n c n' c' Try.underlying22
  cases ao with
  | none =>
    obtain rfl := hnil rfl
    obtain rfl : n = 0 := by omega
    obtain rfl : C = [] := List.eq_nil_of_length_eq_zero hlen
    clear hlen
    go_enter Try.func63, Try.ntmps63
    go_wp2_with fail
    go_ret
    exact ⟨_, rfl, World.ownsRow_nil _ _ _ _, Below.refl _ _⟩
  | some ad =>
    have own0 : (w.alloc (.cells #[] 41)).ownsRow w.heap.size 41 2 (.slice (some ⟨w.heap.size, 0, none⟩) 0 0) 0 [] :=
      ⟨rfl, .inr ⟨w.heap.size, 0, #[], rfl, Nat.le_refl _, heap_alloc_new w _, Nat.le_refl _, by decide, rfl, rfl⟩⟩
    have belA := (Below.refl w.heap.size w).alloc (Nat.le_refl _) (Obj.cells #[] 41)
    have hs := hrow.alloc (.cells #[] 41)
    have hsrc : ∀ j u, C[j]? = some u → (w.alloc (.cells #[] 41)).cell? (ad.add j) = some u := by
      intro j u hu
      obtain ⟨b', off', e, _, hc⟩ := hs.at (by intro e; rw [e] at hu; simp at hu)
      obtain rfl := Option.some.inj e
      rw [Addr.add_lit]
      exact hc j u hu
    have bA : w.heap.size ≤ (w.alloc (.cells #[] 41)).heap.size := by simp
    replace hlen := hide hlen
    clear hrow hs hnil
    go_enter Try.func63, Try.ntmps63
    go_wp2_with (at_builtin; refine wpList_append_own_wide _ rfl (.tmp 5) (.tmp 6) 22 rfl w.heap.size 41 i0 (.agg #[.slice none 0 0, .slice none 0 0]) 2 48 Try.underlying22 hi hz0 hz1 hz2 rfl (by decide) _ 0 _ rfl own0 ad n cap C rfl hlen.out hsrc one (by unfold maxLen; omega) (by omega) bA ?_)
    intro v' w1 own1 grow1 _
    have bel1 := belowGrown belA own0 grow1 (Nat.le_refl _) bA
    obtain ⟨a1, c1, rfl⟩ : ∃ a1 c1, v' = .slice a1 n c1 := by
      rcases own1.2 with ⟨rfl, h0⟩ | ⟨g, cp, cur, rfl, _⟩
      · subst h0
        exact ⟨_, _, rfl⟩
      · exact ⟨_, _, rfl⟩
    go_wp2_with fail
    go_ret
    exact ⟨_, rfl, own1, bel1⟩

/-- What append lays onto an empty literal: the elements, and zeros behind them. -/
theorem wpList_append_fresh {P : Program} (w : World) {ops : Array Oper} {rest : List Oper} {o : Oper} {a : Act} {Q : Exit → Act → World → Prop} (hgd : o.guard = none) (s x : Operand) (t : TypeId)
    (ho : o.op = .call { callee := .builtin .append, args := #[s, x], argTypes := #[t, t] })
    (e : TypeId) (i : TypeInfo) (z : Value) (ht : P.underlying t = some (.slice e)) (hi : P.info? e = some i) (hz : i.zero = some z) (hzs : z.cells.size = i.size) (hsz : 0 < i.size)
    (b : Addr) (hs : a.eval s = .slice (some b) 0 0)
    (ad : Addr) (m c : Nat) (news : List Value) (hx : a.eval x = .slice (some ad) m c) (hl : news.length = m * i.size) (hnews : ∀ j u, news[j]? = some u → w.cell? (ad.add j) = some u)
    (hm : 0 < m) (h63 : m ≤ maxLen) (hbytes : m * i.bytes ≤ 140737488355328)
    (h : ∀ G L w', Blk w' w.heap.size (news ++ L) e → (∀ v ∈ L, v ∈ z.cells.toList) → news.length + L.length = G * i.size → m ≤ G → G ≤ maxLen → w.grownBy w' none → wpList P ops Q rest (a.put o.dst (.slice (some ⟨w.heap.size, 0, none⟩) m G)) w') : wpList P ops Q (o :: rest) a w := by
  refine wpList_plain hgd fun K hK => ?_
  have h63' : ((0 + m : Nat) : Int) ≤ 9223372036854775807 := by unfold maxLen at h63; omega
  have hrun := run_append_grow (P := P) w t o.type e i z ht hi hz b 0 0 [] (by simp) (by simp) ad m c news hl hnews (by omega) h63' (growslice_fits (by omega) (by rw [Nat.zero_add]; exact hbytes))
  have hge := grownCap_ge w (0 + m) 0 e
  have hcm : grownCap w (0 + m) 0 e ≤ maxLen := grownCap_le_maxLen w (0 + m) 0 e (by rw [Nat.zero_add]; exact h63)
  rw [Nat.zero_add] at hrun hge hcm
  unfold Oper.wp
  simp only [execOp, ho, resolve, invoke, builtin, Sem.run_bind, Sem.run_pure, Result.andThen_ok, List.map_toArray, List.map_cons, List.map_nil, hs, hx, hrun]
  refine hK _ _ (h _ (Builtin.zeroCells z.cells (grownCap w m 0 e - m)).toList _ ?_ ?_ ?_ hge hcm ⟨rfl, rfl, rfl, by simp, fun k hk _ => heap_alloc_old w.drew _ hk⟩)
  · unfold Blk
    have hn := heap_alloc_new w.drew (.cells (([] : List Value).toArray ++ news.toArray ++ Builtin.zeroCells z.cells (grownCap w m 0 e - m)) e)
    rw [show w.drew.heap.size = w.heap.size from rfl] at hn
    rw [hn]
    congr 2
    apply Array.toList_inj.1
    simp
  · intro v hv
    simp only [Builtin.zeroCells, Array.toList_map, List.mem_map] at hv
    obtain ⟨j, _, rfl⟩ := hv
    have hj : j % z.cells.size < z.cells.size := Nat.mod_lt _ (by omega)
    rw [getElem!_pos z.cells _ hj]
    exact Array.getElem_mem_toList hj
  · rw [hl, Array.length_toList, size_zeroCells, hzs, ← Nat.add_mul]
    congr 1
    omega

set_option maxHeartbeats 400000 in
set_option maxRecDepth 100000 in
/-- slices.Clone of some rows: the whole block that it lays. -/
theorem cloneR2 (ad : Addr) (cap : Nat) (C : List Value) (n : Nat) (w : World) (hrow : Row w (some ad) C) (hlen : C.length = n * 2) (hn : 0 < n) (hl : n ≤ 1000000000000) :
    Calls Try.prog 63 #[.slice (some ad) n cap] w fun e w' =>
      ∃ g G L, e = .returned (.slice (some ⟨g, 0, none⟩) n G) ∧ Blk w' g (C ++ L) 41 ∧ (∀ v ∈ L, v = .slice none 0 0) ∧ n ≤ G ∧ G ≤ 9223372036854775807 ∧ w.heap.size ≤ g ∧ Below w.heap.size w w' := by
  obtain ⟨i0, hi, hz0, hz1, hz2⟩ := info_parts infoR
  have q : ∀ (w : World) (a : Option Addr) (n c n' c' : Nat), (binOp .eql 22 (.slice a n c) (.slice none n' c')).run Try.prog w = .ok (.bool a.isNone) w := fun w a n c n' c' => Lib.run_eql_slice_nil w _ _ a n c n' c' Try.underlying22
  have belA := (Below.refl w.heap.size w).alloc (Nat.le_refl _) (Obj.cells #[] 41)
  have hs := hrow.alloc (.cells #[] 41)
  have hsrc : ∀ j u, C[j]? = some u → (w.alloc (.cells #[] 41)).cell? (ad.add j) = some u := by
    intro j u hu
    obtain ⟨b', off', e, _, hc⟩ := hs.at (by intro e; rw [e] at hu; simp at hu)
    obtain rfl := Option.some.inj e
    rw [Addr.add_lit]
    exact hc j u hu
  have e1 : C.length = n * i0.size := by rw [hz1]; exact hlen
  have e2 : (Value.agg #[.slice none 0 0, .slice none 0 0]).cells.size = i0.size := by rw [hz1]; rfl
  have e3 : n * i0.bytes ≤ 140737488355328 := by rw [hz2]; omega
  replace hlen := hide hlen
  replace e1 := hide e1
  replace e2 := hide e2
  clear hrow hs
  go_enter Try.func63, Try.ntmps63
  go_wp2_with (at_builtin; refine wpList_append_fresh _ rfl (.tmp 5) (.tmp 6) 22 rfl 41 i0 (.agg #[.slice none 0 0, .slice none 0 0]) Try.underlying22 hi hz0 e2.out (by rw [hz1]; decide) ⟨w.heap.size, 0, none⟩ rfl ad n cap C rfl e1.out hsrc hn (by unfold maxLen; omega) e3 ?_)
  intro G L w1 B1 hL _ hG hGm grow1
  have bel1 : Below w.heap.size w w1 := belA.grown grow1 (by simp) (fun k h => by cases h)
  go_wp2_with fail
  go_ret
  refine ⟨_, G, L, rfl, B1, ?_, hG, by unfold maxLen at hGm; exact hGm, by simp, bel1⟩
  intro v hv
  have := hL v hv
  simpa [Value.cells] using this

end Go.Proofs.Ytnpikbpngohimaa

/-
  rainbookref.FreshShelf: four rows of nothing.
-/
namespace Go.Proofs.Ytnpikbpngohimaa
open Go.RowKit

def lr0 : Lr := ⟨[], none, 0, [], none, 0⟩

theorem lr0_good (w : World) : lr0.Good w := ⟨SlB.ofNil w, SlP.ofNil w, by decide, by decide⟩

def fresh4 : List Lr := [lr0, lr0, lr0, lr0]

set_option maxHeartbeats 400000 in
set_option maxRecDepth 100000 in
theorem refFresh_any (w : World) :
    Calls Try.prog 21 #[] w fun e w' => ∃ a' G, e = .returned (.agg #[.slice a' 4 G]) ∧ SlR w' a' G fresh4 ∧ Below w.heap.size w w' := by
  obtain ⟨i0, hi, hz0, hz1, hz2⟩ := info_parts infoR
  have B0 := Blk.laid w [.slice none 0 0] 24 _ rfl
  go_enter Try.func21, Try.ntmps21
  go_wp2_with (at_make; refine wpList_make_full _ rfl (.const (.int .i64 4)) (.const (.int .i64 4)) 22 rfl (w.heap.size + 1) 41 i0 (.agg #[.slice none 0 0, .slice none 0 0]) 2 Try.underlying22 hi hz0 hz1 _ _ _ _ 4 rfl rfl rfl rfl (by rw [hz2]; omega) (by unfold maxLen; omega) (by simp) ?_)
  intro w1 own grow
  rw [show (madeCells #[Value.slice none 0 0, Value.slice none 0 0] 8).toList = fresh4.flatMap Lr.cells by kernel_rfl] at own
  have bel : Below w.heap.size w w1 := ((Below.refl _ _).alloc (Nat.le_refl _) _).grown grow (by simp) (fun k h => by cases h)
  have B1 := B0.grown grow (fun k h => by cases h)
  have f0 := B1.free 0
  have d0 : w1.cell? ⟨w.heap.size, 0, none⟩ = some (.slice none 0 0) := B1.cell 0
  have hgl := B1.lt
  go_wp2_with fail
  have own2 := own.kept (row := some w.heap.size) (grownSet (grownRefl w1 (some w.heap.size)) 0 (.slice (some ⟨w.heap.size + 1, 0, none⟩) 4 4)) (.inr (by intro e; have : w.heap.size + 1 = w.heap.size := Option.some.inj e; omega))
  obtain ⟨a9, c9, ev, s9, _, _⟩ := SlW.ofOwn Lr.two (by decide) own2
  simp only [Value.slice.injEq, true_and] at ev
  obtain ⟨rfl, rfl⟩ := ev
  refine bodyPost_ret (v := .agg #[.slice (some ⟨w.heap.size + 1, 0, none⟩) 4 4]) (by simp [results, Try.results21, go_sem, d0]) rfl ?_
  refine ⟨_, _, rfl, ⟨s9, fun r hr => ?_⟩, bel.setCell (Nat.le_refl _) _⟩
  simp only [fresh4, List.mem_cons, List.not_mem_nil, or_false, or_self] at hr
  subst hr
  exact lr0_good _

end Go.Proofs.Ytnpikbpngohimaa
