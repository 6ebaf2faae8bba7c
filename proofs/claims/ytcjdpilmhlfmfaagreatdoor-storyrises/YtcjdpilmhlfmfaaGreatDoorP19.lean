/-
  block.Make: what it answers, whatever it is handed; nothing that was there is written.
-/
import Derived.Lib.SliceRun
import Derived.Deep.DeepAppendWide
import Derived.Laws.AppendOwnNone
import Derived.Test.YtcjdpilmhlfmfaaGreatDoorP11
import Derived.Test.YtcjdpilmhlfmfaaGreatDoorP17
import Derived.Test.YtcjdpilmhlfmfaaGreatDoorP02
import Derived.Test.YtcjdpilmhlfmfaaGreatDoorP14
namespace Go.Proofs.YtcjdpilmhlfmfaaGreatDoor
open Go.RowKit

set_option maxHeartbeats 400000 in
set_option maxRecDepth 100000 in
theorem make_ok (ao : Option Addr) (cap : Nat) (l : List Pt) (w : World) (hr : SlP w ao cap l) (h : checkE l = 0) (hl : 0 < l.length) :
    Calls Tryz.prog 152 #[.slice ao l.length cap] w fun e w' =>
      ∃ a' G, e = .returned (.tuple #[.agg #[.int .i64 l.length, .int .i64 (firstT l), .int .i64 (endT l), .slice a' (packL l).length G], .int .i64 0]) ∧ Sl w' a' G ((packL l).map Value.bool) ∧ Below w.heap.size w w' := by
  have c1 := fun W h => pack_any ao cap l W h
  rw [h] at c1
  have h40 := (checkE_zero h).1
  obtain ⟨b, off, rfl, hb⟩ := hr.where (by intro e; rw [e] at hl; simp at hl)
  have s0 := fun W (h : SlP W (some ⟨b, off, none⟩) cap l) => h.first hl
  have s1 := fun W (h : SlP W (some ⟨b, off, none⟩) cap l) => h.last hl
  generalize packL l = P at *
  generalize firstT l = X at *
  generalize endT l = Y at *
  obtain ⟨n, hn⟩ : ∃ n, n + 1 = l.length := ⟨l.length - 1, by omega⟩
  rw [← hn] at c1 s1 h40 ⊢
  clear hn hl h
  go_enter Tryz.func152, Tryz.ntmps152
  go_wp2_with fail
  go_at_call 184
  refine (c1 _ (hr.alloc _)).mono ?_
  rintro e w1 ⟨a1, G1, rfl, t1, b1⟩
  have B0 := (Blk.laid w [.int .i64 0, .int .i64 0, .int .i64 0, .slice none 0 0] 93 _ rfl).keep b1 (by simp)
  have bel := belowCall ((Below.refl _ _).alloc (Nat.le_refl _) _) b1
  have hr1 := (hr.alloc _).call b1
  have e0 := s0 _ hr1
  have e1 := s1 _ hr1
  clear c1 s0 s1 b1
  simp only [Nat.add_sub_cancel] at e1
  have f0 := B0.free 0
  have f1 := B0.free 1
  have f2 := B0.free 2
  have f3 := B0.free 3
  have d0 : w1.cell? ⟨w.heap.size, 0, none⟩ = some (.int .i64 0) := B0.cell 0
  have d1 : w1.cell? ⟨w.heap.size, 1, none⟩ = some (.int .i64 0) := B0.cell 1
  have d2 : w1.cell? ⟨w.heap.size, 2, none⟩ = some (.int .i64 0) := B0.cell 2
  have d3 : w1.cell? ⟨w.heap.size, 3, none⟩ = some (.slice none 0 0) := B0.cell 3
  have hgl := B0.lt
  go_wp2_with fail
  go_region
  go_wp2_with fail
  have B4 := (B0.put4 (.int .i64 ((n : Int) + 1)) (.int .i64 X) (.int .i64 Y) (.slice a1 P.length G1)).drewS
  have bel4 := belowDrew (below4 bel (g := w.heap.size) (Nat.le_refl _) (.int .i64 ((n : Int) + 1)) (.int .i64 X) (.int .i64 Y) (.slice a1 P.length G1))
  have t4 := (t1.put4 B0 (.int .i64 ((n : Int) + 1)) (.int .i64 X) (.int .i64 Y) (.slice a1 P.length G1)).drewS
  generalize (World.setCell _ _ _).drew = w5 at *
  have i0 : w5.cell? ⟨w.heap.size, 0, none⟩ = some (.int .i64 ((n : Int) + 1)) := B4.cell 0
  have i1 : w5.cell? ⟨w.heap.size, 1, none⟩ = some (.int .i64 X) := B4.cell 1
  have i2 : w5.cell? ⟨w.heap.size, 2, none⟩ = some (.int .i64 Y) := B4.cell 2
  have i3 : w5.cell? ⟨w.heap.size, 3, none⟩ = some (.slice a1 P.length G1) := B4.cell 3
  exact bodyPost_ret (v := .tuple #[.agg #[.int .i64 ((n : Int) + 1), .int .i64 X, .int .i64 Y, .slice a1 P.length G1], .int .i64 0]) (by simp [results, Tryz.results152, go_sem, i0, i1, i2, i3]) rfl ⟨a1, G1, by simp, t4, bel4⟩

set_option maxHeartbeats 400000 in
set_option maxRecDepth 100000 in
theorem make_no (ao : Option Addr) (cap : Nat) (l : List Pt) (w : World) (hr : SlP w ao cap l) (h : ¬ makeE l = 0) :
    Calls Tryz.prog 152 #[.slice ao l.length cap] w fun e w' =>
      e = .returned (.tuple #[.agg #[.int .i64 0, .int .i64 0, .int .i64 0, .slice none 0 0], .int .i64 (makeE l)]) ∧ Below w.heap.size w w' := by
  have c1 := fun W h => pack_any ao cap l W h
  unfold makeE at h ⊢
  by_cases h0 : checkE l = 0
  · rw [h0] at c1
    rw [if_pos h0] at h ⊢
    by_cases h1 : l.length = 0
    · rw [if_pos h1, h1]
      rw [h1] at c1
      generalize packL l = P at *
      clear h h0 h1
      go_enter Tryz.func152, Tryz.ntmps152
      go_wp2_with fail
      go_at_call 184
      refine (c1 _ (hr.alloc _)).mono ?_
      rintro e w1 ⟨a1, G1, rfl, t1, b1⟩
      have B0 := (Blk.laid w [.int .i64 0, .int .i64 0, .int .i64 0, .slice none 0 0] 93 _ rfl).keep b1 (by simp)
      have bel := belowCall ((Below.refl _ _).alloc (Nat.le_refl _) _) b1
      clear c1 b1
      have f0 := B0.free 0
      have f1 := B0.free 1
      have f2 := B0.free 2
      have f3 := B0.free 3
      have d0 : w1.cell? ⟨w.heap.size, 0, none⟩ = some (.int .i64 0) := B0.cell 0
      have d1 : w1.cell? ⟨w.heap.size, 1, none⟩ = some (.int .i64 0) := B0.cell 1
      have d2 : w1.cell? ⟨w.heap.size, 2, none⟩ = some (.int .i64 0) := B0.cell 2
      have d3 : w1.cell? ⟨w.heap.size, 3, none⟩ = some (.slice none 0 0) := B0.cell 3
      have hgl := B0.lt
      go_wp2_with fail
      have B4 := B0.put4 (.int .i64 0) (.int .i64 0) (.int .i64 0) (.slice none 0 0)
      have bel4 := below4 bel (g := w.heap.size) (Nat.le_refl _) (.int .i64 0) (.int .i64 0) (.int .i64 0) (.slice none 0 0)
      generalize World.setCell _ _ _ = w5 at *
      have i0 : w5.cell? ⟨w.heap.size, 0, none⟩ = some (.int .i64 0) := B4.cell 0
      have i1 : w5.cell? ⟨w.heap.size, 1, none⟩ = some (.int .i64 0) := B4.cell 1
      have i2 : w5.cell? ⟨w.heap.size, 2, none⟩ = some (.int .i64 0) := B4.cell 2
      have i3 : w5.cell? ⟨w.heap.size, 3, none⟩ = some (.slice none 0 0) := B4.cell 3
      exact bodyPost_ret (v := .tuple #[.agg #[.int .i64 0, .int .i64 0, .int .i64 0, .slice none 0 0], .int .i64 4]) (by simp [results, Tryz.results152, go_sem, i0, i1, i2, i3]) rfl ⟨rfl, bel4⟩
    · rw [if_neg h1] at h
      exact absurd rfl h
  · rw [if_neg h0]
    generalize packL l = P at *
    generalize checkE l = E at *
    generalize l.length = n at *
    clear h
    go_enter Tryz.func152, Tryz.ntmps152
    go_wp2_with fail
    go_at_call 184
    refine (c1 _ (hr.alloc _)).mono ?_
    rintro e w1 ⟨a1, G1, rfl, t1, b1⟩
    have B0 := (Blk.laid w [.int .i64 0, .int .i64 0, .int .i64 0, .slice none 0 0] 93 _ rfl).keep b1 (by simp)
    have bel := belowCall ((Below.refl _ _).alloc (Nat.le_refl _) _) b1
    clear c1 b1
    have f0 := B0.free 0
    have f1 := B0.free 1
    have f2 := B0.free 2
    have f3 := B0.free 3
    have d0 : w1.cell? ⟨w.heap.size, 0, none⟩ = some (.int .i64 0) := B0.cell 0
    have d1 : w1.cell? ⟨w.heap.size, 1, none⟩ = some (.int .i64 0) := B0.cell 1
    have d2 : w1.cell? ⟨w.heap.size, 2, none⟩ = some (.int .i64 0) := B0.cell 2
    have d3 : w1.cell? ⟨w.heap.size, 3, none⟩ = some (.slice none 0 0) := B0.cell 3
    have hgl := B0.lt
    go_wp2_with fail
    have B4 := B0.put4 (.int .i64 0) (.int .i64 0) (.int .i64 0) (.slice none 0 0)
    have bel4 := below4 bel (g := w.heap.size) (Nat.le_refl _) (.int .i64 0) (.int .i64 0) (.int .i64 0) (.slice none 0 0)
    generalize World.setCell _ _ _ = w5 at *
    have i0 : w5.cell? ⟨w.heap.size, 0, none⟩ = some (.int .i64 0) := B4.cell 0
    have i1 : w5.cell? ⟨w.heap.size, 1, none⟩ = some (.int .i64 0) := B4.cell 1
    have i2 : w5.cell? ⟨w.heap.size, 2, none⟩ = some (.int .i64 0) := B4.cell 2
    have i3 : w5.cell? ⟨w.heap.size, 3, none⟩ = some (.slice none 0 0) := B4.cell 3
    exact bodyPost_ret (v := .tuple #[.agg #[.int .i64 0, .int .i64 0, .int .i64 0, .slice none 0 0], .int .i64 E]) (by simp [results, Tryz.results152, go_sem, i0, i1, i2, i3]) rfl ⟨rfl, bel4⟩

/-- Make, whatever it is handed. -/
theorem make_any (ao : Option Addr) (cap : Nat) (l : List Pt) (w : World) (hr : SlP w ao cap l) :
    Calls Tryz.prog 152 #[.slice ao l.length cap] w fun e w' =>
      ∃ a' G, e = .returned (.tuple #[bkV (makeB l) a' G, .int .i64 (makeE l)]) ∧ Sl w' a' G ((makeB l).bits.map Value.bool) ∧ Below w.heap.size w w' := by
  by_cases h : makeE l = 0
  · have hc : checkE l = 0 ∧ 0 < l.length := by
      unfold makeE at h
      by_cases h0 : checkE l = 0
      · rw [if_pos h0] at h
        refine ⟨h0, ?_⟩
        by_cases h1 : l.length = 0
        · rw [if_pos h1] at h; cases h
        · omega
      · rw [if_neg h0] at h
        exact absurd h h0
    rw [makeB_eq hc.1 hc.2, h]
    exact make_ok ao cap l w hr hc.1 hc.2
  · have e : makeB l = bk0 := if_neg h
    rw [e]
    refine (make_no ao cap l w hr h).mono ?_
    rintro e w' ⟨rfl, b⟩
    exact ⟨none, 0, rfl, Sl.ofNil _, b⟩

end Go.Proofs.YtcjdpilmhlfmfaaGreatDoor

/-
  block.Points: what it answers, whatever it is handed; nothing that was there is written.
-/
namespace Go.Proofs.YtcjdpilmhlfmfaaGreatDoor
open Go.RowKit

set_option maxHeartbeats 400000 in
set_option maxRecDepth 100000 in
theorem bpoints_err (b : Bk) (ao : Option Addr) (cap : Nat) (w : World) (hr : Sl w ao cap (b.bits.map Value.bool)) (hl : b.bits.length ≤ 140737488355328) (h : ¬ unpE b.bits b.n = 0) :
    Calls Tryz.prog 121 #[bkV b ao cap] w fun e w' => e = .returned (.tuple #[.slice none 0 0, .int .i64 (unpE b.bits b.n)]) ∧ Below w.heap.size w w' := by
  have c1 := fun W h => unpack_any ao cap b.bits b.n W h hl
  obtain ⟨N, fr, tv, X⟩ := b
  unfold bkV
  simp only at *
  generalize unpL X N = U at *
  generalize unpE X N = E at *
  clear hl
  go_enter Tryz.func121, Tryz.ntmps121
  go_wp2_with fail
  go_at_call 160
  refine (c1 _ (hr.alloc _)).mono ?_
  rintro e w1 ⟨a1, G1, rfl, s1, b1⟩
  have bel := belowCall ((Below.refl _ _).alloc (Nat.le_refl _) _) b1
  clear c1 b1
  go_wp2_with fail
  go_ret2
  exact ⟨rfl, bel⟩

set_option maxHeartbeats 400000 in
set_option maxRecDepth 100000 in
theorem bpoints_none (b : Bk) (ao : Option Addr) (cap : Nat) (w : World) (hr : Sl w ao cap (b.bits.map Value.bool)) (hl : b.bits.length ≤ 140737488355328) (h : unpE b.bits b.n = 0) (h0 : (unpL b.bits b.n).length = 0) :
    Calls Tryz.prog 121 #[bkV b ao cap] w fun e w' => e = .returned (.tuple #[.slice none 0 0, .int .i64 4]) ∧ Below w.heap.size w w' := by
  have c1 := fun W h => unpack_any ao cap b.bits b.n W h hl
  obtain ⟨N, fr, tv, X⟩ := b
  unfold bkV
  simp only at *
  rw [h, h0] at c1
  generalize unpL X N = U at *
  clear hl h h0
  go_enter Tryz.func121, Tryz.ntmps121
  go_wp2_with fail
  go_at_call 160
  refine (c1 _ (hr.alloc _)).mono ?_
  rintro e w1 ⟨a1, G1, rfl, s1, b1⟩
  have bel := belowCall ((Below.refl _ _).alloc (Nat.le_refl _) _) b1
  clear c1 b1
  go_wp2_with fail
  go_quiet (fail)
  go_wp2_with fail
  go_ret2
  exact ⟨rfl, belowDrewN bel _⟩

set_option maxHeartbeats 400000 in
set_option maxRecDepth 100000 in
theorem bpoints_some (b : Bk) (ao : Option Addr) (cap : Nat) (w : World) (hr : Sl w ao cap (b.bits.map Value.bool)) (hl : b.bits.length ≤ 140737488355328) (h : unpE b.bits b.n = 0) (h0 : 0 < (unpL b.bits b.n).length) :
    Calls Tryz.prog 121 #[bkV b ao cap] w fun e w' => ∃ a' G, e = .returned (.tuple #[if fitsB b (unpL b.bits b.n) = true then .slice a' (unpL b.bits b.n).length G else .slice none 0 0, .int .i64 (if fitsB b (unpL b.bits b.n) = true then 0 else 4)]) ∧ SlP w' a' G (unpL b.bits b.n) ∧ Below w.heap.size w w' := by
  have c1 := fun W h => unpack_any ao cap b.bits b.n W h hl
  have h40 := unpL_length b.bits b.n
  obtain ⟨N, fr, tv, X⟩ := b
  unfold bkV fitsB
  simp only at *
  rw [h] at c1
  generalize unpL X N = U at *
  have s0 := fun W b off cap (h : SlP W (some ⟨b, off, none⟩) cap U) => h.first h0
  have s1 := fun W b off cap (h : SlP W (some ⟨b, off, none⟩) cap U) => h.last h0
  have hne : U ≠ [] := by intro e; rw [e] at h0; simp at h0
  generalize firstT U = P at *
  generalize endT U = Q at *
  obtain ⟨n, hn⟩ : ∃ n, n + 1 = U.length := ⟨U.length - 1, by omega⟩
  rw [← hn] at c1 s1 h40 ⊢
  simp only [Nat.add_sub_cancel] at s1
  clear hl h h0 hn
  have fin : decide (0 < n + 1 ∧ fr = P ∧ tv = Q) = decide (fr = P ∧ tv = Q) := by simp
  rw [fin]
  clear fin
  have hz : ((n : Int) + 1 == 0) = false := by simp; omega
  by_cases g1 : fr = P
  · subst g1
    by_cases g2 : tv = Q
    · subst g2
      rw [show decide (fr = fr ∧ tv = tv) = true by simp]
      simp only [if_true]
      go_enter Tryz.func121, Tryz.ntmps121
      go_wp2_with fail
      go_at_call 160
      refine (c1 _ (hr.alloc _)).mono ?_
      rintro e w1 ⟨a1, G1, rfl, t1, b1⟩
      have B0 := (Blk.laid w [.int .i64 N, .int .i64 fr, .int .i64 tv, .slice ao X.length cap] 93 _ rfl).keep b1 (by simp)
      have bel := belowCall ((Below.refl _ _).alloc (Nat.le_refl _) _) b1
      obtain ⟨ub, uo, rfl, hub⟩ := t1.where hne
      have e0 := s0 _ _ _ _ t1
      have e1 := s1 _ _ _ _ t1
      have d1 : w1.cell? ⟨w.heap.size, 1, none⟩ = some (.int .i64 fr) := B0.cell 1
      have d2 : w1.cell? ⟨w.heap.size, 2, none⟩ = some (.int .i64 tv) := B0.cell 2
      have hgl := B0.lt
      clear c1 b1 s0 s1
      go_wp2_with fail
      go_region
      go_wp2_with fail
      go_ret2
      exact ⟨_, _, rfl, t1.drewS, belowDrew bel⟩
    · rw [show decide (fr = fr ∧ tv = Q) = false by simp [g2]]
      simp only [Bool.false_eq_true, if_false]
      go_enter Tryz.func121, Tryz.ntmps121
      go_wp2_with fail
      go_at_call 160
      refine (c1 _ (hr.alloc _)).mono ?_
      rintro e w1 ⟨a1, G1, rfl, t1, b1⟩
      have B0 := (Blk.laid w [.int .i64 N, .int .i64 fr, .int .i64 tv, .slice ao X.length cap] 93 _ rfl).keep b1 (by simp)
      have bel := belowCall ((Below.refl _ _).alloc (Nat.le_refl _) _) b1
      obtain ⟨ub, uo, rfl, hub⟩ := t1.where hne
      have e0 := s0 _ _ _ _ t1
      have e1 := s1 _ _ _ _ t1
      have d1 : w1.cell? ⟨w.heap.size, 1, none⟩ = some (.int .i64 fr) := B0.cell 1
      have d2 : w1.cell? ⟨w.heap.size, 2, none⟩ = some (.int .i64 tv) := B0.cell 2
      have hgl := B0.lt
      clear c1 b1 s0 s1
      go_wp2_with fail
      go_region
      go_wp2_with fail
      go_ret2
      exact ⟨_, _, rfl, t1.drewS, belowDrew bel⟩
  · rw [show decide (fr = P ∧ tv = Q) = false by simp [g1]]
    simp only [Bool.false_eq_true, if_false]
    go_enter Tryz.func121, Tryz.ntmps121
    go_wp2_with fail
    go_at_call 160
    refine (c1 _ (hr.alloc _)).mono ?_
    rintro e w1 ⟨a1, G1, rfl, t1, b1⟩
    have B0 := (Blk.laid w [.int .i64 N, .int .i64 fr, .int .i64 tv, .slice ao X.length cap] 93 _ rfl).keep b1 (by simp)
    have bel := belowCall ((Below.refl _ _).alloc (Nat.le_refl _) _) b1
    obtain ⟨ub, uo, rfl, hub⟩ := t1.where hne
    have e0 := s0 _ _ _ _ t1
    have e1 := s1 _ _ _ _ t1
    have d1 : w1.cell? ⟨w.heap.size, 1, none⟩ = some (.int .i64 fr) := B0.cell 1
    have d2 : w1.cell? ⟨w.heap.size, 2, none⟩ = some (.int .i64 tv) := B0.cell 2
    have hgl := B0.lt
    clear c1 b1 s0 s1
    go_wp2_with fail
    go_quiet (fail)
    go_wp2_with fail
    go_ret2
    exact ⟨_, _, rfl, t1.drewN _, belowDrewN bel _⟩

/-- Points, whatever it is handed. -/
theorem bpoints_any (b : Bk) (ao : Option Addr) (cap : Nat) (w : World) (hr : Sl w ao cap (b.bits.map Value.bool)) (hl : b.bits.length ≤ 140737488355328) :
    Calls Tryz.prog 121 #[bkV b ao cap] w fun e w' => ∃ a' G, e = .returned (.tuple #[.slice a' (ptsL b).length G, .int .i64 (ptsE b)]) ∧ SlP w' a' G (ptsL b) ∧ Below w.heap.size w w' := by
  by_cases h : unpE b.bits b.n = 0
  · by_cases h0 : (unpL b.bits b.n).length = 0
    · have hf : fitsB b (unpL b.bits b.n) = false := decide_eq_false (by omega)
      have he : ptsE b = 4 := by unfold ptsE; rw [if_pos h, hf]; rfl
      have hL : ptsL b = [] := by unfold ptsL; rw [he]; rfl
      rw [he, hL]
      refine (bpoints_none b ao cap w hr hl h h0).mono ?_
      rintro e w' ⟨rfl, hb⟩
      exact ⟨none, 0, rfl, SlP.ofNil _, hb⟩
    · cases hf : fitsB b (unpL b.bits b.n) with
      | true =>
        have he : ptsE b = 0 := by unfold ptsE; rw [if_pos h, hf]; rfl
        have hL : ptsL b = unpL b.bits b.n := by unfold ptsL; rw [he]; rfl
        rw [he, hL]
        refine (bpoints_some b ao cap w hr hl h (by omega)).mono ?_
        rw [hf]
        rintro e w' ⟨a', G, rfl, hs, hb⟩
        exact ⟨a', G, rfl, hs, hb⟩
      | false =>
        have he : ptsE b = 4 := by unfold ptsE; rw [if_pos h, hf]; rfl
        have hL : ptsL b = [] := by unfold ptsL; rw [he]; rfl
        rw [he, hL]
        refine (bpoints_some b ao cap w hr hl h (by omega)).mono ?_
        rw [hf]
        rintro e w' ⟨a', G, rfl, hs, hb⟩
        exact ⟨none, 0, rfl, SlP.ofNil _, hb⟩
  · have he : ptsE b = unpE b.bits b.n := if_neg h
    have hL : ptsL b = [] := by unfold ptsL; rw [he, if_neg h]
    rw [he, hL]
    refine (bpoints_err b ao cap w hr hl h).mono ?_
    rintro e w' ⟨rfl, hb⟩
    exact ⟨none, 0, rfl, SlP.ofNil _, hb⟩

end Go.Proofs.YtcjdpilmhlfmfaaGreatDoor

/-
  shelf.points: the points of all blocks of a row, and its head behind them: what it answers of a row of eight blocks at most; the points lie in memory of the call's own.
-/
namespace Go.Proofs.YtcjdpilmhlfmfaaGreatDoor
open Go.RowKit

/-- What is owned from a later block on is owned from an earlier one on. -/
theorem ownBase {w : World} {base base' : Nat} {e : TypeId} {size n : Nat} {v : Value} {xs : List Value} (h : w.ownsRow base e size v n xs) (hb : base' ≤ base) : w.ownsRow base' e size v n xs := by
  refine ⟨h.1, ?_⟩
  rcases h.2 with h0 | ⟨g, cap, cur, q1, q2, q3⟩
  · exact .inl h0
  · exact .inr ⟨g, cap, cur, q1, by omega, q3⟩

/-- All points of a row, or none where a block is wrong. -/
def rpts (r : Rw) : List Pt := if blksE r.blocks = 0 then allPts r else []

set_option maxHeartbeats 400000 in
set_option maxRecDepth 100000 in
theorem sPoints_any (r : Lr) (w : World) (hg : r.Good w) (h : r.bs.length ≤ 8) :
    Calls Tryz.prog 79 #[r.v] w fun e w' => ∃ a' G, e = .returned (.tuple #[.slice a' (rpts r.rw).length G, .int .i64 (blksE r.rw.blocks)]) ∧ w'.ownsRow w.heap.size 50 2 (.slice a' (rpts r.rw).length G) (rpts r.rw).length (cellsP (rpts r.rw)) ∧ Below w.heap.size w w' := by
  obtain ⟨L, hL⟩ : ∃ L, L = rpts r.rw := ⟨_, rfl⟩
  obtain ⟨E, hE⟩ : ∃ E, E = blksE r.rw.blocks := ⟨_, rfl⟩
  rw [← hL, ← hE]
  have hE1 : E = blksE (r.bs.map Lb.b) := hE
  have hL1 : L = if E = 0 then blksL (r.bs.map Lb.b) ++ r.hd else [] := by rw [hL]; unfold rpts; rw [← hE]; rfl
  clear hL hE
  obtain ⟨bs, ba, bc, hd, ha, hc⟩ := r
  obtain ⟨sb, sh, -, hfew⟩ := hg
  unfold Lr.v
  simp only at *
  obtain ⟨n, hn⟩ : ∃ n, n = bs.length := ⟨_, rfl⟩
  obtain ⟨m, hm⟩ : ∃ m, m = hd.length := ⟨_, rfl⟩
  rw [← hn] at h ⊢
  rw [← hm] at hfew ⊢
  have h' : (n : Int) ≤ 8 := by omega
  replace hn := hide hn
  replace hm := hide hm
  have H0 : Hid (E = blksE ((bs.drop 0).map Lb.b)) := by rw [List.drop_zero]; exact hE1
  have H1 : Hid (L = if E = 0 then ([] ++ blksL ((bs.drop 0).map Lb.b)) ++ hd else []) := by rw [List.drop_zero, List.nil_append]; exact hL1
  clear hE1 hL1
  obtain ⟨i0, hi, hz0, hz1, hz2⟩ := info_parts infoPoint
  go_enter Tryz.func79, Tryz.ntmps79
  go_wp2_with fail
  have B0 := Blk.laid w [.slice ba n bc, .slice ha m hc] 47 _ rfl
  have bel0 : Below w.heap.size w (w.alloc (.cells #[.slice ba n bc, .slice ha m hc] 47)) := (Below.refl _ _).alloc (Nat.le_refl _) _
  generalize w.alloc _ = w1 at *
  go_loopw [12, 4] (fun i o wr => ∃ (k G : Nat) (a' : Option Addr) (O : List Pt), k ≤ n ∧ i = .int .i64 k ∧ o = .slice a' O.length G ∧ O.length ≤ 40 * k ∧ wr.ownsRow (w.heap.size + 1) 50 2 (.slice a' O.length G) O.length (cellsP O) ∧
      Hid (E = blksE ((bs.drop k).map Lb.b)) ∧ Hid (L = if E = 0 then (O ++ blksL ((bs.drop k).map Lb.b)) ++ hd else []) ∧
      Blk wr w.heap.size [.slice ba n bc, .slice ha m hc] 47 ∧ Below w.heap.size w wr) (fun i _ _ => n - (intOf i).toNat)
  case atStart => exact ⟨0, 0, none, [], by omega, rfl, rfl, by simp, World.ownsRow_nil _ _ _ _, H0, H1, B0, bel0⟩
  case round =>
    clear H0 H1 B0 bel0
    obtain ⟨k, G, a', O, hk, rfl, rfl, hO, own, H0, H1, B, bel⟩ := hrel
    by_cases hlt : k < n
    · have hs := sb.keep bel (Nat.le_refl _)
      obtain ⟨b, off, rfl, hbw⟩ := hs.where (by intro e; rw [hn.out, e] at hlt; simp at hlt)
      obtain ⟨x, hx⟩ : ∃ x, bs[k]? = some x := ⟨_, List.getElem?_eq_getElem (by rw [← hn.out]; exact hlt)⟩
      obtain ⟨e0, e1, e2, e3, gx⟩ := hs.at k x hx
      have hd : bs.drop k = x :: bs.drop (k + 1) := by
        obtain ⟨hk', rfl⟩ := List.getElem?_eq_some_iff.1 hx
        exact List.drop_eq_getElem_cons hk'
      have H0' := H0.out
      have H1' := H1.out
      rw [hd, List.map_cons] at H0' H1'
      clear H0 H1 hd hx
      obtain ⟨⟨xn, xf, xT, X⟩, xa, xc⟩ := x
      obtain ⟨gb, gf⟩ := gx
      simp only at *
      have c1 := fun W h => bpoints_any ⟨xn, xf, xT, X⟩ xa xc W h gf
      have pl := ptsL_length ⟨xn, xf, xT, X⟩
      by_cases hp : ptsE ⟨xn, xf, xT, X⟩ = 0
      · have pp := ptsL_pos hp
        rw [blksE, if_pos hp] at H0'
        rw [show blksL (⟨xn, xf, xT, X⟩ :: (bs.drop (k + 1)).map Lb.b) = ptsL ⟨xn, xf, xT, X⟩ ++ blksL ((bs.drop (k + 1)).map Lb.b) from rfl, ← List.append_assoc] at H1'
        rw [hp] at c1
        generalize ptsL ⟨xn, xf, xT, X⟩ = P at *
        replace H0' := hide H0'
        replace H1' := hide H1'
        have hPc := cellsP_length P
        have hPo := cellsP_one P
        have hPn : P ≠ [] := by intro e; rw [e] at pp; simp at pp
        have hOP : (O ++ P).length = O.length + P.length := List.length_append
        have hcat := cellsP_append O P
        obtain ⟨on, hon⟩ : ∃ on, on = O.length := ⟨_, rfl⟩
        obtain ⟨pn, hpn⟩ : ∃ pn, pn = P.length := ⟨_, rfl⟩
        rw [← hon] at own hO hOP
        rw [← hpn] at c1 pp pl hPc hOP
        replace hPc := hide hPc
        replace hOP := hide hOP
        replace hcat := hide hcat
        replace hon := hide hon
        clear hpn hp
        rw [← hon.out]
        unfold bkV at c1
        simp only at c1
        go_wp2_with fail
        go_at_call 121
        refine (c1 _ (gb.alloc _)).mono ?_
        rintro e w2 ⟨a2, G2, rfl, s2, b2⟩
        have own2 := ownCall (own.alloc _) b2
        have B2 := (B.alc _).keep b2 (B.alc _).lt
        have bel2 := belowCall (belowNew bel _) b2
        have hsz : w.heap.size + 1 ≤ w2.heap.size := B2.lt
        obtain ⟨yb, yo, rfl, hyb⟩ := s2.where hPn
        have ysrc : ∀ j u, (cellsP P)[j]? = some u → w2.cell? ((⟨yb, yo, none⟩ : Addr).add j) = some u := by
          intro j u hu
          obtain ⟨b', off', e, _, hc⟩ := s2.row.at (by intro e; rw [e] at hu; simp at hu)
          simp only [Option.some.injEq, Addr.mk.injEq, and_true] at e
          obtain ⟨rfl, rfl⟩ := e
          rw [Addr.add_lit]
          exact hc j u hu
        clear c1 b2 own B bel s2 e0 e1 e2 e3
        go_wp2_with (at_builtin; refine wpList_append_went _ rfl (.tmp 24) (.tmp 25) 34 rfl (w.heap.size + 1) 50 i0 (.agg #[.int .i64 0, .int .i64 0]) 2 16 Tryz.underlying34 hi hz0 hz1 hz2 rfl (by decide) _ on _ rfl own2 ⟨yb, yo, none⟩ pn _ (cellsP P) rfl hPc.out ysrc hPo pp (by unfold maxLen; omega) (by omega) hsz ?_)
        intro v3 w3 own3 grow3 _
        have bel3 := belowGrown bel2 own2 grow3 (Nat.le_succ _) bel2.size
        have B3 := B2.grown grow3 (fun j hj => by have := (own2.lt j hj).1; omega)
        rw [← hcat.out] at own3
        obtain ⟨a3, G3, rfl, _, _, _⟩ := SlP.ofOwn own3
        go_wp2_with fail
        go_roundw
        case rel => exact ⟨k + 1, G3, a3, O ++ P, by omega, by go_num, by rw [hOP.out], by rw [hOP.out]; omega, by rw [hOP.out]; exact own3, H0', H1', B3, bel3⟩
        case measure => simp [intOf]; omega
      · have e1' : E = ptsE ⟨xn, xf, xT, X⟩ := by rw [H0', blksE, if_neg hp]
        have e2' : L = [] := by rw [H1', e1', if_neg hp]
        clear H0' H1'
        generalize ptsE ⟨xn, xf, xT, X⟩ = F at *
        generalize ptsL ⟨xn, xf, xT, X⟩ = P at *
        replace e1' := hide e1'
        replace e2' := hide e2'
        clear pl
        unfold bkV at c1
        simp only at c1
        go_wp2_with fail
        go_at_call 121
        refine (c1 _ (gb.alloc _)).mono ?_
        rintro e w2 ⟨a2, G2, rfl, s2, b2⟩
        have bel2 := belowCall (belowNew bel _) b2
        go_wp2_with fail
        go_ret2
        exact ⟨none, 0, by rw [e1'.out, e2'.out]; rfl, by rw [e2'.out]; exact World.ownsRow_nil _ _ _ _, bel2⟩
    · obtain rfl : k = n := by omega
      have H0' := H0.out
      have H1' := H1.out
      rw [hn.out, List.drop_length] at H0' H1'
      simp only [List.map_nil, blksE, blksL, List.flatMap_nil, List.append_nil] at H0' H1'
      rw [H0', if_pos rfl] at H1'
      clear H0 H1
      have e1 : w.heap.size < wr.heap.size := B.lt
      have d1 : wr.cell? ⟨w.heap.size, 1, none⟩ = some (.slice ha m hc) := B.cell 1
      have sh1 := sh.keep bel (Nat.le_refl _)
      have hcat := cellsP_append O hd
      have hdc := cellsP_length hd
      have hdo := cellsP_one hd
      rw [← hm.out] at hdc
      obtain ⟨on, hon⟩ : ∃ on, on = O.length := ⟨_, rfl⟩
      rw [← hon] at own hO ⊢
      have hlen : L.length = on + m := by rw [H1', List.length_append, ← hon, ← hm.out]
      replace hlen := hide hlen
      replace hcat := hide hcat
      replace hdc := hide hdc
      replace H0' := hide H0'
      replace H1' := hide H1'
      clear hon
      cases ha with
      | none =>
        have h1 := sh1.nil rfl
        have h2 := sh1.le
        have h3 : hd = [] := List.eq_nil_of_length_eq_zero (by omega)
        obtain rfl : m = 0 := by rw [hm.out, h3]; rfl
        subst h1
        have own' : wr.ownsRow (w.heap.size + 1) 50 2 (.slice a' on G) on (cellsP L) := by rw [H1'.out, h3, List.append_nil]; exact own
        replace h3 := hide h3
        clear h2
        go_wp2_with (at_builtin; refine wpList_append_own_none rfl (.tmp 28) (.tmp 30) 34 rfl (w.heap.size + 1) 50 i0 2 Tryz.underlying34 hi _ on _ rfl own rfl ?_)
        go_wp2_with fail
        go_ret2
        exact ⟨a', G, by rw [hlen.out, H0'.out]; rfl, by rw [hlen.out]; exact ownBase own' (Nat.le_succ _), bel⟩
      | some ad =>
        have ysrc : ∀ j u, (cellsP hd)[j]? = some u → wr.cell? (ad.add j) = some u := by
          intro j u hu
          obtain ⟨b', off', e, _, hc⟩ := sh1.row.at (by intro e; rw [e] at hu; simp at hu)
          obtain rfl := Option.some.inj e
          rw [Addr.add_lit]
          exact hc j u hu
        go_wp2_with (at_builtin; refine wpList_append_own_wide _ rfl (.tmp 28) (.tmp 30) 34 rfl (w.heap.size + 1) 50 i0 (.agg #[.int .i64 0, .int .i64 0]) 2 16 Tryz.underlying34 hi hz0 hz1 hz2 rfl (by decide) _ on _ rfl own ad m _ (cellsP hd) rfl hdc.out ysrc hdo (by unfold maxLen; omega) (by omega) e1 ?_)
        intro v3 w3 own3 grow3 _
        have bel3 := belowGrown bel own grow3 (Nat.le_succ _) bel.size
        rw [← hcat.out, ← H1'.out] at own3
        obtain ⟨a3, G3, rfl, _, _, _⟩ := SlP.ofOwn own3
        clear grow3 own
        go_wp2_with fail
        go_ret2
        exact ⟨a3, G3, by rw [hlen.out, H0'.out]; rfl, by rw [hlen.out]; exact ownBase own3 (Nat.le_succ _), bel3⟩

end Go.Proofs.YtcjdpilmhlfmfaaGreatDoor

/-
  shelf.checkPoints, shelf.checkRow, shelf.Check: what they answer of a row, of a shelf, whatever it is; nothing that was there is written. shelf.isSeries.
-/
namespace Go.Proofs.YtcjdpilmhlfmfaaGreatDoor
open Go.RowKit

set_option maxHeartbeats 400000 in
set_option maxRecDepth 100000 in
theorem isSeries_any (x : Int) (w : World) :
    Calls Tryz.prog 78 #[.int .i64 x] w fun e w' => e = .returned (.bool (inI x 0 3)) ∧ w' = w := by
  by_cases h0 : 0 ≤ x
  · by_cases h1 : x < 4
    · rw [show inI x 0 3 = true by unfold inI; simp; omega]
      go_enter Tryz.func78, Tryz.ntmps78
      go_wp2_with fail
      go_ret
      exact ⟨rfl, rfl⟩
    · rw [show inI x 0 3 = false by unfold inI; simp; omega]
      go_enter Tryz.func78, Tryz.ntmps78
      go_wp2_with fail
      go_ret
      exact ⟨rfl, rfl⟩
  · rw [show inI x 0 3 = false by unfold inI; simp; omega]
    go_enter Tryz.func78, Tryz.ntmps78
    go_wp2_with fail
    go_ret
    exact ⟨rfl, rfl⟩

/-- What is wrong with the points of a row. -/
def cpE (r : Rw) : Int := if blksE r.blocks = 0 then checkE (allPts r) else blksE r.blocks

set_option maxHeartbeats 400000 in
set_option maxRecDepth 100000 in
theorem checkPoints_any (r : Lr) (w : World) (hg : r.Good w) (h : r.bs.length ≤ 8) :
    Calls Tryz.prog 159 #[r.v] w fun e w' => e = .returned (.int .i64 (cpE r.rw)) ∧ Below w.heap.size w w' := by
  have c1 := fun W k => sPoints_any r W k h
  have c2 := fun a c W k => check_any a c (rpts r.rw) W k
  have g1 := fun o => hg.alloc o
  unfold Lr.v at *
  have hz : blksE r.rw.blocks = 0 → cpE r.rw = checkE (rpts r.rw) := fun e => by unfold cpE rpts; rw [if_pos e, if_pos e]
  have hn : blksE r.rw.blocks ≠ 0 → cpE r.rw = blksE r.rw.blocks := fun e => by unfold cpE; rw [if_neg e]
  generalize cpE r.rw = F at *
  generalize blksE r.rw.blocks = E at *
  generalize rpts r.rw = L at *
  obtain ⟨bs, ba, bc, hd, ha, hc⟩ := r
  simp only at *
  generalize bs.length = n1 at *
  generalize hd.length = n2 at *
  clear hg h
  by_cases hE : E = 0
  · have hz' := hide (hz hE)
    subst hE
    clear hz hn
    go_enter Tryz.func159, Tryz.ntmps159
    go_wp2_with fail
    go_at_call 79
    refine (c1 _ (g1 _)).mono ?_
    rintro e w2 ⟨a2, G2, rfl, own2, b2⟩
    have bel2 := belowCall (belowNew (Below.refl _ w) _) b2
    obtain ⟨a3, G3, e3, s3, _, _⟩ := SlP.ofOwn own2
    simp only [Value.slice.injEq, true_and] at e3
    obtain ⟨rfl, rfl⟩ := e3
    go_wp2_with fail
    go_at_call 24
    refine (c2 _ _ _ s3).mono ?_
    rintro e w4 ⟨rfl, b4⟩
    have bel4 := belowCall bel2 b4
    go_wp2_with fail
    go_ret
    exact ⟨by rw [hz'.out]; rfl, bel4⟩
  · have hn' := hide (hn hE)
    clear hz hn
    go_enter Tryz.func159, Tryz.ntmps159
    go_wp2_with fail
    go_at_call 79
    refine (c1 _ (g1 _)).mono ?_
    rintro e w2 ⟨a2, G2, rfl, own2, b2⟩
    have bel2 := belowCall (belowNew (Below.refl _ w) _) b2
    go_wp2_with fail
    go_ret
    exact ⟨by rw [hn'.out]; rfl, bel2⟩

set_option maxHeartbeats 400000 in
set_option maxRecDepth 100000 in
theorem checkRow_any (r : Lr) (w : World) (hg : r.Good w) :
    Calls Tryz.prog 120 #[r.v] w fun e w' => e = .returned (.int .i64 (rowE r.rw)) ∧ Below w.heap.size w w' := by
  by_cases h : r.bs.length ≤ 8
  · have hE : rowE r.rw = cpE r.rw := by unfold rowE cpE; rw [if_neg (by unfold Lr.rw; simp only [List.length_map]; omega)]
    have c1 := fun W k => checkPoints_any r W k h
    rw [← hE] at c1
    have g1 := fun o => hg.alloc o
    generalize rowE r.rw = F at *
    clear hE
    unfold Lr.v at *
    obtain ⟨bs, ba, bc, hd, ha, hc⟩ := r
    simp only at *
    generalize bs.length = n1 at *
    generalize hd.length = n2 at *
    have h' : ¬ (8 : Int) < n1 := by omega
    clear hg
    go_enter Tryz.func120, Tryz.ntmps120
    go_wp2_with fail
    go_at_call 159
    refine (c1 _ (g1 _)).mono ?_
    rintro e w2 ⟨rfl, b2⟩
    have bel2 := belowCall (belowNew (Below.refl _ w) _) b2
    go_wp2_with fail
    go_ret
    exact ⟨rfl, bel2⟩
  · have hE : rowE r.rw = 2 := by unfold rowE; rw [if_pos (by unfold Lr.rw; simp only [List.length_map]; omega)]
    have hf := hg.few
    rw [hE]
    unfold Lr.v
    obtain ⟨bs, ba, bc, hd, ha, hc⟩ := r
    simp only at *
    generalize bs.length = n1 at *
    generalize hd.length = n2 at *
    have h' : (8 : Int) < n1 := by omega
    clear hg hE
    go_enter Tryz.func120, Tryz.ntmps120
    go_wp2_with fail
    go_ret
    exact ⟨rfl, (Below.refl _ _).alloc (Nat.le_refl _) _⟩

set_option maxHeartbeats 400000 in
set_option maxRecDepth 100000 in
theorem sCheck_no (n : Nat) (ao : Option Addr) (cap : Nat) (w : World) (h : n ≠ 4) :
    Calls Tryz.prog 77 #[.agg #[.slice ao n cap]] w fun e w' => e = .returned (.int .i64 4) ∧ Below w.heap.size w w' := by
  have h' : ¬ (n : Int) = 4 := by omega
  go_enter Tryz.func77, Tryz.ntmps77
  go_wp2_with fail
  go_ret
  exact ⟨rfl, (Below.refl _ _).alloc (Nat.le_refl _) _⟩

set_option maxHeartbeats 400000 in
set_option maxRecDepth 100000 in
theorem sCheck_four (l : List Lr) (ao : Option Addr) (cap : Nat) (w : World) (hs : SlR w ao cap l) (h4 : l.length = 4) :
    Calls Tryz.prog 77 #[.agg #[.slice ao 4 cap]] w fun e w' => e = .returned (.int .i64 (rowsE (l.map Lr.rw))) ∧ Below w.heap.size w w' := by
  obtain ⟨E, hE⟩ : ∃ E, E = rowsE (l.map Lr.rw) := ⟨_, rfl⟩
  rw [← hE]
  have H0 : Hid (E = rowsE ((l.drop 0).map Lr.rw)) := by rw [List.drop_zero]; exact hE
  clear hE
  obtain ⟨b, off, rfl, hbw⟩ := hs.where (by intro e; rw [e] at h4; simp at h4)
  replace h4 := hide h4
  go_enter Tryz.func77, Tryz.ntmps77
  go_wp2_with fail
  have B0 := Blk.laid w [.slice (some ⟨b, off, none⟩) 4 cap] 24 _ rfl
  have bel0 : Below w.heap.size w (w.alloc (.cells #[.slice (some ⟨b, off, none⟩) 4 cap] 24)) := (Below.refl _ _).alloc (Nat.le_refl _) _
  generalize w.alloc _ = w1 at *
  go_loopw [13] (fun i wr => ∃ (k : Nat), k ≤ 4 ∧ i = .int .i64 k ∧ Hid (E = rowsE ((l.drop k).map Lr.rw)) ∧ Below w.heap.size w wr) (fun i _ => 4 - (intOf i).toNat)
  case atStart => exact ⟨0, by omega, rfl, H0, bel0⟩
  case round =>
    clear H0 B0 bel0
    obtain ⟨k, hk, rfl, H0, bel⟩ := hrel
    by_cases hlt : k < 4
    · have hs1 := hs.keep bel (Nat.le_refl _)
      obtain ⟨r, hr⟩ : ∃ r, l[k]? = some r := ⟨_, List.getElem?_eq_getElem (by rw [h4.out]; exact hlt)⟩
      obtain ⟨e0, e1, gr⟩ := hs1.at k r hr
      have hd : l.drop k = r :: l.drop (k + 1) := by
        obtain ⟨hk', rfl⟩ := List.getElem?_eq_some_iff.1 hr
        exact List.drop_eq_getElem_cons hk'
      have H0' := H0.out
      rw [hd, List.map_cons, rowsE] at H0'
      have c1 := fun W h => checkRow_any r W h
      unfold Lr.v at c1
      clear H0 hd hr hs1
      by_cases hE : rowE r.rw = 0
      · rw [if_pos hE] at H0'
        rw [hE] at c1
        replace H0' := hide H0'
        clear hE
        go_wp2_with fail
        go_at_call 120
        refine (c1 _ (gr.alloc _)).mono ?_
        rintro e w2 ⟨rfl, b2⟩
        have bel2 := belowCall (belowNew bel _) b2
        go_wp2_with fail
        go_roundw
        case rel => exact ⟨k + 1, by omega, by go_num, H0', bel2⟩
        case measure => simp [intOf]; omega
      · rw [if_neg hE] at H0'
        generalize rowE r.rw = F at *
        replace H0' := hide H0'
        go_wp2_with fail
        go_at_call 120
        refine (c1 _ (gr.alloc _)).mono ?_
        rintro e w2 ⟨rfl, b2⟩
        have bel2 := belowCall (belowNew bel _) b2
        go_wp2_with fail
        go_ret
        exact ⟨by rw [H0'.out]; rfl, bel2⟩
    · obtain rfl : k = 4 := by omega
      have H0' := H0.out
      rw [List.drop_eq_nil_of_le (by rw [h4.out]; exact Nat.le_refl _)] at H0'
      replace H0' := hide H0'
      clear H0
      go_wp2_with fail
      go_ret
      exact ⟨by rw [H0'.out]; rfl, bel⟩

/-- Check, whatever it is handed. -/
theorem sCheck_any (l : List Lr) (ao : Option Addr) (cap : Nat) (w : World) (hs : SlR w ao cap l) :
    Calls Tryz.prog 77 #[.agg #[.slice ao l.length cap]] w fun e w' => e = .returned (.int .i64 (shelfE (l.map Lr.rw))) ∧ Below w.heap.size w w' := by
  unfold shelfE
  rw [List.length_map]
  by_cases h : l.length = 4
  · rw [if_pos h, h]
    exact sCheck_four l ao cap w hs h
  · rw [if_neg h]
    exact sCheck_no l.length ao cap w h

end Go.Proofs.YtcjdpilmhlfmfaaGreatDoor

/-
  Four rows of nothing, with where their parts lie.
-/
namespace Go.Proofs.YtcjdpilmhlfmfaaGreatDoor
open Go.RowKit

def lr0 : Lr := ⟨[], none, 0, [], none, 0⟩

theorem lr0_good (w : World) : lr0.Good w := ⟨SlB.ofNil w, SlP.ofNil w, by decide, by decide⟩

def fresh4 : List Lr := [lr0, lr0, lr0, lr0]

end Go.Proofs.YtcjdpilmhlfmfaaGreatDoor

/-
  shelf.All and shelf.New.
-/
namespace Go.Proofs.YtcjdpilmhlfmfaaGreatDoor
open Go.RowKit

set_option maxHeartbeats 400000 in
set_option maxRecDepth 100000 in
theorem sNew_any (w : World) :
    Calls Tryz.prog 68 #[] w fun e w' => ∃ a' G, e = .returned (.agg #[.slice a' 4 G]) ∧ SlR w' a' G fresh4 ∧ Below w.heap.size w w' := by
  obtain ⟨i0, hi, hz0, hz1, hz2⟩ := info_parts infoR
  have B0 := Blk.laid w [.slice none 0 0] 24 _ rfl
  go_enter Tryz.func68, Tryz.ntmps68
  go_wp2_with (at_make; refine wpList_make_full _ rfl (.const (.int .i64 4)) (.const (.int .i64 4)) 22 rfl (w.heap.size + 1) 47 i0 (.agg #[.slice none 0 0, .slice none 0 0]) 2 Tryz.underlying22 hi hz0 hz1 _ _ _ _ 4 rfl rfl rfl rfl (by rw [hz2]; omega) (by unfold maxLen; omega) (by simp) ?_)
  intro w1 own grow
  rw [show (madeCells #[Value.slice none 0 0, Value.slice none 0 0] 8).toList = fresh4.flatMap Lr.cells by kernel_rfl] at own
  have bel : Below w.heap.size w w1 := ((Below.refl _ _).alloc (Nat.le_refl _) _).grown grow (by simp) (fun k h => by cases h)
  have B1 := B0.grown grow (fun k h => by cases h)
  have f0 := B1.free 0
  have d0 : w1.cell? ⟨w.heap.size, 0, none⟩ = some (.slice none 0 0) := B1.cell 0
  have hgl := B1.lt
  go_wp2_with fail
  have own2 := own.kept (row := some w.heap.size) (grownSet (grownRefl w1 (some w.heap.size)) 0 (.slice (some ⟨w.heap.size + 1, 0, none⟩) 4 4)) (.inr (by intro e; have : w.heap.size + 1 = w.heap.size := Option.some.inj e; omega))
  obtain ⟨a9, c9, ev, s9, _, _⟩ := SlW.ofOwn Lr.two (by decide) own2
  simp only [Value.slice.injEq, true_and] at ev
  obtain ⟨rfl, rfl⟩ := ev
  refine bodyPost_ret (v := .agg #[.slice (some ⟨w.heap.size + 1, 0, none⟩) 4 4]) (by simp [results, Tryz.results68, go_sem, d0]) rfl ?_
  refine ⟨_, _, rfl, ⟨s9, fun r hr => ?_⟩, bel.setCell (Nat.le_refl _) _⟩
  simp only [fresh4, List.mem_cons, List.not_mem_nil, or_false, or_self] at hr
  subst hr
  exact lr0_good _

def allE (l : List Rw) (s : Int) : Int := if shelfE l = 0 then (if inI s 0 3 = false then 5 else 0) else shelfE l

def allL (l : List Rw) (s : Int) : List Pt := if allE l s = 0 then allPts (l.getD s.toNat rw0) else []

set_option maxHeartbeats 400000 in
set_option maxRecDepth 100000 in
/-- All, whatever it is handed: the points lie in memory of the call's own. -/
theorem sAll_any (l : List Lr) (ao : Option Addr) (cap : Nat) (s : Int) (w : World) (hs : SlR w ao cap l) :
    Calls Tryz.prog 38 #[.agg #[.slice ao l.length cap], .int .i64 s] w fun e w' => ∃ a' G, e = .returned (.tuple #[.slice a' (allL (l.map Lr.rw) s).length G, .int .i64 (allE (l.map Lr.rw) s)]) ∧
      w'.ownsRow w.heap.size 50 2 (.slice a' (allL (l.map Lr.rw) s).length G) (allL (l.map Lr.rw) s).length (cellsP (allL (l.map Lr.rw) s)) ∧ Below w.heap.size w w' := by
  have c1 := fun W h => sCheck_any l ao cap W h
  have c2 := fun W => isSeries_any s W
  have hs1 := fun o => hs.alloc o
  obtain ⟨A, hA⟩ : ∃ A, A = allL (l.map Lr.rw) s := ⟨_, rfl⟩
  rw [← hA]
  by_cases hE : shelfE (l.map Lr.rw) = 0
  · by_cases hi : inI s 0 3 = true
    · have e1 : allE (l.map Lr.rw) s = 0 := by unfold allE; rw [if_pos hE, hi]; rfl
      obtain ⟨h4, hrows⟩ := shelfE_zero hE
      rw [List.length_map] at h4
      have hin : 0 ≤ s ∧ s ≤ 3 := by unfold inI at hi; simpa using hi
      obtain ⟨k, rfl⟩ : ∃ k : Nat, s = k := ⟨s.toNat, by omega⟩
      have hk : k < 4 := by omega
      obtain ⟨x, hx⟩ : ∃ x, l[k]? = some x := ⟨_, List.getElem?_eq_getElem (by omega)⟩
      have hxr : rowE x.rw = 0 := rowsE_zero hrows x.rw (List.mem_map.2 ⟨x, List.mem_of_getElem? hx, rfl⟩)
      obtain ⟨z1, z2, z3⟩ := rowE_zero hxr
      have hA2 : A = rpts x.rw := by
        rw [hA]; unfold allL rpts; rw [if_pos e1, if_pos z2, Int.toNat_natCast]
        congr 1
        simp [List.getD, List.getElem?_map, hx]
      have c3 := fun W h => sPoints_any x W h (by unfold Lr.rw at z1; simpa using z1)
      rw [← hA2, z2] at c3
      rw [hE] at c1
      rw [e1]
      rw [hi] at c2
      rw [h4] at c1 ⊢
      obtain ⟨b, off, rfl, hbw⟩ := hs.where (by intro e; rw [e] at h4; simp at h4)
      unfold Lr.v at c3
      replace h4 := hide h4
      replace hx := hide hx
      clear hA2 hA hE hi e1 hrows hxr z1 z2 z3 hin
      have B0 := Blk.laid w [.slice (some ⟨b, off, none⟩) 4 cap] 24 _ rfl
      have bel0 : Below w.heap.size w (w.alloc (.cells #[.slice (some ⟨b, off, none⟩) 4 cap] 24)) := (Below.refl _ _).alloc (Nat.le_refl _) _
      replace hs1 := hs1 (.cells #[.slice (some ⟨b, off, none⟩) 4 cap] 24)
      go_enter Tryz.func38, Tryz.ntmps38
      go_wp2_with fail
      generalize w.alloc _ = w1 at *
      go_at_call 77
      refine (c1 _ hs1).mono ?_
      rintro e w2 ⟨rfl, b2⟩
      have hs2 := hs1.call b2
      have B2 := B0.keep b2 B0.lt
      have bel2 := belowCall bel0 b2
      have d0 : w2.cell? ⟨w.heap.size, 0, none⟩ = some (.slice (some ⟨b, off, none⟩) 4 cap) := B2.cell 0
      obtain ⟨e0, e1, gr⟩ := hs2.at k x hx.out
      clear b2 hs1 B0 bel0
      go_wp2_with fail
      go_at_call 78
      refine (c2 _).mono ?_
      rintro e w3 ⟨rfl, rfl⟩
      go_wp2_with fail
      go_at_call 79
      refine (c3 _ gr).mono ?_
      rintro e w4 ⟨a4, G4, rfl, own4, b4⟩
      have bel4 := belowCall bel2 b4
      have own5 := ownBase own4 bel2.size
      go_wp2_with fail
      go_ret2
      exact ⟨_, _, rfl, own5, bel4⟩
    · have hi : inI s 0 3 = false := by simpa using hi
      have e1 : allE (l.map Lr.rw) s = 5 := by unfold allE; rw [if_pos hE, hi]; rfl
      obtain rfl : A = [] := by rw [hA]; unfold allL; rw [e1]; rfl
      rw [e1]
      rw [hE] at c1
      rw [hi] at c2
      clear hA hE e1 hi
      generalize l.length = n at *
      go_enter Tryz.func38, Tryz.ntmps38
      go_wp2_with fail
      go_at_call 77
      refine (c1 _ (hs1 _)).mono ?_
      rintro e w2 ⟨rfl, b2⟩
      have bel2 := belowCall (belowNew (Below.refl _ w) _) b2
      go_wp2_with fail
      go_at_call 78
      refine (c2 _).mono ?_
      rintro e w3 ⟨rfl, rfl⟩
      go_wp2_with fail
      go_ret2
      exact ⟨none, 0, rfl, World.ownsRow_nil _ _ _ _, bel2⟩
  · have e1 : allE (l.map Lr.rw) s = shelfE (l.map Lr.rw) := by unfold allE; rw [if_neg hE]
    obtain rfl : A = [] := by rw [hA]; unfold allL; rw [e1, if_neg hE]
    rw [e1]
    clear hA e1
    generalize shelfE (l.map Lr.rw) = E at *
    generalize l.length = n at *
    go_enter Tryz.func38, Tryz.ntmps38
    go_wp2_with fail
    go_at_call 77
    refine (c1 _ (hs1 _)).mono ?_
    rintro e w2 ⟨rfl, b2⟩
    have bel2 := belowCall (belowNew (Below.refl _ w) _) b2
    go_wp2_with fail
    go_ret2
    exact ⟨none, 0, rfl, World.ownsRow_nil _ _ _ _, bel2⟩

end Go.Proofs.YtcjdpilmhlfmfaaGreatDoor
