/-
  rainbookref.BlockOf: what it answers, whatever it is handed; nothing that was there is written.
-/
import Derived.Test.YtpeeeealbfmklacBlockKit
import Derived.Test.YtpeeeealbfmklacRefUnpack
namespace Go.Proofs.Ytpeeeealbfmklac
open Go.RowKit

set_option maxHeartbeats 400000 in
set_option maxRecDepth 100000 in
theorem refMake_ok (ao : Option Addr) (cap : Nat) (l : List Pt) (w : World) (hr : SlP w ao cap l) (h : checkE l = 0) (hl : 0 < l.length) :
    Calls Try.prog 8 #[.slice ao l.length cap] w fun e w' =>
      ∃ a' G, e = .returned (.tuple #[.agg #[.int .i64 l.length, .int .i64 (firstT l), .int .i64 (endT l), .slice a' (packL l).length G], .int .i64 0]) ∧ Sl w' a' G ((packL l).map Value.bool) ∧ Below w.heap.size w w' := by
  have c1 := fun W h => refPack_any ao cap l W h
  rw [h] at c1
  have h40 := (checkE_zero h).1
  obtain ⟨b, off, rfl, hb⟩ := hr.where (by intro e; rw [e] at hl; simp at hl)
  have s0 := fun W (h : SlP W (some ⟨b, off, none⟩) cap l) => h.first hl
  have s1 := fun W (h : SlP W (some ⟨b, off, none⟩) cap l) => h.last hl
  generalize packL l = P at *
  generalize firstT l = X at *
  generalize endT l = Y at *
  obtain ⟨n, hn⟩ : ∃ n, n + 1 = l.length := ⟨l.length - 1, by omega⟩
  rw [← hn] at c1 s1 h40 ⊢
  clear hn hl h
  go_enter Try.func8, Try.ntmps8
  go_wp2_with fail
  go_at_call 19
  refine (c1 _ (hr.alloc _)).mono ?_
  rintro e w1 ⟨a1, G1, rfl, t1, b1⟩
  have B0 := (Blk.laid w [.int .i64 0, .int .i64 0, .int .i64 0, .slice none 0 0] 25 _ rfl).keep b1 (by simp)
  have bel := belowCall ((Below.refl _ _).alloc (Nat.le_refl _) _) b1
  have hr1 := (hr.alloc _).call b1
  have e0 := s0 _ hr1
  have e1 := s1 _ hr1
  clear c1 s0 s1 b1
  simp only [Nat.add_sub_cancel] at e1
  have f0 := B0.free 0
  have f1 := B0.free 1
  have f2 := B0.free 2
  have f3 := B0.free 3
  have d0 : w1.cell? ⟨w.heap.size, 0, none⟩ = some (.int .i64 0) := B0.cell 0
  have d1 : w1.cell? ⟨w.heap.size, 1, none⟩ = some (.int .i64 0) := B0.cell 1
  have d2 : w1.cell? ⟨w.heap.size, 2, none⟩ = some (.int .i64 0) := B0.cell 2
  have d3 : w1.cell? ⟨w.heap.size, 3, none⟩ = some (.slice none 0 0) := B0.cell 3
  have hgl := B0.lt
  go_wp2_with fail
  go_region
  go_wp2_with fail
  have B4 := (B0.put4 (.int .i64 ((n : Int) + 1)) (.int .i64 X) (.int .i64 Y) (.slice a1 P.length G1)).drewS
  have bel4 := belowDrew (below4 bel (g := w.heap.size) (Nat.le_refl _) (.int .i64 ((n : Int) + 1)) (.int .i64 X) (.int .i64 Y) (.slice a1 P.length G1))
  have t4 := (t1.put4 B0 (.int .i64 ((n : Int) + 1)) (.int .i64 X) (.int .i64 Y) (.slice a1 P.length G1)).drewS
  generalize (World.setCell _ _ _).drew = w5 at *
  have i0 : w5.cell? ⟨w.heap.size, 0, none⟩ = some (.int .i64 ((n : Int) + 1)) := B4.cell 0
  have i1 : w5.cell? ⟨w.heap.size, 1, none⟩ = some (.int .i64 X) := B4.cell 1
  have i2 : w5.cell? ⟨w.heap.size, 2, none⟩ = some (.int .i64 Y) := B4.cell 2
  have i3 : w5.cell? ⟨w.heap.size, 3, none⟩ = some (.slice a1 P.length G1) := B4.cell 3
  exact bodyPost_ret (v := .tuple #[.agg #[.int .i64 ((n : Int) + 1), .int .i64 X, .int .i64 Y, .slice a1 P.length G1], .int .i64 0]) (by simp [results, Try.results8, go_sem, i0, i1, i2, i3]) rfl ⟨a1, G1, by simp, t4, bel4⟩

set_option maxHeartbeats 400000 in
set_option maxRecDepth 100000 in
theorem refMake_no (ao : Option Addr) (cap : Nat) (l : List Pt) (w : World) (hr : SlP w ao cap l) (h : ¬ makeE l = 0) :
    Calls Try.prog 8 #[.slice ao l.length cap] w fun e w' =>
      e = .returned (.tuple #[.agg #[.int .i64 0, .int .i64 0, .int .i64 0, .slice none 0 0], .int .i64 (makeE l)]) ∧ Below w.heap.size w w' := by
  have c1 := fun W h => refPack_any ao cap l W h
  unfold makeE at h ⊢
  by_cases h0 : checkE l = 0
  · rw [h0] at c1
    rw [if_pos h0] at h ⊢
    by_cases h1 : l.length = 0
    · rw [if_pos h1, h1]
      rw [h1] at c1
      generalize packL l = P at *
      clear h h0 h1
      go_enter Try.func8, Try.ntmps8
      go_wp2_with fail
      go_at_call 19
      refine (c1 _ (hr.alloc _)).mono ?_
      rintro e w1 ⟨a1, G1, rfl, t1, b1⟩
      have B0 := (Blk.laid w [.int .i64 0, .int .i64 0, .int .i64 0, .slice none 0 0] 25 _ rfl).keep b1 (by simp)
      have bel := belowCall ((Below.refl _ _).alloc (Nat.le_refl _) _) b1
      clear c1 b1
      have f0 := B0.free 0
      have f1 := B0.free 1
      have f2 := B0.free 2
      have f3 := B0.free 3
      have d0 : w1.cell? ⟨w.heap.size, 0, none⟩ = some (.int .i64 0) := B0.cell 0
      have d1 : w1.cell? ⟨w.heap.size, 1, none⟩ = some (.int .i64 0) := B0.cell 1
      have d2 : w1.cell? ⟨w.heap.size, 2, none⟩ = some (.int .i64 0) := B0.cell 2
      have d3 : w1.cell? ⟨w.heap.size, 3, none⟩ = some (.slice none 0 0) := B0.cell 3
      have hgl := B0.lt
      go_wp2_with fail
      have B4 := B0.put4 (.int .i64 0) (.int .i64 0) (.int .i64 0) (.slice none 0 0)
      have bel4 := below4 bel (g := w.heap.size) (Nat.le_refl _) (.int .i64 0) (.int .i64 0) (.int .i64 0) (.slice none 0 0)
      generalize World.setCell _ _ _ = w5 at *
      have i0 : w5.cell? ⟨w.heap.size, 0, none⟩ = some (.int .i64 0) := B4.cell 0
      have i1 : w5.cell? ⟨w.heap.size, 1, none⟩ = some (.int .i64 0) := B4.cell 1
      have i2 : w5.cell? ⟨w.heap.size, 2, none⟩ = some (.int .i64 0) := B4.cell 2
      have i3 : w5.cell? ⟨w.heap.size, 3, none⟩ = some (.slice none 0 0) := B4.cell 3
      exact bodyPost_ret (v := .tuple #[.agg #[.int .i64 0, .int .i64 0, .int .i64 0, .slice none 0 0], .int .i64 4]) (by simp [results, Try.results8, go_sem, i0, i1, i2, i3]) rfl ⟨rfl, bel4⟩
    · rw [if_neg h1] at h
      exact absurd rfl h
  · rw [if_neg h0]
    generalize packL l = P at *
    generalize checkE l = E at *
    generalize l.length = n at *
    clear h
    go_enter Try.func8, Try.ntmps8
    go_wp2_with fail
    go_at_call 19
    refine (c1 _ (hr.alloc _)).mono ?_
    rintro e w1 ⟨a1, G1, rfl, t1, b1⟩
    have B0 := (Blk.laid w [.int .i64 0, .int .i64 0, .int .i64 0, .slice none 0 0] 25 _ rfl).keep b1 (by simp)
    have bel := belowCall ((Below.refl _ _).alloc (Nat.le_refl _) _) b1
    clear c1 b1
    have f0 := B0.free 0
    have f1 := B0.free 1
    have f2 := B0.free 2
    have f3 := B0.free 3
    have d0 : w1.cell? ⟨w.heap.size, 0, none⟩ = some (.int .i64 0) := B0.cell 0
    have d1 : w1.cell? ⟨w.heap.size, 1, none⟩ = some (.int .i64 0) := B0.cell 1
    have d2 : w1.cell? ⟨w.heap.size, 2, none⟩ = some (.int .i64 0) := B0.cell 2
    have d3 : w1.cell? ⟨w.heap.size, 3, none⟩ = some (.slice none 0 0) := B0.cell 3
    have hgl := B0.lt
    go_wp2_with fail
    have B4 := B0.put4 (.int .i64 0) (.int .i64 0) (.int .i64 0) (.slice none 0 0)
    have bel4 := below4 bel (g := w.heap.size) (Nat.le_refl _) (.int .i64 0) (.int .i64 0) (.int .i64 0) (.slice none 0 0)
    generalize World.setCell _ _ _ = w5 at *
    have i0 : w5.cell? ⟨w.heap.size, 0, none⟩ = some (.int .i64 0) := B4.cell 0
    have i1 : w5.cell? ⟨w.heap.size, 1, none⟩ = some (.int .i64 0) := B4.cell 1
    have i2 : w5.cell? ⟨w.heap.size, 2, none⟩ = some (.int .i64 0) := B4.cell 2
    have i3 : w5.cell? ⟨w.heap.size, 3, none⟩ = some (.slice none 0 0) := B4.cell 3
    exact bodyPost_ret (v := .tuple #[.agg #[.int .i64 0, .int .i64 0, .int .i64 0, .slice none 0 0], .int .i64 E]) (by simp [results, Try.results8, go_sem, i0, i1, i2, i3]) rfl ⟨rfl, bel4⟩

/-- BlockOf, whatever it is handed. -/
theorem refMake_any (ao : Option Addr) (cap : Nat) (l : List Pt) (w : World) (hr : SlP w ao cap l) :
    Calls Try.prog 8 #[.slice ao l.length cap] w fun e w' =>
      ∃ a' G, e = .returned (.tuple #[bkV (makeB l) a' G, .int .i64 (makeE l)]) ∧ Sl w' a' G ((makeB l).bits.map Value.bool) ∧ Below w.heap.size w w' := by
  by_cases h : makeE l = 0
  · have hc : checkE l = 0 ∧ 0 < l.length := by
      unfold makeE at h
      by_cases h0 : checkE l = 0
      · rw [if_pos h0] at h
        refine ⟨h0, ?_⟩
        by_cases h1 : l.length = 0
        · rw [if_pos h1] at h; cases h
        · omega
      · rw [if_neg h0] at h
        exact absurd h h0
    rw [makeB_eq hc.1 hc.2, h]
    exact refMake_ok ao cap l w hr hc.1 hc.2
  · have e : makeB l = bk0 := if_neg h
    rw [e]
    refine (refMake_no ao cap l w hr h).mono ?_
    rintro e w' ⟨rfl, b⟩
    exact ⟨none, 0, rfl, Sl.ofNil _, b⟩

end Go.Proofs.Ytpeeeealbfmklac
