/-
  sum.Join and sum.Of: what they return; nothing that was there is written.
-/
import Derived.Test.YtcbhpikcnhefbabSumMath
namespace Go.Proofs.Ytcbhpikcnhefbab
open Go.RowKit

set_option maxHeartbeats 1000000 in
set_option maxRecDepth 100000 in
theorem join_raw (an alo ahi atot bn blo bhi btot : Int) (w : World) :
    Calls Try.prog 18 #[.agg #[.int .i64 an, .int .i64 alo, .int .i64 ahi, .int .i64 atot], .agg #[.int .i64 bn, .int .i64 blo, .int .i64 bhi, .int .i64 btot]] w fun e w' => e = .returned (smV (joinS ⟨an, alo, ahi, atot⟩ ⟨bn, blo, bhi, btot⟩)) ∧ Below w.heap.size w w' := by
  unfold joinS
  simp only
  by_cases h1 : an = 0
  · subst h1
    rw [if_pos rfl]
    go_enter Try.func18, Try.ntmps18
    go_wp2
    exact bodyPost_ret (v := .agg #[.int .i64 bn, .int .i64 blo, .int .i64 bhi, .int .i64 btot]) (by simp [results, Try.results18, go_sem]) rfl ⟨rfl, below3 w _ _ _⟩
  · by_cases h2 : bn = 0
    · subst h2
      rw [if_neg h1, if_pos rfl]
      go_enter Try.func18, Try.ntmps18
      go_wp2
      exact bodyPost_ret (v := .agg #[.int .i64 an, .int .i64 alo, .int .i64 ahi, .int .i64 atot]) (by simp [results, Try.results18, go_sem]) rfl ⟨rfl, below3 w _ _ _⟩
    · rw [if_neg h1, if_neg h2]
      go_enter Try.func18, Try.ntmps18
      go_wp2
      exact bodyPost_ret (v := .agg #[.int .i64 (wrap64 (an + bn)), .int .i64 (min alo blo), .int .i64 (max ahi bhi), .int .i64 (wrap64 (atot + btot))]) (by simp [results, Try.results18, go_sem]) rfl ⟨rfl, below3 w _ _ _⟩

theorem join_any (a b : Sm) (w : World) :
    Calls Try.prog 18 #[smV a, smV b] w fun e w' => e = .returned (smV (joinS a b)) ∧ Below w.heap.size w w' := join_raw _ _ _ _ _ _ _ _ w

set_option maxHeartbeats 1000000 in
set_option maxRecDepth 100000 in
theorem of_any (ao : Option Addr) (cap : Nat) (l : List Pt) (w : World) (hr : SlP w ao cap l) :
    Calls Try.prog 16 #[.slice ao l.length cap] w fun e w' => e = .returned (smV (sumS l)) ∧ Below w.heap.size w w' := by
  obtain ⟨C, hC⟩ : ∃ C, C = sumS l := ⟨_, rfl⟩
  rw [← hC]
  obtain ⟨n, hn⟩ : ∃ n, n = l.length := ⟨_, rfl⟩
  rw [← hn]
  have hmax : n ≤ 9223372036854775807 := by have h1 := hr.le; have h2 := hr.max; omega
  have HL := hide hn
  have HC : Hid (C = sumFrom sm0 (l.drop 0)) := by rw [List.drop_zero]; exact hC
  clear hn hC
  go_enter Try.func16, Try.ntmps16
  go_wp2_with fail
  have B0 := Blk.laid w sm0.cells 39 _ rfl
  have B1 := Blk.laid (w.alloc (.cells sm0.cells.toArray 39)) sm0.cells 39 (w.heap.size + 1) (by simp)
  have B2 := B0.alc (.cells sm0.cells.toArray 39)
  have bel0 : Below w.heap.size w ((w.alloc (.cells sm0.cells.toArray 39)).alloc (.cells sm0.cells.toArray 39)) := below2 w _ _
  unfold Sm.cells sm0 at B1 B2 bel0
  clear B0
  generalize (w.alloc _).alloc _ = w2 at *
  go_loopw [8] (fun i wr => ∃ (k : Nat) (s : Sm), k ≤ n ∧ i = .int .i64 k ∧ Hid (C = sumFrom s (l.drop k)) ∧ Blk wr (w.heap.size + 1) s.cells 39 ∧ Blk wr w.heap.size sm0.cells 39 ∧ Below w.heap.size w wr) (fun i _ => n - (intOf i).toNat)
  case atStart => exact ⟨0, sm0, by omega, rfl, HC, B1, B2, bel0⟩
  case round =>
    clear HC B1 B2 bel0
    obtain ⟨k, ⟨sn, slo, shi, stot⟩, hk, rfl, HC, B, BR, bel⟩ := hrel
    have c0 : wr.cell? ⟨w.heap.size + 1, 0, none⟩ = some (.int .i64 sn) := B.cell 0
    have c1 : wr.cell? ⟨w.heap.size + 1, 1, none⟩ = some (.int .i64 slo) := B.cell 1
    have c2 : wr.cell? ⟨w.heap.size + 1, 2, none⟩ = some (.int .i64 shi) := B.cell 2
    have c3 : wr.cell? ⟨w.heap.size + 1, 3, none⟩ = some (.int .i64 stot) := B.cell 3
    have hgl := B.lt
    by_cases hlt : k < n
    · have hs := hr.keep bel (Nat.le_refl _)
      obtain ⟨b, off, rfl, hbw⟩ := hs.where (by intro h; rw [HL.out, h] at hlt; simp at hlt)
      obtain ⟨x, y, e0, e1, hx, hd⟩ := hs.pt k (by rw [← HL.out]; exact hlt)
      have HC' := HC.out
      rw [hd, sumFrom] at HC'
      have HC2 := hide HC'
      clear HC HC' hx hd
      have J := fun W => join_raw sn slo shi stot 1 y y y W
      obtain ⟨⟨rn, rlo, rhi, rtot⟩, hr'⟩ : ∃ r, r = joinS ⟨sn, slo, shi, stot⟩ ⟨1, y, y, y⟩ := ⟨_, rfl⟩
      rw [← hr'] at J
      unfold smV at J
      simp only at J
      have HR := hide hr'
      clear hr'
      go_wp2_with fail
      go_at_call 18
      refine (J _).mono ?_
      rintro e w3 ⟨rfl, b3⟩
      have B3 := (B.alc _).keep b3 (B.alc _).lt
      have BR3 := (BR.alc _).keep b3 (BR.alc _).lt
      have bel3 := belowCall (bel.alloc bel.size _) b3
      clear b3 c0 c1 c2 c3 B BR bel J
      have f0 := B3.free 0
      have f1 := B3.free 1
      have f2 := B3.free 2
      have f3 := B3.free 3
      have c0 : w3.cell? ⟨w.heap.size + 1, 0, none⟩ = some (.int .i64 sn) := B3.cell 0
      have c1 : w3.cell? ⟨w.heap.size + 1, 1, none⟩ = some (.int .i64 slo) := B3.cell 1
      have c2 : w3.cell? ⟨w.heap.size + 1, 2, none⟩ = some (.int .i64 shi) := B3.cell 2
      have c3 : w3.cell? ⟨w.heap.size + 1, 3, none⟩ = some (.int .i64 stot) := B3.cell 3
      have hgl3 := B3.lt
      go_wp2_with fail
      go_roundw
      case rel =>
        exact ⟨k + 1, ⟨rn, rlo, rhi, rtot⟩, by omega, by go_num, hide (by rw [HC2.out, HR.out]; rfl), (((B3.set 0 _).set 1 _).set 2 _).set 3 _,
          (((BR3.other 0 _ (by omega)).other 1 _ (by omega)).other 2 _ (by omega)).other 3 _ (by omega),
          (((bel3.setCell (by simp) _).setCell (by simp) _).setCell (by simp) _).setCell (by simp) _⟩
      case measure => simp [intOf]; omega
    · obtain rfl : k = n := by omega
      have HC' := HC.out
      rw [HL.out, List.drop_length, sumFrom] at HC'
      subst HC'
      have f0 := BR.free 0
      have f1 := BR.free 1
      have f2 := BR.free 2
      have f3 := BR.free 3
      have d0 : wr.cell? ⟨w.heap.size, 0, none⟩ = some (.int .i64 0) := BR.cell 0
      have d1 : wr.cell? ⟨w.heap.size, 1, none⟩ = some (.int .i64 0) := BR.cell 1
      have d2 : wr.cell? ⟨w.heap.size, 2, none⟩ = some (.int .i64 0) := BR.cell 2
      have d3 : wr.cell? ⟨w.heap.size, 3, none⟩ = some (.int .i64 0) := BR.cell 3
      have hgl4 := BR.lt
      go_wp2_with fail
      have bel4 : Below w.heap.size w ((((wr.setCell ⟨w.heap.size, 0, none⟩ (.int .i64 sn)).setCell ⟨w.heap.size, 1, none⟩ (.int .i64 slo)).setCell ⟨w.heap.size, 2, none⟩ (.int .i64 shi)).setCell ⟨w.heap.size, 3, none⟩ (.int .i64 stot)) :=
        (((bel.setCell (Nat.le_refl _) _).setCell (Nat.le_refl _) _).setCell (Nat.le_refl _) _).setCell (Nat.le_refl _) _
      have B4 := (((BR.set 0 (.int .i64 sn)).set 1 (.int .i64 slo)).set 2 (.int .i64 shi)).set 3 (.int .i64 stot)
      generalize (((wr.setCell _ _).setCell _ _).setCell _ _).setCell _ _ = w5 at *
      have i0 : w5.cell? ⟨w.heap.size, 0, none⟩ = some (.int .i64 sn) := B4.cell 0
      have i1 : w5.cell? ⟨w.heap.size, 1, none⟩ = some (.int .i64 slo) := B4.cell 1
      have i2 : w5.cell? ⟨w.heap.size, 2, none⟩ = some (.int .i64 shi) := B4.cell 2
      have i3 : w5.cell? ⟨w.heap.size, 3, none⟩ = some (.int .i64 stot) := B4.cell 3
      exact bodyPost_ret (v := smV ⟨sn, slo, shi, stot⟩) (by simp [results, Try.results16, go_sem, i0, i1, i2, i3, smV]) rfl ⟨rfl, bel4⟩

end Go.Proofs.Ytcbhpikcnhefbab
