/-
  block.Merge: what it answers, whatever it is handed; nothing that was there is written.
-/
import Derived.Test.YtpeeeealbfmklacBPoints
import Derived.Test.YtpeeeealbfmklacCopy2
namespace Go.Proofs.Ytpeeeealbfmklac
open Go.RowKit

set_option maxHeartbeats 400000 in
set_option maxRecDepth 100000 in
theorem merge_no1 (a b : Bk) (ao bo : Option Addr) (ca cb : Nat) (w : World) (ha : Sl w ao ca (a.bits.map Value.bool)) (la : a.bits.length ≤ 140737488355328) (h : ¬ ptsE a = 0) :
    Calls Try.prog 7 #[bkV a ao ca, bkV b bo cb] w fun e w' => e = .returned (.tuple #[.agg #[.int .i64 0, .int .i64 0, .int .i64 0, .slice none 0 0], .int .i64 (ptsE a)]) ∧ Below w.heap.size w w' := by
  have c1 := fun W h => bpoints_any a ao ca W h la
  generalize ptsE a = E at *
  generalize ptsL a = P at *
  obtain ⟨an, af, aT, X⟩ := a
  obtain ⟨bn, bf, bT, Y⟩ := b
  unfold bkV at *
  simp only at *
  have h3 := three w [.int .i64 an, .int .i64 af, .int .i64 aT, .slice ao X.length ca] [.int .i64 bn, .int .i64 bf, .int .i64 bT, .slice bo Y.length cb] [.int .i64 0, .int .i64 0, .int .i64 0, .slice none 0 0] 25
  have sa := fun o1 o2 o3 => ((ha.alloc o1).alloc o2).alloc o3
  clear la ha
  go_enter Try.func7, Try.ntmps7
  go_wp2_with fail
  go_at_call 6
  refine (c1 _ (sa _ _ _)).mono ?_
  rintro e w1 ⟨a1, G1, rfl, s1, b1⟩
  obtain ⟨_, BR, bel⟩ := h3
  have BR := BR.keep b1 BR.lt
  have bel := belowCall bel b1
  clear c1 b1 sa
  have f0 := BR.free 0
  have f1 := BR.free 1
  have f2 := BR.free 2
  have f3 := BR.free 3
  have d0 : w1.cell? ⟨w.heap.size + 2, 0, none⟩ = some (.int .i64 0) := BR.cell 0
  have d1 : w1.cell? ⟨w.heap.size + 2, 1, none⟩ = some (.int .i64 0) := BR.cell 1
  have d2 : w1.cell? ⟨w.heap.size + 2, 2, none⟩ = some (.int .i64 0) := BR.cell 2
  have d3 : w1.cell? ⟨w.heap.size + 2, 3, none⟩ = some (.slice none 0 0) := BR.cell 3
  have hgl := BR.lt
  go_wp2_with fail
  have B4 := BR.put4 (.int .i64 0) (.int .i64 0) (.int .i64 0) (.slice none 0 0)
  have bel4 := below4 bel (g := w.heap.size + 2) (by omega) (.int .i64 0) (.int .i64 0) (.int .i64 0) (.slice none 0 0)
  generalize World.setCell _ _ _ = w5 at *
  have i0 : w5.cell? ⟨w.heap.size + 2, 0, none⟩ = some (.int .i64 0) := B4.cell 0
  have i1 : w5.cell? ⟨w.heap.size + 2, 1, none⟩ = some (.int .i64 0) := B4.cell 1
  have i2 : w5.cell? ⟨w.heap.size + 2, 2, none⟩ = some (.int .i64 0) := B4.cell 2
  have i3 : w5.cell? ⟨w.heap.size + 2, 3, none⟩ = some (.slice none 0 0) := B4.cell 3
  exact bodyPost_ret (v := .tuple #[.agg #[.int .i64 0, .int .i64 0, .int .i64 0, .slice none 0 0], .int .i64 E]) (by simp [results, Try.results7, go_sem, i0, i1, i2, i3]) rfl ⟨rfl, bel4⟩

set_option maxHeartbeats 400000 in
set_option maxRecDepth 100000 in
theorem merge_no2 (a b : Bk) (ao bo : Option Addr) (ca cb : Nat) (w : World) (ha : Sl w ao ca (a.bits.map Value.bool)) (hb : Sl w bo cb (b.bits.map Value.bool)) (la : a.bits.length ≤ 140737488355328) (lb : b.bits.length ≤ 140737488355328) (h0 : ptsE a = 0) (h : ¬ ptsE b = 0) :
    Calls Try.prog 7 #[bkV a ao ca, bkV b bo cb] w fun e w' => e = .returned (.tuple #[.agg #[.int .i64 0, .int .i64 0, .int .i64 0, .slice none 0 0], .int .i64 (ptsE b)]) ∧ Below w.heap.size w w' := by
  have c1 := fun W h => bpoints_any a ao ca W h la
  have c2 := fun W h => bpoints_any b bo cb W h lb
  rw [h0] at c1
  generalize ptsE b = E at *
  generalize ptsL a = P at *
  generalize ptsL b = Q at *
  clear h0
  obtain ⟨an, af, aT, X⟩ := a
  obtain ⟨bn, bf, bT, Y⟩ := b
  unfold bkV at *
  simp only at *
  have h3 := three w [.int .i64 an, .int .i64 af, .int .i64 aT, .slice ao X.length ca] [.int .i64 bn, .int .i64 bf, .int .i64 bT, .slice bo Y.length cb] [.int .i64 0, .int .i64 0, .int .i64 0, .slice none 0 0] 25
  have sa := fun o1 o2 o3 => ((ha.alloc o1).alloc o2).alloc o3
  clear la lb ha
  go_enter Try.func7, Try.ntmps7
  go_wp2_with fail
  go_at_call 6
  refine (c1 _ (sa _ _ _)).mono ?_
  rintro e w1 ⟨a1, G1, rfl, s1, b1⟩
  obtain ⟨BB, BR, bel⟩ := h3
  have BB := BB.keep b1 BB.lt
  have BR := BR.keep b1 BR.lt
  have bel := belowCall bel b1
  have hb := hb.keep bel (Nat.le_refl _)
  clear c1 b1 sa
  have m0 : w1.cell? ⟨w.heap.size + 1, 0, none⟩ = some (.int .i64 bn) := BB.cell 0
  have m1 : w1.cell? ⟨w.heap.size + 1, 1, none⟩ = some (.int .i64 bf) := BB.cell 1
  have m2 : w1.cell? ⟨w.heap.size + 1, 2, none⟩ = some (.int .i64 bT) := BB.cell 2
  have m3 : w1.cell? ⟨w.heap.size + 1, 3, none⟩ = some (.slice bo Y.length cb) := BB.cell 3
  go_wp2_with fail
  go_at_call 6
  refine (c2 _ hb).mono ?_
  rintro e w2 ⟨a2, G2, rfl, s2, b2⟩
  have BR := BR.keep b2 BR.lt
  have bel := belowCall bel b2
  clear c2 b2 m0 m1 m2 m3 BB hb s1 s2
  have f0 := BR.free 0
  have f1 := BR.free 1
  have f2 := BR.free 2
  have f3 := BR.free 3
  have d0 : w2.cell? ⟨w.heap.size + 2, 0, none⟩ = some (.int .i64 0) := BR.cell 0
  have d1 : w2.cell? ⟨w.heap.size + 2, 1, none⟩ = some (.int .i64 0) := BR.cell 1
  have d2 : w2.cell? ⟨w.heap.size + 2, 2, none⟩ = some (.int .i64 0) := BR.cell 2
  have d3 : w2.cell? ⟨w.heap.size + 2, 3, none⟩ = some (.slice none 0 0) := BR.cell 3
  have hgl := BR.lt
  go_wp2_with fail
  have B4 := BR.put4 (.int .i64 0) (.int .i64 0) (.int .i64 0) (.slice none 0 0)
  have bel4 := below4 bel (g := w.heap.size + 2) (by omega) (.int .i64 0) (.int .i64 0) (.int .i64 0) (.slice none 0 0)
  generalize World.setCell _ _ _ = w5 at *
  have i0 : w5.cell? ⟨w.heap.size + 2, 0, none⟩ = some (.int .i64 0) := B4.cell 0
  have i1 : w5.cell? ⟨w.heap.size + 2, 1, none⟩ = some (.int .i64 0) := B4.cell 1
  have i2 : w5.cell? ⟨w.heap.size + 2, 2, none⟩ = some (.int .i64 0) := B4.cell 2
  have i3 : w5.cell? ⟨w.heap.size + 2, 3, none⟩ = some (.slice none 0 0) := B4.cell 3
  exact bodyPost_ret (v := .tuple #[.agg #[.int .i64 0, .int .i64 0, .int .i64 0, .slice none 0 0], .int .i64 E]) (by simp [results, Try.results7, go_sem, i0, i1, i2, i3]) rfl ⟨rfl, bel4⟩

set_option maxHeartbeats 400000 in
set_option maxRecDepth 100000 in
theorem merge_ok (a b : Bk) (ao bo : Option Addr) (ca cb : Nat) (w : World) (ha : Sl w ao ca (a.bits.map Value.bool)) (hb : Sl w bo cb (b.bits.map Value.bool)) (la : a.bits.length ≤ 140737488355328) (lb : b.bits.length ≤ 140737488355328) (h0 : ptsE a = 0) (h1 : ptsE b = 0) :
    Calls Try.prog 7 #[bkV a ao ca, bkV b bo cb] w fun e w' =>
      ∃ a' G, e = .returned (.tuple #[bkV (makeB (ptsL a ++ ptsL b)) a' G, .int .i64 (makeE (ptsL a ++ ptsL b))]) ∧ Sl w' a' G ((makeB (ptsL a ++ ptsL b)).bits.map Value.bool) ∧ Below w.heap.size w w' := by
  have c1 := fun W h => bpoints_any a ao ca W h la
  have c2 := fun W h => bpoints_any b bo cb W h lb
  rw [h0] at c1
  rw [h1] at c2
  have p1 := ptsL_pos h0
  have p2 := ptsL_pos h1
  have q1 := ptsL_length a
  have q2 := ptsL_length b
  generalize ptsL a = P at *
  generalize ptsL b = Q at *
  have c3 := fun G cap W h => make_any (some ⟨G, 0, none⟩) cap (P ++ Q) W h
  clear h0 h1
  generalize makeE (P ++ Q) = E at *
  generalize makeB (P ++ Q) = M at *
  obtain ⟨an, af, aT, X⟩ := a
  obtain ⟨bn, bf, bT, Y⟩ := b
  obtain ⟨mn, mf, mT, Z⟩ := M
  unfold bkV at *
  simp only at *
  have hP : P ≠ [] := by intro e; rw [e] at p1; simp at p1
  have hQ : Q ≠ [] := by intro e; rw [e] at p2; simp at p2
  obtain ⟨n, hn⟩ : ∃ n, n = P.length := ⟨_, rfl⟩
  obtain ⟨m, hm⟩ : ∃ m, m = Q.length := ⟨_, rfl⟩
  have hnm : (P ++ Q).length = n + m := by rw [List.length_append, hn, hm]
  rw [hnm] at c3
  rw [← hn] at c1 p1 q1
  rw [← hm] at c2 p2 q2
  replace hn := hide hn
  replace hm := hide hm
  replace hnm := hide hnm
  obtain ⟨i0, hi, hz0, hz1, hz2⟩ := info_parts infoPt
  have h3 := three w [.int .i64 an, .int .i64 af, .int .i64 aT, .slice ao X.length ca] [.int .i64 bn, .int .i64 bf, .int .i64 bT, .slice bo Y.length cb] [.int .i64 0, .int .i64 0, .int .i64 0, .slice none 0 0] 25
  have sa := fun o1 o2 o3 => ((ha.alloc o1).alloc o2).alloc o3
  clear la lb ha
  go_enter Try.func7, Try.ntmps7
  go_wp2_with fail
  go_at_call 6
  refine (c1 _ (sa _ _ _)).mono ?_
  rintro e w1 ⟨a1, G1, rfl, s1, b1⟩
  obtain ⟨BB, BR, bel⟩ := h3
  have BB := BB.keep b1 BB.lt
  have BR := BR.keep b1 BR.lt
  have bel := belowCall bel b1
  have hb := hb.keep bel (Nat.le_refl _)
  clear c1 b1 sa
  have m0 : w1.cell? ⟨w.heap.size + 1, 0, none⟩ = some (.int .i64 bn) := BB.cell 0
  have m1 : w1.cell? ⟨w.heap.size + 1, 1, none⟩ = some (.int .i64 bf) := BB.cell 1
  have m2 : w1.cell? ⟨w.heap.size + 1, 2, none⟩ = some (.int .i64 bT) := BB.cell 2
  have m3 : w1.cell? ⟨w.heap.size + 1, 3, none⟩ = some (.slice bo Y.length cb) := BB.cell 3
  go_wp2_with fail
  go_at_call 6
  refine (c2 _ hb).mono ?_
  rintro e w2 ⟨a2, G2, rfl, s2, b2⟩
  have BR := BR.keep b2 BR.lt
  have bel := belowCall bel b2
  have s1 := s1.call b2
  clear c2 b2 m0 m1 m2 m3 BB hb
  obtain ⟨xb, xo, rfl, hxb⟩ := s1.where hP
  obtain ⟨yb, yo, rfl, hyb⟩ := s2.where hQ
  go_wp2_with (at_make; refine wpList_make_full _ rfl (.tmp 32) (.tmp 32) 22 rfl w2.heap.size 36 i0 (.agg #[.int .i64 0, .int .i64 0]) 2 Try.underlying22 hi hz0 hz1 _ _ _ _ (n + m) rfl rfl (by go_num) (by go_num) (by rw [hz2]; omega) (by unfold maxLen; omega) (Nat.le_refl _) ?_)
  intro w3 own hgrow
  obtain ⟨L, hL, B0⟩ := madePts own
  have bel3 : Below w2.heap.size w2 w3 := (Below.refl _ _).grown hgrow (Nat.le_refl _) (fun k h => by cases h)
  have hrl := BR.lt
  clear own hgrow
  have t1 := s1.call bel3
  have e1 : P.length = Nat.min n (n + m) := by rw [← hn.out]; exact (Nat.min_eq_left (by omega)).symm
  have e2 : Q.length = Nat.min m m := by rw [← hm.out]; exact (Nat.min_self m).symm
  have f1 : 0 + P.length * 2 ≤ L.length := by rw [hL, ← hn.out]; omega
  have f2 : n * 2 + Q.length * 2 ≤ (splice L 0 (cellsP P)).length := by rw [length_splice _ _ _ (by rw [cellsP_length]; exact f1), hL, ← hm.out]; omega
  replace e1 := hide e1
  replace e2 := hide e2
  replace f1 := hide f1
  replace f2 := hide f2
  replace hL := hide hL
  generalize hg : w2.heap.size = g at *
  have hgl : w2.heap.size ≤ g := Nat.le_of_eq hg
  clear hg
  go_wp2_with (refine wpList_copy_two rfl (.tmp 34) (.tmp 35) 22 22 rfl 36 Try.underlying22 sizePt g 0 _ _ _ _ _ rfl rfl L 36 B0 P e1.out (t1.src _ rfl) f1.out g w2 bel3 (Nat.le_refl _) ?_)
  intro w4 B1 bel4 _
  clear bel3 B0
  go_wp2_with (refine wpList_copy_two rfl (.tmp 40) (.tmp 41) 22 22 rfl 36 Try.underlying22 sizePt g (n * 2) _ _ _ _ _ rfl rfl (splice L 0 (cellsP P)) 36 B1 Q e2.out ((s2.keep bel4 hgl).src _ rfl) f2.out g w2 bel4 (Nat.le_refl _) ?_)
  intro w5 B2 bel5 _
  clear bel4 B1 t1
  rw [splice2 L (cellsP P) (cellsP Q) (n * 2) (by rw [cellsP_length, ← hn.out]) (by rw [hL.out, cellsP_length, ← hm.out]; omega), ← cellsP_append] at B2
  have s5 := SlP.ofBlk B2 (n + m) hnm.out (by omega)
  have BR5 := BR.keep bel5 hrl
  have belA := bel.trans (bel5.mono (by omega))
  clear B2 bel5 bel BR s1 s2 e1 e2 f1 f2 hL hn hm
  go_wp2_with fail
  go_at_call 5
  refine (c3 _ _ _ s5).mono ?_
  rintro e w6 ⟨a6, G6, rfl, t6, b6⟩
  have BR6 := BR5.keep b6 BR5.lt
  have bel6 := belowCall belA b6
  clear c3 b6 BR5 belA s5
  have f0 := BR6.free 0
  have f1 := BR6.free 1
  have f2 := BR6.free 2
  have f3 := BR6.free 3
  have d0 : w6.cell? ⟨w.heap.size + 2, 0, none⟩ = some (.int .i64 0) := BR6.cell 0
  have d1 : w6.cell? ⟨w.heap.size + 2, 1, none⟩ = some (.int .i64 0) := BR6.cell 1
  have d2 : w6.cell? ⟨w.heap.size + 2, 2, none⟩ = some (.int .i64 0) := BR6.cell 2
  have d3 : w6.cell? ⟨w.heap.size + 2, 3, none⟩ = some (.slice none 0 0) := BR6.cell 3
  have hgl6 := BR6.lt
  go_wp2_with fail
  have B4 := BR6.put4 (.int .i64 mn) (.int .i64 mf) (.int .i64 mT) (.slice a6 Z.length G6)
  have bel4 := below4 bel6 (g := w.heap.size + 2) (by omega) (.int .i64 mn) (.int .i64 mf) (.int .i64 mT) (.slice a6 Z.length G6)
  have t4 := t6.put4 BR6 (.int .i64 mn) (.int .i64 mf) (.int .i64 mT) (.slice a6 Z.length G6)
  generalize World.setCell _ _ _ = w7 at *
  have i0 : w7.cell? ⟨w.heap.size + 2, 0, none⟩ = some (.int .i64 mn) := B4.cell 0
  have i1 : w7.cell? ⟨w.heap.size + 2, 1, none⟩ = some (.int .i64 mf) := B4.cell 1
  have i2 : w7.cell? ⟨w.heap.size + 2, 2, none⟩ = some (.int .i64 mT) := B4.cell 2
  have i3 : w7.cell? ⟨w.heap.size + 2, 3, none⟩ = some (.slice a6 Z.length G6) := B4.cell 3
  exact bodyPost_ret (v := .tuple #[.agg #[.int .i64 mn, .int .i64 mf, .int .i64 mT, .slice a6 Z.length G6], .int .i64 E]) (by simp [results, Try.results7, go_sem, i0, i1, i2, i3]) rfl ⟨a6, G6, rfl, t4, bel4⟩

/-- Merge, whatever it is handed. -/
theorem merge_any (a b : Bk) (ao bo : Option Addr) (ca cb : Nat) (w : World) (ha : Sl w ao ca (a.bits.map Value.bool)) (hb : Sl w bo cb (b.bits.map Value.bool)) (la : a.bits.length ≤ 140737488355328) (lb : b.bits.length ≤ 140737488355328) :
    Calls Try.prog 7 #[bkV a ao ca, bkV b bo cb] w fun e w' =>
      ∃ a' G, e = .returned (.tuple #[bkV (mergeB a b) a' G, .int .i64 (mergeE a b)]) ∧ Sl w' a' G ((mergeB a b).bits.map Value.bool) ∧ Below w.heap.size w w' := by
  by_cases h0 : ptsE a = 0
  · by_cases h1 : ptsE b = 0
    · have hB : mergeB a b = makeB (ptsL a ++ ptsL b) := if_pos ⟨h0, h1⟩
      have hE : mergeE a b = makeE (ptsL a ++ ptsL b) := by unfold mergeE; rw [if_pos h0, if_pos h1]
      rw [hB, hE]
      exact merge_ok a b ao bo ca cb w ha hb la lb h0 h1
    · have hB : mergeB a b = bk0 := if_neg (fun h => h1 h.2)
      have hE : mergeE a b = ptsE b := by unfold mergeE; rw [if_pos h0, if_neg h1]
      rw [hB, hE]
      refine (merge_no2 a b ao bo ca cb w ha hb la lb h0 h1).mono ?_
      rintro e w' ⟨rfl, hb⟩
      exact ⟨none, 0, rfl, Sl.ofNil _, hb⟩
  · have hB : mergeB a b = bk0 := if_neg (fun h => h0 h.1)
    have hE : mergeE a b = ptsE a := by unfold mergeE; rw [if_neg h0]
    rw [hB, hE]
    refine (merge_no1 a b ao bo ca cb w ha la h0).mono ?_
    rintro e w' ⟨rfl, hb⟩
    exact ⟨none, 0, rfl, Sl.ofNil _, hb⟩

end Go.Proofs.Ytpeeeealbfmklac
