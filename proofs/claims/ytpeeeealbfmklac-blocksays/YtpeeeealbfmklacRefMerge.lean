/-
  rainbookref.Merged: what it answers, whatever it is handed; nothing that was there is written.
-/
import Derived.Test.YtpeeeealbfmklacRefPoints
import Derived.Test.YtpeeeealbfmklacRefMake
import Derived.Test.YtpeeeealbfmklacClonePt
namespace Go.Proofs.Ytpeeeealbfmklac
open Go.RowKit

set_option maxHeartbeats 400000 in
set_option maxRecDepth 100000 in
theorem refMerge_no1 (a b : Bk) (ao bo : Option Addr) (ca cb : Nat) (w : World) (ha : Sl w ao ca (a.bits.map Value.bool)) (la : a.bits.length ≤ 140737488355328) (h : ¬ ptsE a = 0) :
    Calls Try.prog 10 #[bkV a ao ca, bkV b bo cb] w fun e w' => e = .returned (.tuple #[.agg #[.int .i64 0, .int .i64 0, .int .i64 0, .slice none 0 0], .int .i64 (ptsE a)]) ∧ Below w.heap.size w w' := by
  have c1 := fun W h => refPoints_any a ao ca W h la
  generalize ptsE a = E at *
  generalize ptsL a = P at *
  obtain ⟨an, af, aT, X⟩ := a
  obtain ⟨bn, bf, bT, Y⟩ := b
  unfold bkV at *
  simp only at *
  have h3 := three w [.int .i64 an, .int .i64 af, .int .i64 aT, .slice ao X.length ca] [.int .i64 bn, .int .i64 bf, .int .i64 bT, .slice bo Y.length cb] [.int .i64 0, .int .i64 0, .int .i64 0, .slice none 0 0] 25
  have sa := fun o1 o2 o3 => ((ha.alloc o1).alloc o2).alloc o3
  clear la ha
  go_enter Try.func10, Try.ntmps10
  go_wp2_with fail
  go_at_call 9
  refine (c1 _ (sa _ _ _)).mono ?_
  rintro e w1 ⟨a1, G1, rfl, s1, b1⟩
  obtain ⟨_, BR, bel⟩ := h3
  have BR := BR.keep b1 BR.lt
  have bel := belowCall bel b1
  clear c1 b1 sa
  have f0 := BR.free 0
  have f1 := BR.free 1
  have f2 := BR.free 2
  have f3 := BR.free 3
  have d0 : w1.cell? ⟨w.heap.size + 2, 0, none⟩ = some (.int .i64 0) := BR.cell 0
  have d1 : w1.cell? ⟨w.heap.size + 2, 1, none⟩ = some (.int .i64 0) := BR.cell 1
  have d2 : w1.cell? ⟨w.heap.size + 2, 2, none⟩ = some (.int .i64 0) := BR.cell 2
  have d3 : w1.cell? ⟨w.heap.size + 2, 3, none⟩ = some (.slice none 0 0) := BR.cell 3
  have hgl := BR.lt
  go_wp2_with fail
  have B4 := BR.put4 (.int .i64 0) (.int .i64 0) (.int .i64 0) (.slice none 0 0)
  have bel4 := below4 bel (g := w.heap.size + 2) (by omega) (.int .i64 0) (.int .i64 0) (.int .i64 0) (.slice none 0 0)
  generalize World.setCell _ _ _ = w5 at *
  have i0 : w5.cell? ⟨w.heap.size + 2, 0, none⟩ = some (.int .i64 0) := B4.cell 0
  have i1 : w5.cell? ⟨w.heap.size + 2, 1, none⟩ = some (.int .i64 0) := B4.cell 1
  have i2 : w5.cell? ⟨w.heap.size + 2, 2, none⟩ = some (.int .i64 0) := B4.cell 2
  have i3 : w5.cell? ⟨w.heap.size + 2, 3, none⟩ = some (.slice none 0 0) := B4.cell 3
  exact bodyPost_ret (v := .tuple #[.agg #[.int .i64 0, .int .i64 0, .int .i64 0, .slice none 0 0], .int .i64 E]) (by simp [results, Try.results10, go_sem, i0, i1, i2, i3]) rfl ⟨rfl, bel4⟩

set_option maxHeartbeats 400000 in
set_option maxRecDepth 100000 in
theorem refMerge_no2 (a b : Bk) (ao bo : Option Addr) (ca cb : Nat) (w : World) (ha : Sl w ao ca (a.bits.map Value.bool)) (hb : Sl w bo cb (b.bits.map Value.bool)) (la : a.bits.length ≤ 140737488355328) (lb : b.bits.length ≤ 140737488355328) (h0 : ptsE a = 0) (h : ¬ ptsE b = 0) :
    Calls Try.prog 10 #[bkV a ao ca, bkV b bo cb] w fun e w' => e = .returned (.tuple #[.agg #[.int .i64 0, .int .i64 0, .int .i64 0, .slice none 0 0], .int .i64 (ptsE b)]) ∧ Below w.heap.size w w' := by
  have c1 := fun W h => refPoints_any a ao ca W h la
  have c2 := fun W h => refPoints_any b bo cb W h lb
  rw [h0] at c1
  generalize ptsE b = E at *
  generalize ptsL a = P at *
  generalize ptsL b = Q at *
  clear h0
  obtain ⟨an, af, aT, X⟩ := a
  obtain ⟨bn, bf, bT, Y⟩ := b
  unfold bkV at *
  simp only at *
  have h3 := three w [.int .i64 an, .int .i64 af, .int .i64 aT, .slice ao X.length ca] [.int .i64 bn, .int .i64 bf, .int .i64 bT, .slice bo Y.length cb] [.int .i64 0, .int .i64 0, .int .i64 0, .slice none 0 0] 25
  have sa := fun o1 o2 o3 => ((ha.alloc o1).alloc o2).alloc o3
  clear la lb ha
  go_enter Try.func10, Try.ntmps10
  go_wp2_with fail
  go_at_call 9
  refine (c1 _ (sa _ _ _)).mono ?_
  rintro e w1 ⟨a1, G1, rfl, s1, b1⟩
  obtain ⟨BB, BR, bel⟩ := h3
  have BB := BB.keep b1 BB.lt
  have BR := BR.keep b1 BR.lt
  have bel := belowCall bel b1
  have hb := hb.keep bel (Nat.le_refl _)
  clear c1 b1 sa
  have m0 : w1.cell? ⟨w.heap.size + 1, 0, none⟩ = some (.int .i64 bn) := BB.cell 0
  have m1 : w1.cell? ⟨w.heap.size + 1, 1, none⟩ = some (.int .i64 bf) := BB.cell 1
  have m2 : w1.cell? ⟨w.heap.size + 1, 2, none⟩ = some (.int .i64 bT) := BB.cell 2
  have m3 : w1.cell? ⟨w.heap.size + 1, 3, none⟩ = some (.slice bo Y.length cb) := BB.cell 3
  go_wp2_with fail
  go_at_call 9
  refine (c2 _ hb).mono ?_
  rintro e w2 ⟨a2, G2, rfl, s2, b2⟩
  have BR := BR.keep b2 BR.lt
  have bel := belowCall bel b2
  clear c2 b2 m0 m1 m2 m3 BB hb s1 s2
  have f0 := BR.free 0
  have f1 := BR.free 1
  have f2 := BR.free 2
  have f3 := BR.free 3
  have d0 : w2.cell? ⟨w.heap.size + 2, 0, none⟩ = some (.int .i64 0) := BR.cell 0
  have d1 : w2.cell? ⟨w.heap.size + 2, 1, none⟩ = some (.int .i64 0) := BR.cell 1
  have d2 : w2.cell? ⟨w.heap.size + 2, 2, none⟩ = some (.int .i64 0) := BR.cell 2
  have d3 : w2.cell? ⟨w.heap.size + 2, 3, none⟩ = some (.slice none 0 0) := BR.cell 3
  have hgl := BR.lt
  go_wp2_with fail
  have B4 := BR.put4 (.int .i64 0) (.int .i64 0) (.int .i64 0) (.slice none 0 0)
  have bel4 := below4 bel (g := w.heap.size + 2) (by omega) (.int .i64 0) (.int .i64 0) (.int .i64 0) (.slice none 0 0)
  generalize World.setCell _ _ _ = w5 at *
  have i0 : w5.cell? ⟨w.heap.size + 2, 0, none⟩ = some (.int .i64 0) := B4.cell 0
  have i1 : w5.cell? ⟨w.heap.size + 2, 1, none⟩ = some (.int .i64 0) := B4.cell 1
  have i2 : w5.cell? ⟨w.heap.size + 2, 2, none⟩ = some (.int .i64 0) := B4.cell 2
  have i3 : w5.cell? ⟨w.heap.size + 2, 3, none⟩ = some (.slice none 0 0) := B4.cell 3
  exact bodyPost_ret (v := .tuple #[.agg #[.int .i64 0, .int .i64 0, .int .i64 0, .slice none 0 0], .int .i64 E]) (by simp [results, Try.results10, go_sem, i0, i1, i2, i3]) rfl ⟨rfl, bel4⟩

set_option maxHeartbeats 400000 in
set_option maxRecDepth 100000 in
theorem refMerge_ok (a b : Bk) (ao bo : Option Addr) (ca cb : Nat) (w : World) (ha : Sl w ao ca (a.bits.map Value.bool)) (hb : Sl w bo cb (b.bits.map Value.bool)) (la : a.bits.length ≤ 140737488355328) (lb : b.bits.length ≤ 140737488355328) (h0 : ptsE a = 0) (h1 : ptsE b = 0) :
    Calls Try.prog 10 #[bkV a ao ca, bkV b bo cb] w fun e w' =>
      ∃ a' G, e = .returned (.tuple #[bkV (makeB (ptsL a ++ ptsL b)) a' G, .int .i64 (makeE (ptsL a ++ ptsL b))]) ∧ Sl w' a' G ((makeB (ptsL a ++ ptsL b)).bits.map Value.bool) ∧ Below w.heap.size w w' := by
  have c1 := fun W h => refPoints_any a ao ca W h la
  have c2 := fun W h => refPoints_any b bo cb W h lb
  rw [h0] at c1
  rw [h1] at c2
  have p1 := ptsL_pos h0
  have p2 := ptsL_pos h1
  have q1 := ptsL_length a
  have q2 := ptsL_length b
  generalize ptsL a = P at *
  generalize ptsL b = Q at *
  have c3 := fun a cap W h => refMake_any a cap (P ++ Q) W h
  have c4 := fun b off cap W h => clonePt b off cap P W h p1 (by omega)
  clear h0 h1
  generalize makeE (P ++ Q) = E at *
  generalize makeB (P ++ Q) = M at *
  obtain ⟨an, af, aT, X⟩ := a
  obtain ⟨bn, bf, bT, Y⟩ := b
  obtain ⟨mn, mf, mT, Z⟩ := M
  unfold bkV at *
  simp only at *
  have hP : P ≠ [] := by intro e; rw [e] at p1; simp at p1
  have hQ : Q ≠ [] := by intro e; rw [e] at p2; simp at p2
  obtain ⟨n, hn⟩ : ∃ n, n = P.length := ⟨_, rfl⟩
  obtain ⟨m, hm⟩ : ∃ m, m = Q.length := ⟨_, rfl⟩
  have hnm : (P ++ Q).length = n + m := by rw [List.length_append, hn, hm]
  rw [hnm] at c3
  rw [← hn] at c1 p1 q1 c4
  rw [← hm] at c2 p2 q2
  replace hn := hide hn
  replace hm := hide hm
  replace hnm := hide hnm
  obtain ⟨i0, hi, hz0, hz1, hz2⟩ := info_parts infoPoint
  have h3 := three w [.int .i64 an, .int .i64 af, .int .i64 aT, .slice ao X.length ca] [.int .i64 bn, .int .i64 bf, .int .i64 bT, .slice bo Y.length cb] [.int .i64 0, .int .i64 0, .int .i64 0, .slice none 0 0] 25
  have sa := fun o1 o2 o3 => ((ha.alloc o1).alloc o2).alloc o3
  clear la lb ha
  go_enter Try.func10, Try.ntmps10
  go_wp2_with fail
  go_at_call 9
  refine (c1 _ (sa _ _ _)).mono ?_
  rintro e w1 ⟨a1, G1, rfl, s1, b1⟩
  obtain ⟨BB, BR, bel⟩ := h3
  have BB := BB.keep b1 BB.lt
  have BR := BR.keep b1 BR.lt
  have bel := belowCall bel b1
  have hb := hb.keep bel (Nat.le_refl _)
  clear c1 b1 sa
  have m0 : w1.cell? ⟨w.heap.size + 1, 0, none⟩ = some (.int .i64 bn) := BB.cell 0
  have m1 : w1.cell? ⟨w.heap.size + 1, 1, none⟩ = some (.int .i64 bf) := BB.cell 1
  have m2 : w1.cell? ⟨w.heap.size + 1, 2, none⟩ = some (.int .i64 bT) := BB.cell 2
  have m3 : w1.cell? ⟨w.heap.size + 1, 3, none⟩ = some (.slice bo Y.length cb) := BB.cell 3
  go_wp2_with fail
  go_at_call 9
  refine (c2 _ hb).mono ?_
  rintro e w2 ⟨a2, G2, rfl, s2, b2⟩
  have BR := BR.keep b2 BR.lt
  have bel := belowCall bel b2
  have s1 := s1.call b2
  clear c2 b2 m0 m1 m2 m3 BB hb
  obtain ⟨xb, xo, rfl, hxb⟩ := s1.where hP
  obtain ⟨yb, yo, rfl, hyb⟩ := s2.where hQ
  have yl : (cellsP Q).length = m * 2 := by rw [cellsP_length, ← hm.out]
  replace yl := hide yl
  have yone := cellsP_one Q
  go_wp2_with fail
  go_at_call 21
  refine (c4 _ _ _ _ s1).mono ?_
  rintro e w3 ⟨v3, rfl, own3, bel3⟩
  have s3 := s2.call bel3
  have hsz := bel3.size
  have hrl := BR.lt
  obtain ⟨a3, c3', rfl⟩ : ∃ a3 c3', v3 = .slice a3 n c3' := by
    rcases own3.2 with ⟨rfl, rfl⟩ | ⟨g, cp, cur, rfl, _⟩
    · exact ⟨_, _, rfl⟩
    · exact ⟨_, _, rfl⟩
  have ysrc : ∀ j u, (cellsP Q)[j]? = some u → w3.cell? ((⟨yb, yo, none⟩ : Addr).add j) = some u := by
    intro j u hu
    obtain ⟨b', off', e, _, hc⟩ := s3.row.at (by intro e; rw [e] at hu; simp at hu)
    simp only [Option.some.injEq, Addr.mk.injEq, and_true] at e
    obtain ⟨rfl, rfl⟩ := e
    rw [Addr.add_lit]
    exact hc j u hu
  clear c4 s3
  go_wp2_with (at_builtin; refine wpList_append_went _ rfl (.tmp 28) (.tmp 29) 22 rfl w2.heap.size 36 i0 (.agg #[.int .i64 0, .int .i64 0]) 2 16 Try.underlying22 hi hz0 hz1 hz2 rfl (by decide) _ n _ rfl own3 ⟨yb, yo, none⟩ m _ (cellsP Q) rfl yl.out ysrc yone p2 (by unfold maxLen; omega) (by omega) hsz ?_)
  intro v5 w5 own5 grow5 _
  have bel5 := belowGrown bel3 own3 grow5 (Nat.le_refl _) hsz
  rw [← cellsP_append] at own5
  obtain ⟨a5, c5, rfl, s5, _, _⟩ := SlP.ofOwn own5
  have BR5 := BR.keep bel5 hrl
  have belA := bel.trans (bel5.mono (by omega))
  clear own5 grow5 own3 bel3 bel5 bel BR s1 s2 hn hm
  go_wp2_with fail
  go_at_call 8
  refine (c3 _ _ _ s5).mono ?_
  rintro e w6 ⟨a6, G6, rfl, t6, b6⟩
  have BR6 := BR5.keep b6 BR5.lt
  have bel6 := belowCall belA b6
  clear c3 b6 BR5 belA s5
  have f0 := BR6.free 0
  have f1 := BR6.free 1
  have f2 := BR6.free 2
  have f3 := BR6.free 3
  have d0 : w6.cell? ⟨w.heap.size + 2, 0, none⟩ = some (.int .i64 0) := BR6.cell 0
  have d1 : w6.cell? ⟨w.heap.size + 2, 1, none⟩ = some (.int .i64 0) := BR6.cell 1
  have d2 : w6.cell? ⟨w.heap.size + 2, 2, none⟩ = some (.int .i64 0) := BR6.cell 2
  have d3 : w6.cell? ⟨w.heap.size + 2, 3, none⟩ = some (.slice none 0 0) := BR6.cell 3
  have hgl6 := BR6.lt
  go_wp2_with fail
  have B4 := BR6.put4 (.int .i64 mn) (.int .i64 mf) (.int .i64 mT) (.slice a6 Z.length G6)
  have bel4 := below4 bel6 (g := w.heap.size + 2) (by omega) (.int .i64 mn) (.int .i64 mf) (.int .i64 mT) (.slice a6 Z.length G6)
  have t4 := t6.put4 BR6 (.int .i64 mn) (.int .i64 mf) (.int .i64 mT) (.slice a6 Z.length G6)
  generalize World.setCell _ _ _ = w7 at *
  have i0 : w7.cell? ⟨w.heap.size + 2, 0, none⟩ = some (.int .i64 mn) := B4.cell 0
  have i1 : w7.cell? ⟨w.heap.size + 2, 1, none⟩ = some (.int .i64 mf) := B4.cell 1
  have i2 : w7.cell? ⟨w.heap.size + 2, 2, none⟩ = some (.int .i64 mT) := B4.cell 2
  have i3 : w7.cell? ⟨w.heap.size + 2, 3, none⟩ = some (.slice a6 Z.length G6) := B4.cell 3
  exact bodyPost_ret (v := .tuple #[.agg #[.int .i64 mn, .int .i64 mf, .int .i64 mT, .slice a6 Z.length G6], .int .i64 E]) (by simp [results, Try.results10, go_sem, i0, i1, i2, i3]) rfl ⟨a6, G6, rfl, t4, bel4⟩

/-- Merged, whatever it is handed. -/
theorem refMerge_any (a b : Bk) (ao bo : Option Addr) (ca cb : Nat) (w : World) (ha : Sl w ao ca (a.bits.map Value.bool)) (hb : Sl w bo cb (b.bits.map Value.bool)) (la : a.bits.length ≤ 140737488355328) (lb : b.bits.length ≤ 140737488355328) :
    Calls Try.prog 10 #[bkV a ao ca, bkV b bo cb] w fun e w' =>
      ∃ a' G, e = .returned (.tuple #[bkV (mergeB a b) a' G, .int .i64 (mergeE a b)]) ∧ Sl w' a' G ((mergeB a b).bits.map Value.bool) ∧ Below w.heap.size w w' := by
  by_cases h0 : ptsE a = 0
  · by_cases h1 : ptsE b = 0
    · have hB : mergeB a b = makeB (ptsL a ++ ptsL b) := if_pos ⟨h0, h1⟩
      have hE : mergeE a b = makeE (ptsL a ++ ptsL b) := by unfold mergeE; rw [if_pos h0, if_pos h1]
      rw [hB, hE]
      exact refMerge_ok a b ao bo ca cb w ha hb la lb h0 h1
    · have hB : mergeB a b = bk0 := if_neg (fun h => h1 h.2)
      have hE : mergeE a b = ptsE b := by unfold mergeE; rw [if_pos h0, if_neg h1]
      rw [hB, hE]
      refine (refMerge_no2 a b ao bo ca cb w ha hb la lb h0 h1).mono ?_
      rintro e w' ⟨rfl, hb⟩
      exact ⟨none, 0, rfl, Sl.ofNil _, hb⟩
  · have hB : mergeB a b = bk0 := if_neg (fun h => h0 h.1)
    have hE : mergeE a b = ptsE a := by unfold mergeE; rw [if_neg h0]
    rw [hB, hE]
    refine (refMerge_no1 a b ao bo ca cb w ha la h0).mono ?_
    rintro e w' ⟨rfl, hb⟩
    exact ⟨none, 0, rfl, Sl.ofNil _, hb⟩

end Go.Proofs.Ytpeeeealbfmklac
