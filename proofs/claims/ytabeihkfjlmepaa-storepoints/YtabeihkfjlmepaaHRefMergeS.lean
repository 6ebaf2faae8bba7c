/-
  rainbookref.MergedRow, of a shelf that is right: what it answers; nothing that was there is written.
-/
import Derived.Test.YtabeihkfjlmepaaHRefSeal
import Derived.Test.YtabeihkfjlmepaaP30
namespace Go.Proofs.Ytabeihkfjlmepaa
open Go.RowKit

set_option maxHeartbeats 400000 in
set_option maxRecDepth 100000 in
theorem refMrg_who (m : Nat) (ao : Option Addr) (cap : Nat) (s n : Int) (w : World) (h : inI s 0 3 = false) :
    Calls Try.prog 52 #[.agg #[.slice ao m cap], .int .i64 s, .int .i64 n] w fun e w' => e = .returned (.tuple #[.agg #[.slice none 0 0], .int .i64 5]) ∧ Below w.heap.size w w' := by
  have c := fun W => in_any s 0 3 W
  unfold inI at h
  rw [h] at c
  clear h
  go_enter Try.func52, Try.ntmps52
  go_wp2_with fail
  go_at_call 48
  refine (c _).mono ?_
  rintro e w1 ⟨rfl, rfl⟩
  go_wp2_with fail
  exact bodyPost_ret (v := .tuple #[.agg #[.slice none 0 0], .int .i64 5]) (by simp [results, Try.results52, go_sem]) rfl ⟨rfl, below2 w _ _⟩

set_option maxHeartbeats 400000 in
set_option maxRecDepth 100000 in
theorem refMrg_range (l : List Lr) (ao : Option Addr) (cap : Nat) (k : Nat) (n : Int) (w : World) (hs : SlR w ao cap l) (h4 : l.length = 4) (hk : k < 4) (r : Lr) (hr : l[k]? = some r) (hw : (Lit.int .i64 n).wf = true) (h : inI n 0 ((r.bs.length : Int) - 2) = false) :
    Calls Try.prog 52 #[.agg #[.slice ao 4 cap], .int .i64 k, .int .i64 n] w fun e w' => e = .returned (.tuple #[.agg #[.slice none 0 0], .int .i64 3]) ∧ Below w.heap.size w w' := by
  have c := fun W => in_any (k : Int) 0 3 W
  rw [decide_eq_true (show (0 : Int) ≤ k ∧ (k : Int) ≤ 3 by omega)] at c
  obtain ⟨lb, lo, rfl, -⟩ := hs.where (by intro e; rw [e] at h4; simp at h4)
  have c3 := fun W (hW : SlW Lr.cells W (some ⟨lb, lo, none⟩) cap l) => cloneR2 ⟨lb, lo, none⟩ cap (l.flatMap Lr.cells) 4 W hW.row (by rw [flat_length Lr.two, h4]) (by decide) (by decide)
  have s2 := fun o1 o2 => (hs.sl.alloc o1).alloc o2
  have hk' : (k : Int) < 4 := by omega
  have hn := (of_decide_eq_false h : ¬ (0 ≤ n ∧ n ≤ (r.bs.length : Int) - 2))
  have rc := fun W g G (h : Rows W g G l) => h.cells k r hr
  replace h4 := hide h4
  generalize r.hd.length = m at *
  generalize r.bs.length = bn at *
  clear h hr hs
  simp only [Lit.wf, IntKind.min, IntKind.max, IntKind.signed, IntKind.bits, Bool.and_eq_true, decide_eq_true_eq, if_true] at hw
  have key : n < 0 ∨ (0 ≤ n ∧ n = 9223372036854775807) ∨ (0 ≤ n ∧ n < 9223372036854775807 ∧ (bn : Int) ≤ n + 1) := by omega
  clear hn
  obtain ⟨hw1, hw2⟩ := hw
  have hww : wrap64 9223372036854775808 = -9223372036854775808 := by unfold wrap64; omega
  rcases key with h1 | ⟨h1, rfl⟩ | ⟨h1, h2, h3⟩
  all_goals (
    go_enter Try.func52, Try.ntmps52
    go_wp2_with fail
    go_at_call 48
    refine (c _).mono ?_
    rintro e w1 ⟨rfl, rfl⟩
    go_wp2_with fail
    have BR := (three' w [.slice (some ⟨lb, lo, none⟩) 4 cap] [.slice none 0 0] 24)
    go_at_call 65
    refine (c3 _ (s2 _ _)).mono ?_
    rintro e w1 ⟨g, G, L, rfl, B1, hL, hG, hGm, hg1, b1⟩
    have rows : Rows w1 g G l := ⟨⟨L, B1, hL⟩, by rw [h4.out]; exact hG, hGm⟩
    obtain ⟨BR, bel⟩ := BR
    replace BR := BR.keep b1 BR.lt
    replace bel := belowCall bel b1
    clear b1 s2 c3 c B1 hL
    simp only [World.size_alloc] at hg1
    obtain ⟨e0, e1⟩ := rc _ _ _ rows
    have hg2 := rows.lt
    have f0 := BR.free 0
    have d0 : w1.cell? ⟨w.heap.size + 1, 0, none⟩ = some (.slice none 0 0) := BR.cell 0
    have hgl := BR.lt
    go_wp2_with fail
    exact bodyPost_ret (v := .tuple #[.agg #[.slice none 0 0], .int .i64 3]) (by simp [results, Try.results52, go_sem, d0, hgl]) rfl ⟨rfl, belowNew (bel.setCell (by simp) _) _⟩)

set_option maxHeartbeats 6000000 in
set_option maxRecDepth 100000 in
theorem refMrg_do (l : List Lr) (ao : Option Addr) (cap : Nat) (k j : Nat) (w : World) (hs : SlR w ao cap l) (h4 : l.length = 4) (hk : k < 4) (r : Lr) (hr : l[k]? = some r) (hb : r.bs.length ≤ 8) (hm : r.hd.length ≤ 40) (x y : Lb) (hx : r.bs[j]? = some x) (hy : r.bs[j + 1]? = some y) :
    Calls Try.prog 52 #[.agg #[.slice ao 4 cap], .int .i64 k, .int .i64 j] w fun e w' =>
      (mergeE x.b y.b ≠ 0 ∧ e = .returned (.tuple #[.agg #[.slice none 0 0], .int .i64 (mergeE x.b y.b)]) ∧ Below w.heap.size w w') ∨
      (mergeE x.b y.b = 0 ∧ ∃ rs a' G, e = .returned (.tuple #[.agg #[.slice a' 4 G], .int .i64 0]) ∧ rs.map Lr.rw = (l.map Lr.rw).set k ⟨(r.bs.map Lb.b).take j ++ (mergeB x.b y.b :: (r.bs.map Lb.b).drop (j + 2)), r.hd⟩ ∧ SlR w' a' G rs ∧ Below w.heap.size w w') := by
  have c := fun W => in_any (k : Int) 0 3 W
  rw [decide_eq_true (show (0 : Int) ≤ k ∧ (k : Int) ≤ 3 by omega)] at c
  obtain ⟨lb, lo, rfl, -⟩ := hs.where (by intro e; rw [e] at h4; simp at h4)
  have c3 := fun W (hW : SlW Lr.cells W (some ⟨lb, lo, none⟩) cap l) => cloneR2 ⟨lb, lo, none⟩ cap (l.flatMap Lr.cells) 4 W hW.row (by rw [flat_length Lr.two, h4]) (by decide) (by decide)
  have s2 := fun o1 o2 => (hs.sl.alloc o1).alloc o2
  have gr := hs.good r (List.mem_of_getElem? hr)
  have gl := hs.good
  have hj2 : j + 2 ≤ r.bs.length := by have := (List.getElem?_eq_some_iff.1 hy).1; omega
  obtain ⟨bs, ba, bc, hd, ha, hc⟩ := r
  simp only at *
  have gx := gr.bs.good x (List.mem_of_getElem? hx)
  have gy := gr.bs.good y (List.mem_of_getElem? hy)
  have fx := gx.few
  have fy := gy.few
  have c4 := fun W hX hY => refMerge_any x.b y.b x.a y.a x.c y.c W hX hY fx fy
  have lM := mergeB_bits x.b y.b
  generalize mergeB x.b y.b = M at *
  generalize mergeE x.b y.b = ME at *
  have hk' : (k : Int) < 4 := by omega
  obtain ⟨m, em⟩ : ∃ m, m = hd.length := ⟨_, rfl⟩
  obtain ⟨bn, eb⟩ : ∃ bn, bn = bs.length := ⟨_, rfl⟩
  rw [← em] at hm
  rw [← eb] at hb hj2
  have hbc : bn ≤ bc := by have := gr.bs.sl.le; rw [← eb] at this; exact this
  have hbm := gr.bs.sl.max
  simp only at hbm
  have hj1 : (j : Int) + 1 < bn := by omega
  have hj0 : (0 : Int) ≤ j := by omega
  have hj3 : (j : Int) < bn := by omega
  have hbi : (bn : Int) ≤ 8 := by omega
  have hj4 : (0 : Int) ≤ (j : Int) + 1 := by omega
  have hj5 : (0 : Int) ≤ (j : Int) + 2 := by omega
  have hj6 : (j : Int) + 2 ≤ bn := by omega
  have hw1 : IntKind.i64.wrap ((j : Int) + 1) = (j : Int) + 1 := by rw [IntKind.wrap_i64]; omega
  have hw2 : IntKind.i64.wrap ((j : Int) + 2) = (j : Int) + 2 := by rw [IntKind.wrap_i64]; omega
  replace em := hide em
  replace eb := hide eb
  replace hr := hide hr
  replace h4 := hide h4
  replace hx := hide hx
  replace hy := hide hy
  have gW := fun W (hW : Below w.heap.size w W) => gr.keep hW (Nat.le_refl _)
  obtain ⟨bb, bo, rfl, hbb⟩ := gr.bs.where (by intro e; have e' : bs = [] := e; have := eb.out; rw [e'] at this; simp at this; omega)
  clear gr hs gx gy
  go_enter Try.func52, Try.ntmps52
  go_wp2_with fail
  go_at_call 48
  refine (c _).mono ?_
  rintro e w1 ⟨rfl, rfl⟩
  go_wp2_with fail
  have BR := (three' w [.slice (some ⟨lb, lo, none⟩) 4 cap] [.slice none 0 0] 24)
  go_at_call 65
  refine (c3 _ (s2 _ _)).mono ?_
  rintro e w1 ⟨g, G, L, rfl, B1, hL, hG, hGm, hg1, b1⟩
  have rows : Rows w1 g G l := ⟨⟨L, B1, hL⟩, by rw [h4.out]; exact hG, hGm⟩
  obtain ⟨BR, bel⟩ := BR
  replace BR := BR.keep b1 BR.lt
  replace bel := belowCall bel b1
  clear b1 s2 c3 c B1 hL L
  simp only [World.size_alloc] at hg1
  obtain ⟨e0, e1⟩ := rows.cells k _ hr.out
  simp only at e0 e1
  rw [← eb.out] at e0
  rw [← em.out] at e1
  have hg2 := rows.lt
  go_wp2_with fail
  have B9 := Blk.laid w1 [.slice (some ⟨bb, bo, none⟩) bn bc, .slice ha m hc] 56 _ rfl
  replace rows := rows.alloc (.cells #[.slice (some ⟨bb, bo, none⟩) bn bc, .slice ha m hc] 56)
  replace BR := BR.alc (.cells #[.slice (some ⟨bb, bo, none⟩) bn bc, .slice ha m hc] 56)
  replace bel := belowNew bel (.cells #[.slice (some ⟨bb, bo, none⟩) bn bc, .slice ha m hc] 56)
  clear e0 e1
  generalize hg9 : w1.heap.size = g9 at *
  generalize w1.alloc _ = w2 at *
  clear hg9
  have q0 : w2.cell? ⟨g9, 0, none⟩ = some (.slice (some ⟨bb, bo, none⟩) bn bc) := B9.cell 0
  have l9 := B9.lt
  obtain ⟨x0, x1, x2, x3, gx⟩ := (gW w2 bel).bs.at j x hx.out
  obtain ⟨y0, y1, y2, y3, gy⟩ := (gW w2 bel).bs.at (j + 1) y hy.out
  have cM : ∀ W, Below w2.heap.size w2 W → Calls Try.prog 69 #[bkV x.b x.a x.c, bkV y.b y.a y.c] W fun e w' => ∃ a' G, e = .returned (.tuple #[bkV M a' G, .int .i64 ME]) ∧ Sl w' a' G (M.bits.map Value.bool) ∧ Below W.heap.size W w' ∧ Below w2.heap.size w2 w' ∧ w'.cell? ⟨g9, 0, none⟩ = some (.slice (some ⟨bb, bo, none⟩) bn bc) ∧ w'.cell? ⟨bb, bo + j * 4, none⟩ = some (.int .i64 x.b.n) ∧ w'.cell? ⟨bb, bo + j * 4 + 1, none⟩ = some (.int .i64 x.b.fr) ∧ w'.cell? ⟨bb, bo + j * 4 + 2, none⟩ = some (.int .i64 x.b.to) ∧ w'.cell? ⟨bb, bo + j * 4 + 3, none⟩ = some (.slice x.a x.b.bits.length x.c) ∧ w'.cell? ⟨bb, bo + (j + 1) * 4, none⟩ = some (.int .i64 y.b.n) ∧ w'.cell? ⟨bb, bo + (j + 1) * 4 + 1, none⟩ = some (.int .i64 y.b.fr) ∧ w'.cell? ⟨bb, bo + (j + 1) * 4 + 2, none⟩ = some (.int .i64 y.b.to) ∧ w'.cell? ⟨bb, bo + (j + 1) * 4 + 3, none⟩ = some (.slice y.a y.b.bits.length y.c) := by
    intro W hW
    refine (c4 W (gx.bits.keep hW (Nat.le_refl _)) (gy.bits.keep hW (Nat.le_refl _))).mono ?_
    rintro e w' ⟨a', G', rfl, t', b'⟩
    have bb' := hW.trans (b'.mono hW.size)
    obtain ⟨x0, x1, x2, x3, _⟩ := (gW w' (bel.trans (bb'.mono bel.size))).bs.at j x hx.out
    obtain ⟨y0, y1, y2, y3, _⟩ := (gW w' (bel.trans (bb'.mono bel.size))).bs.at (j + 1) y hy.out
    exact ⟨a', G', rfl, t', b', bb', (B9.keep bb' l9).cell 0, x0, x1, x2, x3, y0, y1, y2, y3⟩
  unfold bkV at cM
  have hbw := Nat.lt_of_lt_of_le hbb bel.size
  have nz1 : ¬ g9 = w2.heap.size := by omega
  have nz2 : ¬ w2.heap.size = g9 := by omega
  have nz3 : ¬ bb = w2.heap.size := by omega
  have nz4 : ¬ w2.heap.size = bb := by omega
  go_region_held3 (fun w' => w'.cell? ⟨g9, 0, none⟩ = some (.slice (some ⟨bb, bo, none⟩) bn bc) ∧ w'.cell? ⟨bb, bo + j * 4, none⟩ = some (.int .i64 x.b.n) ∧ w'.cell? ⟨bb, bo + j * 4 + 1, none⟩ = some (.int .i64 x.b.fr) ∧ w'.cell? ⟨bb, bo + j * 4 + 2, none⟩ = some (.int .i64 x.b.to) ∧ w'.cell? ⟨bb, bo + j * 4 + 3, none⟩ = some (.slice x.a x.b.bits.length x.c) ∧ w'.cell? ⟨bb, bo + (j + 1) * 4, none⟩ = some (.int .i64 y.b.n) ∧ w'.cell? ⟨bb, bo + (j + 1) * 4 + 1, none⟩ = some (.int .i64 y.b.fr) ∧ w'.cell? ⟨bb, bo + (j + 1) * 4 + 2, none⟩ = some (.int .i64 y.b.to) ∧ w'.cell? ⟨bb, bo + (j + 1) * 4 + 3, none⟩ = some (.slice y.a y.b.bits.length y.c)) (go_keep)
    (first
      | (go_at_call 69; refine (cM _ ?_).mono ?_; exact belowDrew (Below.refl _ _); rintro e w3 ⟨a3, G3, rfl, t3, b3, bb3, z0, z1, z2, z3, z4, z5, z6, z7, z8⟩)
      | (go_at_call 69; refine (cM _ ?_).mono ?_; exact belowDrew (belowNew (Below.refl _ _) _); rintro e w3 ⟨a3, G3, rfl, t3, b3, bb3, z0, z1, z2, z3, z4, z5, z6, z7, z8⟩; have BZ := (Blk.laid w2 [.int .i64 0, .int .i64 0, .int .i64 0, .slice none 0 0] 60 _ rfl).drewS.keep b3 (by simp); have u0 : w3.cell? ⟨w2.heap.size, 0, none⟩ = some (.int .i64 0) := BZ.cell 0; have u1 : w3.cell? ⟨w2.heap.size, 1, none⟩ = some (.int .i64 0) := BZ.cell 1; have u2 : w3.cell? ⟨w2.heap.size, 2, none⟩ = some (.int .i64 0) := BZ.cell 2; have u3 : w3.cell? ⟨w2.heap.size, 3, none⟩ = some (.slice none 0 0) := BZ.cell 3; have v0 := BZ.free 0; have v1 := BZ.free 1; have v2 := BZ.free 2; have v3 := BZ.free 3))
  all_goals
    first
    | (have B10 := BZ.put4 (.int .i64 M.n) (.int .i64 M.fr) (.int .i64 M.to) (.slice a3 M.bits.length G3)
       replace rows := ((((rows.keep bb3 rows.lt).other w2.heap.size 0 (.int .i64 M.n) (by omega)).other w2.heap.size 1 (.int .i64 M.fr) (by omega)).other w2.heap.size 2 (.int .i64 M.to) (by omega)).other w2.heap.size 3 (.slice a3 M.bits.length G3) (by omega)
       replace BR := ((((BR.keep bb3 BR.lt).other 0 (.int .i64 M.n) (g' := w2.heap.size) (by have := BR.lt; omega)).other 1 (.int .i64 M.fr) (g' := w2.heap.size) (by have := BR.lt; omega)).other 2 (.int .i64 M.to) (g' := w2.heap.size) (by have := BR.lt; omega)).other 3 (.slice a3 M.bits.length G3) (g' := w2.heap.size) (by have := BR.lt; omega)
       replace B9 := ((((B9.keep bb3 l9).other 0 (.int .i64 M.n) (g' := w2.heap.size) (by omega)).other 1 (.int .i64 M.fr) (g' := w2.heap.size) (by omega)).other 2 (.int .i64 M.to) (g' := w2.heap.size) (by omega)).other 3 (.slice a3 M.bits.length G3) (g' := w2.heap.size) (by omega)
       replace t3 := t3.put4 BZ (.int .i64 M.n) (.int .i64 M.fr) (.int .i64 M.to) (.slice a3 M.bits.length G3)
       replace bel := below4 (bel.trans (bb3.mono bel.size)) (g := w2.heap.size) bel.size (.int .i64 M.n) (.int .i64 M.fr) (.int .i64 M.to) (.slice a3 M.bits.length G3)
       have h910 : g9 < w2.heap.size := l9
       clear b3 bb3 BZ u0 u1 u2 u3 v0 v1 v2 v3 z0 z1 z2 z3 z4 z5 z6 z7 z8 x0 x1 x2 x3 y0 y1 y2 y3 gx gy q0 l9 nz1 nz2 nz3 nz4 cM hbw
       generalize (((w3.setCell ⟨w2.heap.size, 0, none⟩ (.int .i64 M.n)).setCell ⟨w2.heap.size, 1, none⟩ (.int .i64 M.fr)).setCell ⟨w2.heap.size, 2, none⟩ (.int .i64 M.to)).setCell ⟨w2.heap.size, 3, none⟩ (.slice a3 M.bits.length G3) = w4 at *
       generalize w2.heap.size = g10 at *)
    | (have B10 := Blk.laid w3 [.int .i64 M.n, .int .i64 M.fr, .int .i64 M.to, .slice a3 M.bits.length G3] 60 _ rfl
       replace rows := (rows.keep bb3 rows.lt).alloc (.cells #[.int .i64 M.n, .int .i64 M.fr, .int .i64 M.to, .slice a3 M.bits.length G3] 60)
       replace BR := (BR.keep bb3 BR.lt).alc (.cells #[.int .i64 M.n, .int .i64 M.fr, .int .i64 M.to, .slice a3 M.bits.length G3] 60)
       replace B9 := (B9.keep bb3 l9).alc (.cells #[.int .i64 M.n, .int .i64 M.fr, .int .i64 M.to, .slice a3 M.bits.length G3] 60)
       replace bel := belowNew (bel.trans (bb3.mono bel.size)) (.cells #[.int .i64 M.n, .int .i64 M.fr, .int .i64 M.to, .slice a3 M.bits.length G3] 60)
       replace t3 := t3.alloc (.cells #[.int .i64 M.n, .int .i64 M.fr, .int .i64 M.to, .slice a3 M.bits.length G3] 60)
       have h910 : g9 < w3.heap.size := Nat.lt_of_lt_of_le l9 bb3.size
       clear b3 bb3 z0 z1 z2 z3 z4 z5 z6 z7 z8
       generalize w3.heap.size = g10 at *
       generalize w3.alloc _ = w4 at *)
  all_goals (
    by_cases hE : ME = 0
    · have q0 : w4.cell? ⟨g9, 0, none⟩ = some (.slice (some ⟨bb, bo, none⟩) bn bc) := B9.cell 0
      have q1 : w4.cell? ⟨g9, 1, none⟩ = some (.slice ha m hc) := B9.cell 1
      have p0 : w4.cell? ⟨g10, 0, none⟩ = some (.int .i64 M.n) := B10.cell 0
      have p1 : w4.cell? ⟨g10, 1, none⟩ = some (.int .i64 M.fr) := B10.cell 1
      have p2 : w4.cell? ⟨g10, 2, none⟩ = some (.int .i64 M.to) := B10.cell 2
      have p3 : w4.cell? ⟨g10, 3, none⟩ = some (.slice a3 M.bits.length G3) := B10.cell 3
      have l9 := B9.lt
      have l10 := B10.lt
      have hg4 := rows.lt
      have lR := BR.lt
      have hne9 : ¬ g = g9 := by omega
      have hne10 : ¬ g = g10 := by omega
      have hneR : ¬ g = w.heap.size + 1 := by omega
      have hneR' : ¬ w.heap.size + 1 = g := by omega
      have cC : ∀ aD nD cD, SlW Lb.cells w aD cD (bs.drop (j + 2)) → (bs.drop (j + 2)).length = nD → Calls Try.prog 70 #[.slice (some ⟨w4.heap.size + 1, 0, none⟩) 3 3] (((w4.alloc (.cells #[.int .i64 M.n, .int .i64 M.fr, .int .i64 M.to, .slice a3 M.bits.length G3] 60)).alloc (.cells #[.slice (some ⟨bb, bo, none⟩) j bc, .slice (some ⟨w4.heap.size, 0, none⟩) 1 1, .slice aD nD cD] 54)).drew) fun e w' => ∃ g6 c6, e = .returned (.slice (some ⟨g6, 0, none⟩) (j + 1 + nD) c6) ∧ w'.ownsRow w4.heap.size 60 4 (.slice (some ⟨g6, 0, none⟩) (j + 1 + nD) c6) (j + 1 + nD) ((bs.take j).flatMap Lb.cells ++ ([.int .i64 M.n, .int .i64 M.fr, .int .i64 M.to, .slice a3 M.bits.length G3] ++ (bs.drop (j + 2)).flatMap Lb.cells)) ∧ Below w4.heap.size w4 w' ∧ w'.cell? ⟨g9, 0, none⟩ = some (.slice (some ⟨bb, bo, none⟩) bn bc) ∧ w'.cell? ⟨g9, 1, none⟩ = some (.slice ha m hc) ∧ w'.cell? ⟨g10, 0, none⟩ = some (.int .i64 M.n) ∧ w'.cell? ⟨g10, 1, none⟩ = some (.int .i64 M.fr) ∧ w'.cell? ⟨g10, 2, none⟩ = some (.int .i64 M.to) ∧ w'.cell? ⟨g10, 3, none⟩ = some (.slice a3 M.bits.length G3) ∧ w'.cell? ⟨g, k * 2, none⟩ = some (.slice (some ⟨bb, bo, none⟩) bs.length bc) ∧ w'.cell? ⟨g, k * 2 + 1, none⟩ = some (.slice ha hd.length hc) ∧ w'.frozen? ⟨g, k * 2, none⟩ = false ∧ w'.frozen? ⟨g, k * 2 + 1, none⟩ = false ∧ w'.cell? ⟨w.heap.size + 1, 0, none⟩ = some (.slice none 0 0) ∧ w'.frozen? ⟨w.heap.size + 1, 0, none⟩ = false := by
        intro aD nD cD pD lD
        have bW : Below w4.heap.size w4 (((w4.alloc (.cells #[.int .i64 M.n, .int .i64 M.fr, .int .i64 M.to, .slice a3 M.bits.length G3] 60)).alloc (.cells #[.slice (some ⟨bb, bo, none⟩) j bc, .slice (some ⟨w4.heap.size, 0, none⟩) 1 1, .slice aD nD cD] 54)).drew) := belowDrew (below2 w4 _ _)
        have bWw := bel.trans (bW.mono bel.size)
        have gg := (gW _ bWw).bs.sl
        have BX := (Blk.laid (w4.alloc (.cells #[.int .i64 M.n, .int .i64 M.fr, .int .i64 M.to, .slice a3 M.bits.length G3] 60)) [.slice (some ⟨bb, bo, none⟩) j bc, .slice (some ⟨w4.heap.size, 0, none⟩) 1 1, .slice aD nD cD] 54 (w4.heap.size + 1) (by simp)).drewS
        have BM := ((Blk.laid w4 [.int .i64 M.n, .int .i64 M.fr, .int .i64 M.to, .slice a3 M.bits.length G3] 60 _ rfl).alc (.cells #[.slice (some ⟨bb, bo, none⟩) j bc, .slice (some ⟨w4.heap.size, 0, none⟩) 1 1, .slice aD nD cD] 54)).drewS
        have hlen := pD.le
        have hcon := concatB3 (w4.heap.size + 1) (some ⟨bb, bo, none⟩) (some ⟨w4.heap.size, 0, none⟩) aD bc 1 cD j 1 nD ((bs.take j).flatMap Lb.cells) [.int .i64 M.n, .int .i64 M.fr, .int .i64 M.to, .slice a3 M.bits.length G3] ((bs.drop (j + 2)).flatMap Lb.cells) (((w4.alloc (.cells #[.int .i64 M.n, .int .i64 M.fr, .int .i64 M.to, .slice a3 M.bits.length G3] 60)).alloc (.cells #[.slice (some ⟨bb, bo, none⟩) j bc, .slice (some ⟨w4.heap.size, 0, none⟩) 1 1, .slice aD nD cD] 54)).drew) (BX.cell 0) (BX.cell 1) (BX.cell 2)
          (gg.front Lb.four j).row (BM.row 0 _ (fun i v hv => by rw [Nat.zero_add]; exact hv)) (pD.keep bWw (Nat.le_refl _)).row (by rw [flat_length Lb.four, List.length_take, ← eb.out, Nat.min_eq_left (by omega)]) rfl (by rw [flat_length Lb.four, lD])
          (by intro e; cases e) (by intro e; cases e) (by intro e; have := pD.nil e; exact ⟨by omega, this⟩) (blocks_one _) (by intro u hu; simp only [List.mem_cons, List.not_mem_nil, or_false] at hu; rcases hu with rfl | rfl | rfl | rfl <;> rfl) (blocks_one _) (by omega) (by rw [← lD, List.length_drop, ← eb.out]; omega) BX.lt
        refine hcon.mono ?_
        rintro e w' ⟨g6, c6, rfl, o6, b6⟩
        have bb6 := bW.trans (b6.mono bW.size)
        have k9 := B9.keep bb6 l9
        have k10 := B10.keep bb6 l10
        have kR := BR.keep bb6 lR
        have kr := rows.keep bb6 hg4
        obtain ⟨u0, u1⟩ := kr.cells k _ hr.out
        exact ⟨g6, c6, rfl, own_base o6 bW.size, bb6, k9.cell 0, k9.cell 1, k10.cell 0, k10.cell 1, k10.cell 2, k10.cell 3, u0, u1, kr.free _, kr.free _, kR.cell 0, kR.free 0⟩
      have fin : ∀ nD, (bs.drop (j + 2)).length = nD → ∀ (g6 c6 : Nat) (w6 : World), w6.ownsRow w4.heap.size 60 4 (.slice (some ⟨g6, 0, none⟩) (j + 1 + nD) c6) (j + 1 + nD) ((bs.take j).flatMap Lb.cells ++ ([.int .i64 M.n, .int .i64 M.fr, .int .i64 M.to, .slice a3 M.bits.length G3] ++ (bs.drop (j + 2)).flatMap Lb.cells)) → Below w4.heap.size w4 w6 →
          (l.set k ⟨bs.take j ++ (⟨M, a3, G3⟩ :: bs.drop (j + 2)), some ⟨g6, 0, none⟩, c6, hd, ha, hc⟩).map Lr.rw = (l.map Lr.rw).set k ⟨(bs.map Lb.b).take j ++ (M :: (bs.map Lb.b).drop (j + 2)), hd⟩ ∧
          SlR (((w6.setCell ⟨g, k * 2, none⟩ (.slice (some ⟨g6, 0, none⟩) (j + 1 + nD) c6)).setCell ⟨g, k * 2 + 1, none⟩ (.slice ha m hc)).setCell ⟨w.heap.size + 1, 0, none⟩ (.slice (some ⟨g, 0, none⟩) 4 G)) (some ⟨g, 0, none⟩) G (l.set k ⟨bs.take j ++ (⟨M, a3, G3⟩ :: bs.drop (j + 2)), some ⟨g6, 0, none⟩, c6, hd, ha, hc⟩) ∧ Below w.heap.size w (((w6.setCell ⟨g, k * 2, none⟩ (.slice (some ⟨g6, 0, none⟩) (j + 1 + nD) c6)).setCell ⟨g, k * 2 + 1, none⟩ (.slice ha m hc)).setCell ⟨w.heap.size + 1, 0, none⟩ (.slice (some ⟨g, 0, none⟩) 4 G)) := by
        intro nD lD g6 c6 w6 own6 bb6
        obtain ⟨x, hx⟩ : ∃ x : Lr, x = ⟨bs.take j ++ (⟨M, a3, G3⟩ :: bs.drop (j + 2)), some ⟨g6, 0, none⟩, c6, hd, ha, hc⟩ := ⟨_, rfl⟩
        have hlen : (bs.take j ++ ((⟨M, a3, G3⟩ : Lb) :: bs.drop (j + 2))).length = j + 1 + nD := by
          rw [List.length_append, List.length_cons, lD, List.length_take, ← eb.out, Nat.min_eq_left (by omega)]
          omega
        have hw8 : ((w6.setCell ⟨g, k * 2, none⟩ (.slice (some ⟨g6, 0, none⟩) (j + 1 + nD) c6)).setCell ⟨g, k * 2 + 1, none⟩ (.slice ha m hc)).setCell ⟨w.heap.size + 1, 0, none⟩ (.slice (some ⟨g, 0, none⟩) 4 G) = wrote w6 g k x (w.heap.size + 1) (.slice (some ⟨g, 0, none⟩) 4 G) := by
          rw [hx]
          simp only [wrote, hlen, ← em.out]
        rw [hw8]
        have bel6 := bel.trans (bb6.mono bel.size)
        have b8 := wrote_below bel6 (g := g) (gR := w.heap.size + 1) (by omega) (by omega) k x (.slice (some ⟨g, 0, none⟩) 4 G)
        have rows6 := rows.keep bb6 rows.lt
        have BR6 := BR.keep bb6 BR.lt
        have t6 := wrote_bits (t3.keep bb6 (Nat.le_refl _)) rows6 BR6 (by intro v hv b e; simp at hv; subst hv; cases e) k x (.slice (some ⟨g, 0, none⟩) 4 G)
        have own8 := wrote_own own6 hg4 lR k x (.slice (some ⟨g, 0, none⟩) 4 G)
        rw [show ((bs.take j).flatMap Lb.cells ++ ([.int .i64 M.n, .int .i64 M.fr, .int .i64 M.to, .slice a3 M.bits.length G3] ++ (bs.drop (j + 2)).flatMap Lb.cells)) = (bs.take j ++ ((⟨M, a3, G3⟩ : Lb) :: bs.drop (j + 2))).flatMap Lb.cells by rw [List.flatMap_append, List.flatMap_cons]; rfl] at own8
        obtain ⟨a9, c9, ev, sb9, _, _⟩ := SlW.ofOwn Lb.four (by decide) own8
        simp only [Value.slice.injEq, true_and] at ev
        obtain ⟨rfl, rfl⟩ := ev
        have gx : x.Good (wrote w6 g k x (w.heap.size + 1) (.slice (some ⟨g, 0, none⟩) 4 G)) := by
          generalize wrote w6 g k x (w.heap.size + 1) (.slice (some ⟨g, 0, none⟩) 4 G) = w8 at *
          rw [hx]
          have gb := gW w8 b8
          refine ⟨⟨sb9, fun y hy => ?_⟩, gb.hd, ?_, gb.hfew⟩
          · rcases List.mem_append.1 hy with hy | hy
            · exact gb.bs.good y (List.mem_of_mem_take hy)
            · rcases List.mem_cons.1 hy with rfl | hy
              · exact ⟨t6, by simp only; omega⟩
              · exact gb.bs.good y (List.mem_of_mem_drop hy)
          · simp only
            rw [hlen, ← lD, List.length_drop, ← eb.out]
            omega
        refine ⟨?_, ?_, b8⟩
        · rw [List.map_set]
          congr 1
          unfold Lr.rw
          simp
        · rw [← hx]
          exact wrote_rows rows6 (by omega) k (by rw [h4.out]; exact hk) x _ b8 gl gx
      have pt := (gW w (Below.refl _ _)).bs.sl.part Lb.four (j + 2) bs.length (by rw [← eb.out]; exact hj2) (Nat.le_refl _)
      simp only at pt
      rw [List.take_length] at pt
      have lD0 : (bs.drop (j + 2)).length = bn - (j + 2) := by rw [List.length_drop, ← eb.out]
      have hE' := hide hE
      have hjbc : (j : Int) ≤ bc := by omega
      have hz : (ME == 0) = true := by simpa using hE
      clear hE
      rw [Option.map_some, Addr.add_lit] at pt
      have ht : ((j : Int) + 2).toNat = j + 2 := by omega
      have pD : SlW Lb.cells w (if bc = ((j : Int) + 2).toNat then some ⟨bb, bo, none⟩ else some ⟨bb, bo + ((j : Int) + 2).toNat * 4, none⟩) (bc - ((j : Int) + 2).toNat) (bs.drop (j + 2)) := by rw [ht]; exact pt
      have lD : (bs.drop (j + 2)).length = bn - ((j : Int) + 2).toNat := by rw [ht]; exact lD0
      clear pt lD0 ht
      by_cases hqc : bc = ((j : Int) + 2).toNat
      · rw [if_pos hqc] at pD
        have hqb : (bc = ((j : Int) + 2).toNat) = True := eq_true hqc
        clear hqc
        have cC' := cC (some ⟨bb, bo, none⟩) (bn - ((j : Int) + 2).toNat) (bc - ((j : Int) + 2).toNat) pD lD
        have fin' := fin (bn - ((j : Int) + 2).toNat) lD
        clear cC fin pD lD gW gl hr hx hy c4
        go_wp2_with fail
        go_region_held3 (fun w' => w'.cell? ⟨g9, 0, none⟩ = some (.slice (some ⟨bb, bo, none⟩) bn bc) ∧ w'.cell? ⟨g9, 1, none⟩ = some (.slice ha m hc) ∧ w'.cell? ⟨g10, 0, none⟩ = some (.int .i64 M.n) ∧ w'.cell? ⟨g10, 1, none⟩ = some (.int .i64 M.fr) ∧ w'.cell? ⟨g10, 2, none⟩ = some (.int .i64 M.to) ∧ w'.cell? ⟨g10, 3, none⟩ = some (.slice a3 M.bits.length G3)) (go_keep)
          (first
            | (go_at_call 70; refine cC'.mono ?_; rintro e w6 ⟨g6, c6, rfl, own6, bb6, z0, z1, z2, z3, z4, z5, u0, u1, x0, x1, j0, j1⟩))
        go_wp2_with fail
        obtain ⟨E1, E2, E3⟩ := fin' _ _ _ own6 bb6
        exact bodyPost_ret (v := .tuple #[.agg #[.slice (some ⟨g, 0, none⟩) 4 G], .int .i64 0]) (by simp [results, Try.results52, go_sem, j0]) rfl (Or.inr ⟨hE'.out, _, _, _, rfl, E1, E2, E3⟩)
      · rw [if_neg hqc] at pD
        have cC' := cC (some ⟨bb, bo + ((j : Int) + 2).toNat * 4, none⟩) (bn - ((j : Int) + 2).toNat) (bc - ((j : Int) + 2).toNat) pD lD
        have fin' := fin (bn - ((j : Int) + 2).toNat) lD
        clear cC fin pD lD gW gl hr hx hy c4
        go_wp2_with fail
        go_region_held3 (fun w' => w'.cell? ⟨g9, 0, none⟩ = some (.slice (some ⟨bb, bo, none⟩) bn bc) ∧ w'.cell? ⟨g9, 1, none⟩ = some (.slice ha m hc) ∧ w'.cell? ⟨g10, 0, none⟩ = some (.int .i64 M.n) ∧ w'.cell? ⟨g10, 1, none⟩ = some (.int .i64 M.fr) ∧ w'.cell? ⟨g10, 2, none⟩ = some (.int .i64 M.to) ∧ w'.cell? ⟨g10, 3, none⟩ = some (.slice a3 M.bits.length G3)) (go_keep)
          (first
            | (go_at_call 70; refine cC'.mono ?_; rintro e w6 ⟨g6, c6, rfl, own6, bb6, z0, z1, z2, z3, z4, z5, u0, u1, x0, x1, j0, j1⟩))
        go_wp2_with fail
        obtain ⟨E1, E2, E3⟩ := fin' _ _ _ own6 bb6
        exact bodyPost_ret (v := .tuple #[.agg #[.slice (some ⟨g, 0, none⟩) 4 G], .int .i64 0]) (by simp [results, Try.results52, go_sem, j0]) rfl (Or.inr ⟨hE'.out, _, _, _, rfl, E1, E2, E3⟩)
    · have f0 := BR.free 0
      have d0 : w4.cell? ⟨w.heap.size + 1, 0, none⟩ = some (.slice none 0 0) := BR.cell 0
      have hgl := BR.lt
      clear gW gl hr hx hy rows B9 B10 t3 hw1 hw2 hj0 hj1 hj3 hj4 hj5 hj6 hbi
      go_wp2_with fail
      refine bodyPost_ret (v := .tuple #[.agg #[.slice none 0 0], .int .i64 ME]) (by simp [results, Try.results52, go_sem, d0]) rfl ?_
      exact Or.inl ⟨hE, rfl, bel.setCell (by simp) _⟩)

end Go.Proofs.Ytabeihkfjlmepaa
