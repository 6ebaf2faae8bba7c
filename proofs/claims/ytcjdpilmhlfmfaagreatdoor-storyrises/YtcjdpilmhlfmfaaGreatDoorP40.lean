/-
  Versions of a world's log: they only grow; from one to the next. No program is named.
-/
import Derived.Test.YtcjdpilmhlfmfaaGreatDoorP29
import Derived.Test.YtcjdpilmhlfmfaaGreatDoorP39
import Derived.Test.YtcjdpilmhlfmfaaGreatDoorP35
import Derived.Test.YtcjdpilmhlfmfaaGreatDoorP37
import Derived.Test.YtcjdpilmhlfmfaaGreatDoorP31
import Derived.Test.YtcjdpilmhlfmfaaGreatDoorP38
namespace Go.Proofs.YtcjdpilmhlfmfaaGreatDoor

/-- A world from the new one on: right, and its records make a shelf. -/
def JW (w : Wd) : Prop := wdE w = 0 ∧ replE (recL w.d) = 0

theorem jw_new : JW wdNew := by
  have h : recL wdNew.d = [] := rfl
  exact ⟨wd_new, by rw [h]; rfl⟩

theorem jw_step {w : Wd} {x : Hp} (J : JW w) (h : hapE w x = 0) : JW (hapW w x) ∧ ∃ M, recL (hapW w x).d = recL w.d ++ M := by
  obtain ⟨hr, hz⟩ := J
  obtain ⟨hk, _⟩ := hap_kind h
  have hR := hap_right hr h
  by_cases k1 : x.k ≤ 4
  · obtain ⟨e, e2, e3, h60⟩ := hap_write hr ⟨hk.1, k1⟩ h
    have hu : (hapW w x).up = true := by rw [e]
    exact ⟨⟨hR, (wd_up hR hu).2.1⟩, [recOf x], e2⟩
  by_cases k2 : x.k = 5 ∨ x.k = 6
  · obtain ⟨_, _, hu, e, e2⟩ := hap_reader hr k2 h
    have ed : (hapW w x).d = w.d := by rw [e]
    exact ⟨⟨hR, by rw [ed]; exact hz⟩, [], by rw [ed]; simp⟩
  by_cases k3 : x.k = 7
  · obtain ⟨e, _⟩ := hap_crash hr k3 h
    have ed : (hapW w x).d = w.d := by rw [e]
    exact ⟨⟨hR, by rw [ed]; exact hz⟩, [], by rw [ed]; simp⟩
  by_cases k4 : x.k = 8
  · obtain ⟨_, _, _, _, e⟩ := hap_boot hr k4 h
    exact ⟨⟨hR, by rw [e]; exact hz⟩, [], by rw [e]; simp⟩
  · have k5 : x.k = 9 := by omega
    obtain ⟨e, _⟩ := hap_tear k5 h
    obtain ⟨hu, h1, h2, _⟩ := hap_rec0 (.inr k5) h
    obtain ⟨u1, u2, u3, u4, u5⟩ := wd_up hr hu
    obtain ⟨L, eL⟩ : ∃ L, L = recL w.d := ⟨_, rfl⟩
    rw [← eL] at u1 u2 u3 u4 u5 ⊢
    have h2' := h2
    rw [u1] at h2'
    obtain ⟨_, t1⟩ := torn_recs u4 u5 h2' x.n.toNat
    have hd : (hapW w x).d = ⟨logT L, (dputD (dkOf L) (recOf x)).wait.take x.n.toNat⟩ := by rw [e]; simp only; rw [u1]; rfl
    rcases t1 with t1 | ⟨hlt, t1⟩
    · exact ⟨⟨hR, by rw [hd, t1]; exact u2⟩, [], by rw [hd, t1]; simp⟩
    · rw [u3] at h1
      obtain ⟨p1, _⟩ := repl_snoc u2 h1 (by rw [List.length_append]; simp only [List.length_cons, List.length_nil]; omega)
      exact ⟨⟨hR, by rw [hd, t1]; exact p1⟩, [recOf x], by rw [hd, t1]⟩

/-- How many versions. -/
def verN (w : Wd) : Nat := (recL w.d).length
def verV (w : Wd) : Int := if wdE w = 0 then (verN w : Int) else 0

/-- What was there at a version. -/
def atE (w : Wd) (v s : Int) : Int :=
  if wdE w ≠ 0 then wdE w else if ¬ (0 ≤ v ∧ v ≤ (verN w : Int)) then 7 else if replE ((recL w.d).take v.toNat) ≠ 0 then replE ((recL w.d).take v.toNat) else allE (replL ((recL w.d).take v.toNat)) s
def atL (w : Wd) (v s : Int) : List Pt := if atE w v s = 0 then allL (replL ((recL w.d).take v.toNat)) s else []

theorem jw_at {w : Wd} (J : JW w) {v s : Nat} (hv : v ≤ verN w) (hs : s < 4) : atE w v s = 0 ∧ atL w v s = allPts ((replL ((recL w.d).take v)).getD s rw0) := by
  have hz := repl_take J.2 v
  obtain ⟨a1, a2⟩ := all_right (repl_right hz) hs
  have e : atE w v s = 0 := by
    unfold atE
    rw [if_neg (by simp [J.1]), if_neg (fun h => h ⟨by omega, by omega⟩), Int.toNat_natCast, if_neg (by simp [hz])]
    exact a1
  refine ⟨e, ?_⟩
  unfold atL
  rw [if_pos e, Int.toNat_natCast, a2]

/-- What was there at a version stays so. -/
theorem at_grow {w z : Wd} {M : List Rc} (J : JW w) (K : JW z) (hM : recL z.d = recL w.d ++ M) {v s : Nat} (hv : v ≤ verN w) (hs : s < 4) : atL z v s = atL w v s := by
  rw [(jw_at J hv hs).2, (jw_at K (by unfold verN at *; rw [hM, List.length_append]; omega) hs).2, hM, List.take_append_of_le_length hv]

end Go.Proofs.YtcjdpilmhlfmfaaGreatDoor

/-
  world.Do.
-/
namespace Go.Proofs.YtcjdpilmhlfmfaaGreatDoor
open Go.RowKit
open Go.Lib (byteCells)

set_option maxHeartbeats 8000000 in
set_option maxRecDepth 100000 in
theorem do_ok (x : Wd) (y : Hp) (p : Pw) (ea : Option Addr) (en eC : Nat) (w : World) (hg : Gl w) (I : IsW w p x) (h : wdE x = 0) (s3 : SlW ec w ea eC y.e) (h3 : Hid (en = y.e.length)) :
    Calls Tryz.prog 28 #[p.val x.up, .agg #[.int .i64 y.k, .int .i64 y.s, .int .i64 y.n, .slice ea en eC]] w (AnsW w (hapW x y) (hapE x y)) := by
  have c := fun W g i => copyOf_ok x p W g i h
  unfold AnsC at c
  have hRt := hide (fun e : hapE x y = 0 => hap_right h e)
  have hW0 : Hid (hapE x y ≠ 0 → hapW x y = wd0) := hide (fun e => if_pos e)
  obtain ⟨HE, hHE⟩ : ∃ HE, HE = hapE x y := ⟨_, rfl⟩
  obtain ⟨Z, hZ⟩ : ∃ Z, Z = hapW x y := ⟨_, rfl⟩
  have cH := fun V g h' p' ys' B gl s => happen_any (Q := fun _ => False) y g h' p' ys' x V B (fun _ h => h.elim) gl ea en eC s h3
  rw [← hHE, ← hZ] at cH hRt hW0 ⊢
  replace hHE := hide hHE
  replace hZ := hide hZ
  obtain ⟨K, S, N, L⟩ := y
  simp only at *
  obtain ⟨U, hU⟩ : ∃ U, U = x.up := ⟨_, rfl⟩
  rw [← hU] at c ⊢
  replace hU := hide hU
  obtain ⟨sa, sn, sG, a1, n1, c1, a2, n2, c2, ra, rn, rc⟩ := p
  simp only [Pw.val] at *
  have BX := ((Blk.laid w [.slice sa sn sG, .slice a1 n1 c1, .slice a2 n2 c2, .bool U, .slice ra rn rc] 30 _ rfl).alc (.cells #[.int .i64 K, .int .i64 S, .int .i64 N, .slice ea en eC] 69)).alc (.cells #[.slice none 0 0, .slice none 0 0, .slice none 0 0, .bool false, .slice none 0 0] 30)
  have BY := (Blk.laid (w.alloc (.cells #[.slice sa sn sG, .slice a1 n1 c1, .slice a2 n2 c2, .bool U, .slice ra rn rc] 30)) [.int .i64 K, .int .i64 S, .int .i64 N, .slice ea en eC] 69 (w.heap.size + 1) (by simp)).alc (.cells #[.slice none 0 0, .slice none 0 0, .slice none 0 0, .bool false, .slice none 0 0] 30)
  have BR := Blk.laid ((w.alloc (.cells #[.slice sa sn sG, .slice a1 n1 c1, .slice a2 n2 c2, .bool U, .slice ra rn rc] 30)).alloc (.cells #[.int .i64 K, .int .i64 S, .int .i64 N, .slice ea en eC] 69)) [.slice none 0 0, .slice none 0 0, .slice none 0 0, .bool false, .slice none 0 0] 30 (w.heap.size + 1 + 1) (by simp)
  have bel := below3 w (.cells #[.slice sa sn sG, .slice a1 n1 c1, .slice a2 n2 c2, .bool U, .slice ra rn rc] 30) (.cells #[.int .i64 K, .int .i64 S, .int .i64 N, .slice ea en eC] 69) (.cells #[.slice none 0 0, .slice none 0 0, .slice none 0 0, .bool false, .slice none 0 0] 30)
  replace I := hide (I.keep bel (Nat.le_refl _))
  replace s3 := s3.keep bel (Nat.le_refl _)
  have gl := hg.call bel
  obtain ⟨gR, hgR'⟩ : ∃ gR, gR = w.heap.size + 1 + 1 := ⟨_, rfl⟩
  rw [← hgR'] at BR
  have hgR : w.heap.size ≤ gR := by omega
  go_enter Tryz.func28, Tryz.ntmps28
  go_upto_region 1 with fail
  rw [← hgR']
  generalize World.alloc (World.alloc (World.alloc w _) _) _ = w1 at *
  clear hgR'
  have x0 := BX.cell 0
  have x1 := BX.cell 1
  have x2 := BX.cell 2
  have x3 := BX.cell 3
  have x4 := BX.cell 4
  have xl := BX.lt
  go_wp2_with fail
  go_at_call 60
  refine (c _ gl I.out).mono ?_
  rintro e w2 ⟨h', ⟨sb, sm, sH, b1, m1, k1, b2, m2, k2, rb, rm, rk⟩, ys, he, V, hh, bb⟩
  simp only at he
  subst he
  clear c x0 x1 x2 x3 x4 xl BX I
  have lR1 := BR.lt
  have lbb := bb.size
  have WB := V.box
  simp only [Pw.cells, ← hU.out] at WB
  have bq := newB bb (.cells #[.slice sb sm sH, .slice b1 m1 k1, .slice b2 m2 k2, .bool U, .slice rb rm rk] 30)
  replace BY := BY.keep bq BY.lt
  replace BR := BR.keep bq BR.lt
  replace s3 := s3.call bq
  replace gl := gl.call bq
  have lg : gR < w2.heap.size := Nat.lt_of_lt_of_le lR1 lbb
  replace bel := belowCall bel bq
  have lh : gR < h' := by omega
  clear bq bb V hh lR1 lbb
  go_upto_region 4 with fail
  generalize w2.heap.size = g at *
  generalize World.alloc w2 _ = w3 at *
  have y0 := BY.cell 0
  have y1 := BY.cell 1
  have y2 := BY.cell 2
  have y3 := BY.cell 3
  have yl := BY.lt
  have cH2 := cH w3 g h' _ ys WB gl s3
  replace WB := hide WB
  go_wp2_with fail
  go_at_call 61
  refine cH2.mono ?_
  rintro e w4 ⟨rfl, h2, ⟨sa', sn', sG', d1, o1, e1, d2, o2, e2, ra', rn', rc'⟩, ys2, WB2, gr, hh2⟩
  clear y0 y1 y2 y3 yl cH cH2 WB
  replace BR := BR.gb2 gr (by omega) (by omega)
  have bel4 : Below w.heap.size w w4 := bel.trans (gr.from (by omega) (by omega) bel.size)
  replace bel := bel4
  clear bel4 BY gl s3 gr hh2
  have nn1 : ¬ g = gR := by omega
  have nn2 : ¬ gR = g := by omega
  clear lg lh h
  by_cases hz : HE = 0
  · subst hz
    rw [if_pos rfl] at WB2
    have hRt2 := hRt.out rfl
    have WBb := WB2.blk
    simp only [Pw.cells] at WBb
    obtain ⟨ZU, hZU⟩ : ∃ U, U = Z.up := ⟨_, rfl⟩
    rw [← hZU] at WBb
    have r0 := BR.cell 0
    have r1 := BR.cell 1
    have r2 := BR.cell 2
    have r3 := BR.cell 3
    have r4 := BR.cell 4
    have f0 := BR.free 0
    have f1 := BR.free 1
    have f2 := BR.free 2
    have f3 := BR.free 3
    have f4 := BR.free 4
    have rl := BR.lt
    have g0 := WBb.cell 0
    have g1 := WBb.cell 1
    have g2 := WBb.cell 2
    have g3 := WBb.cell 3
    have g4 := WBb.cell 4
    have gl := WBb.lt
    replace BR := hide BR
    replace bel := hide bel
    replace WB2 := hide WB2
    replace hZU := hide hZU
    clear WBb hRt hRt2 hW0
    go_wp2_with fail
    have B9 := put5r BR.out (.slice sa' sn' sG') (.slice d1 o1 e1) (.slice d2 o2 e2) (.bool ZU) (.slice ra' rn' rc')
    have bel9 := below5r bel.out hgR (.slice sa' sn' sG') (.slice d1 o1 e1) (.slice d2 o2 e2) (.bool ZU) (.slice ra' rn' rc')
    have grR := grownSet (grownSet (grownSet (grownSet (grownSet (grownRefl w4 (some (gR))) 0 (.slice sa' sn' sG')) 1 (.slice d1 o1 e1)) 2 (.slice d2 o2 e2)) 3 (.bool ZU)) 4 (.slice ra' rn' rc')
    have W9 := hide (WdB.wrote (Q := fun _ => False) (W' := ((((w4.setCell ⟨gR, 0, none⟩ (.slice sa' sn' sG')).setCell ⟨gR, 1, none⟩ (.slice d1 o1 e1)).setCell ⟨gR, 2, none⟩ (.slice d2 o2 e2)).setCell ⟨gR, 3, none⟩ (.bool ZU)).setCell ⟨gR, 4, none⟩ (.slice ra' rn' rc')) BR.out grR (by rw [← hZU.out]; exact B9) WB2.out.is WB2.out.so WB2.out.right WB2.out.ra WB2.out.rb WB2.out.ry WB2.out.rm).is
    have i0 := B9.cell 0
    have i1 := B9.cell 1
    have i2 := B9.cell 2
    have i3 := B9.cell 3
    have i4 := B9.cell 4
    exact bodyPost_ret (v := .tuple #[.agg #[.slice sa' sn' sG', .slice d1 o1 e1, .slice d2 o2 e2, .bool ZU, .slice ra' rn' rc'], .int .i64 0]) (by simp [results, Tryz.results28, go_sem, i0, i1, i2, i3, i4]) rfl ⟨⟨sa', sn', sG', d1, o1, e1, d2, o2, e2, ra', rn', rc'⟩, by rw [← hZU.out]; rfl, W9.out, bel9⟩
  · have hz' : decide (HE = 0) = false := decide_eq_false hz
    have hZ0 : Hid (Z = wd0) := hide (hW0.out hz)
    clear WB2 hRt hW0
    have r0 := BR.cell 0
    have r1 := BR.cell 1
    have r2 := BR.cell 2
    have r3 := BR.cell 3
    have r4 := BR.cell 4
    have f0 := BR.free 0
    have f1 := BR.free 1
    have f2 := BR.free 2
    have f3 := BR.free 3
    have f4 := BR.free 4
    have rl := BR.lt
    replace BR := hide BR
    replace bel := hide bel
    go_wp2_with fail
    have B9 := put5r BR.out (.slice none 0 0) (.slice none 0 0) (.slice none 0 0) (.bool false) (.slice none 0 0)
    have bel9 := below5r bel.out hgR (.slice none 0 0) (.slice none 0 0) (.slice none 0 0) (.bool false) (.slice none 0 0)
    have i0 := B9.cell 0
    have i1 := B9.cell 1
    have i2 := B9.cell 2
    have i3 := B9.cell 3
    have i4 := B9.cell 4
    rw [hZ0.out]
    exact bodyPost_ret (v := .tuple #[.agg #[.slice none 0 0, .slice none 0 0, .slice none 0 0, .bool false, .slice none 0 0], .int .i64 HE]) (by simp [results, Tryz.results28, go_sem, i0, i1, i2, i3, i4]) rfl ⟨pw0, rfl, IsW.nil _, bel9⟩

end Go.Proofs.YtcjdpilmhlfmfaaGreatDoor

/-
  A world stays while a box of five cells is written.
-/
namespace Go.Proofs.YtcjdpilmhlfmfaaGreatDoor
open Go.RowKit
open Go.Lib (byteCells)

theorem IsW.boxW {w w' : World} {g : Nat} {p : Pw} {x : Wd} {t : TypeId} {a1 a2 a3 a4 : Option Addr} {n1 n2 n3 n4 c1 c2 c3 c4 : Nat} {u : Bool} (k : IsW w p x) (hz : shelfE x.c = 0) (B : Blk w g [.slice a1 n1 c1, .slice a2 n2 c2, .slice a3 n3 c3, .bool u, .slice a4 n4 c4] t) (hg : w.grownBy w' (some g)) : IsW w' p x :=
  ⟨k.es, k.e1, k.e2, k.er, (IsSO.boxW (IsS.old k.s (P := fun _ => False) (fun _ h => h.elim)) hz B hg).is, slU_off k.s1 B (by simp) hg, slU_off k.s2 B (by simp) hg, slI_off k.r B (by simp) hg⟩

theorem gbPut5 {w : World} {g : Nat} (u0 u1 u2 u3 u4 : Value) : w.grownBy (((((w.setCell ⟨g, 0, none⟩ u0).setCell ⟨g, 1, none⟩ u1).setCell ⟨g, 2, none⟩ u2).setCell ⟨g, 3, none⟩ u3).setCell ⟨g, 4, none⟩ u4) (some g) :=
  grownSet (grownSet (grownSet (grownSet (grownSet ⟨rfl, rfl, rfl, Nat.le_refl _, fun _ _ _ => rfl⟩ 0 u0) 1 u1) 2 u2) 3 u3) 4 u4

end Go.Proofs.YtcjdpilmhlfmfaaGreatDoor

/-
  A script that is played from the new world on: what holds at each moment.
-/
namespace Go.Proofs.YtcjdpilmhlfmfaaGreatDoor
open Go.RowKit
open Go.Lib (byteCells)
set_option linter.unusedVariables false

/-- Of what was there some blocks alone are written. -/
structure Gq (Q : Nat → Prop) (W W' : World) : Prop where
  os : W'.os = W.os
  tape : W'.tape = W.tape
  output : W'.output = W.output
  size : W.heap.size ≤ W'.heap.size
  block : ∀ k, k < W.heap.size → ¬ Q k → W'.heap[k]? = W.heap[k]?

theorem Gq.below {Q : Nat → Prop} {a b : World} (k : Below a.heap.size a b) : Gq Q a b := ⟨k.os, k.tape, k.output, k.size, fun j hj _ => k.block j hj⟩
theorem Gq.from {Q : Nat → Prop} {base : Nat} {a b : World} (k : Gq Q a b) (hQ : ∀ q, Q q → base ≤ q) (hb : base ≤ a.heap.size) : Below base a b :=
  ⟨k.os, k.tape, k.output, k.size, fun j hj => k.block j (by omega) (fun h => by have := hQ j h; omega)⟩
theorem Blk.gq {Q : Nat → Prop} {W W' : World} {q : Nat} {cs : List Value} {t : TypeId} (B : Blk W q cs t) (k : Gq Q W W') (hq : ¬ Q q) : Blk W' q cs t := (k.block q B.lt hq).trans B
theorem Gq.trans {Q : Nat → Prop} {a b c : World} (k : Gq Q a b) (q : Gq Q b c) : Gq Q a c :=
  ⟨q.os.trans k.os, q.tape.trans k.tape, q.output.trans k.output, Nat.le_trans k.size q.size, fun j hj h1 => (q.block j (Nat.lt_of_lt_of_le hj k.size) h1).trans (k.block j hj h1)⟩

theorem do_right {x : Wd} {p : Pw} (k s n : Int) (L : List Nt) {ea : Option Addr} {en eC : Nat} {V : World} (h : wdE x = 0) (h3 : en = L.length) (gl : Gl V) (I : IsW V p x) (s3 : SlW ec V ea eC L) :
    Calls Tryz.prog 28 #[p.val x.up, .agg #[.int .i64 k, .int .i64 s, .int .i64 n, .slice ea en eC]] V (AnsW V (hapW x ⟨k, s, n, L⟩) (hapE x ⟨k, s, n, L⟩)) :=
  do_ok x ⟨k, s, n, L⟩ p ea en eC V gl I h s3 (hide h3)

set_option maxHeartbeats 8000000 in
set_option maxRecDepth 100000 in
theorem played_StoryGrows (b1 b2 b3 b4 b5 : Nat) (Q : Nat → Prop) (Inv : World → Wd → Prop) (W0 W : World) (hg : Gl W0) (bel : Below W0.heap.size W0 W) (l : List Lrc) (la : Option Addr) (lc ln : Nat) (S : SlRec W0 la lc l) (hl : ln = l.length)
    (hQ : ∀ q, Q q → W0.heap.size ≤ q ∧ q < W.heap.size) (hInv : ∀ V V' x, Inv V x → W.heap.size ≤ V.heap.size → Below V.heap.size V V' → Inv V' x) (hInv2 : ∀ V V' x g (a1 a2 a3 a4 : Option Addr) (n1 n2 n3 n4 c1 c2 c3 c4 : Nat) (u : Bool), Inv V x → W.heap.size ≤ g → Blk V g [.slice a1 n1 c1, .slice a2 n2 c2, .slice a3 n3 c3, .bool u, .slice a4 n4 c4] 30 → V.grownBy V' (some g) → Inv V' x) (h0 : Inv W wdNew)
    (hstep : ∀ (x z : Wd) (p : Pw) (V : World), JW x → JW z → (∃ M, recL z.d = recL x.d ++ M) → Below W0.heap.size W0 V → W.heap.size ≤ V.heap.size → IsW V p z → Inv V x → Calls Tryz.prog 19 #[p.val z.up, .pointer (some ⟨b1, 0, none⟩), .pointer (some ⟨b2, 0, none⟩), .pointer (some ⟨b3, 0, none⟩), .pointer (some ⟨b4, 0, none⟩), .pointer (some ⟨b5, 0, none⟩)] V fun e V' => e = .returned (.bool true) ∧ Inv V' z ∧ IsW V' p z ∧ Gq Q V V') :
    Calls Tryz.prog 18 #[.slice la ln lc, .func (.func 19) #[] #[.pointer (some ⟨b1, 0, none⟩), .pointer (some ⟨b2, 0, none⟩), .pointer (some ⟨b3, 0, none⟩), .pointer (some ⟨b4, 0, none⟩), .pointer (some ⟨b5, 0, none⟩)]] W fun e W' => e = .returned (.bool true) ∧ Below W0.heap.size W0 W' := by
  obtain ⟨k0, hk0⟩ : ∃ k0 : Nat, min (ln : Int) 60 = k0 := ⟨(min (ln : Int) 60).toNat, by omega⟩
  have hmin : ∀ (ts : Array TypeId) (t : TypeId) (V : World), (Builtin.min_ ts t #[.int .i64 (ln : Int), .int .i64 60]).run Tryz.prog V = .ok (.int .i64 (k0 : Int)) V := by
    intro ts t V
    rw [Lib.run_min_ints, hk0]
  have hlc : ln ≤ lc := by rw [hl]; exact S.row.le
  have hlm : lc ≤ 9223372036854775807 := S.row.max
  have hkn : k0 ≤ ln := by omega
  clear hk0
  replace hl := hide hl
  have hWs := bel.size
  go_enter Tryz.func18, Tryz.ntmps18
  go_wp2_with fail
  go_at_call 33
  refine (newW_any _).mono ?_
  rintro e w2 ⟨⟨ba, bn, bG, c1, bm1, bk1, c2, bm2, bk2, br, brn, brc⟩, rfl, I2, b0⟩
  simp only [Pw.val]
  have b := newB b0 (.cells #[.slice ba bn bG, .slice c1 bm1 bk1, .slice c2 bm2 bk2, .bool true, .slice br brn brc] 30)
  have BX := Blk.laid w2 [.slice ba bn bG, .slice c1 bm1 bk1, .slice c2 bm2 bk2, .bool true, .slice br brn brc] 30 _ rfl
  replace I2 := I2.alloc (.cells #[.slice ba bn bG, .slice c1 bm1 bk1, .slice c2 bm2 bk2, .bool true, .slice br brn brc] 30)
  have inv := hInv _ _ _ h0 (Nat.le_refl _) b
  have hWX : W.heap.size ≤ w2.heap.size := b0.size
  have hWw := b.size
  replace bel := belowCall bel b
  clear b b0 h0
  go_upto_region 2 with fail
  generalize w2.heap.size = gX at *
  generalize World.alloc w2 _ = w3 at *
  have hQX : ¬ Q gX := fun h => by have := (hQ gX h).2; omega
  go_wp2_with fail
  go_loopw [17] (fun i wr => ∃ (j : Nat) (P2 : Pw) (Z : Wd), j ≤ k0 ∧ i = .int .i64 j ∧ Blk wr gX (P2.cells Z.up) 30 ∧ IsW wr P2 Z ∧ Hid (JW Z) ∧ Hid (Inv wr Z) ∧ W.heap.size ≤ wr.heap.size ∧ Below W0.heap.size W0 wr) (fun i _ => k0 - (intOf i).toNat)
  case atStart => exact ⟨0, ⟨ba, bn, bG, c1, bm1, bk1, c2, bm2, bk2, br, brn, brc⟩, wdNew, Nat.zero_le _, rfl, BX, I2, hide jw_new, hide inv, hWw, bel⟩
  case round =>
    clear BX I2 inv bel hWw
    obtain ⟨j, ⟨ca, cn, cG, d1, dm1, dk1, d2, dm2, dk2, cr, crn, crc⟩, Z, hj, rfl, BX, I2, hZ, inv, hWw, bel⟩ := hrel
    simp only [Pw.cells] at BX
    by_cases hjk : j < k0
    · have hkl : j < l.length := by have := hl.out; omega
      obtain ⟨y, hy⟩ : ∃ y, l[j]? = some y := ⟨_, List.getElem?_eq_getElem hkl⟩
      obtain ⟨lb, lo, rfl, hlb⟩ := S.row.where Lrc.four (by decide) (by intro h; subst h; simp at hkl)
      have S' := S.keep bel (Nat.le_refl _)
      have t0 := S'.row.cell Lrc.four j 0 y _ hy rfl
      have t1 := S'.row.cell Lrc.four j 1 y _ hy rfl
      have t2 := S'.row.cell Lrc.four j 2 y _ hy rfl
      have t3 := S'.row.cell Lrc.four j 3 y _ hy rfl
      simp only [Nat.add_zero] at t0
      have llb := Nat.lt_of_lt_of_le hlb bel.size
      have hent := S'.ent y (List.mem_of_getElem? hy)
      obtain ⟨en, hen⟩ : ∃ en, en = y.r.e.length := ⟨_, rfl⟩
      have cD := fun V g i s => do_right (x := Z) (p := ⟨ca, cn, cG, d1, dm1, dk1, d2, dm2, dk2, cr, crn, crc⟩) (V := V) (ea := y.a) (eC := y.c) y.r.k y.r.s y.r.n y.r.e hZ.out.1 hen g i s
      have hJ := fun h => jw_step (x := ⟨y.r.k, y.r.s, y.r.n, y.r.e⟩) hZ.out h
      rw [← hen] at t3
      obtain ⟨⟨K, Sr, N, Y⟩, ya, yc⟩ := y
      simp only at *
      obtain ⟨HE, hHE⟩ : ∃ HE, HE = hapE Z ⟨K, Sr, N, Y⟩ := ⟨_, rfl⟩
      obtain ⟨Z2, hZ2⟩ : ∃ Z2, Z2 = hapW Z ⟨K, Sr, N, Y⟩ := ⟨_, rfl⟩
      rw [← hHE, ← hZ2] at cD hJ
      replace hHE := hide hHE
      replace hZ2 := hide hZ2
      replace hen := hide hen
      replace hy := hide hy
      have bc := newB (Below.refl wr.heap.size wr) (.cells #[.int .i64 K, .int .i64 Sr, .int .i64 N, .slice ya en yc] 69)
      have BC := Blk.laid wr [.int .i64 K, .int .i64 Sr, .int .i64 N, .slice ya en yc] 69 _ rfl
      replace BX := BX.keep bc BX.lt
      replace I2 := I2.call bc
      replace inv := hide (hInv _ _ _ inv.out hWw bc)
      have hent1 := hent.call bc
      replace hWw := Nat.le_trans hWw bc.size
      replace bel := belowCall bel bc
      clear S' hkl hent bc
      go_upto_region 5 with fail
      generalize wr.heap.size = gC at *
      generalize World.alloc wr _ = v1 at *
      clear t0 t1 t2 t3 llb
      have y0 := BC.cell 0
      have y1 := BC.cell 1
      have y2 := BC.cell 2
      have y3 := BC.cell 3
      have yl := BC.lt
      have x0 := BX.cell 0
      have x1 := BX.cell 1
      have x2 := BX.cell 2
      have x3 := BX.cell 3
      have x4 := BX.cell 4
      have xl := BX.lt
      go_wp2_with fail
      go_at_call 28
      refine (cD _ (hg.call bel) I2 hent1).mono ?_
      rintro e v2 ⟨⟨ea, un, uG, e1, um1, uk1, e2, um2, uk2, er, urn, urc⟩, rfl, I3, b0⟩
      simp only [Pw.val]
      have b := newB b0 (.cells #[.slice ea un uG, .slice e1 um1 uk1, .slice e2 um2 uk2, .bool Z2.up, .slice er urn urc] 30)
      have BY := Blk.laid v2 [.slice ea un uG, .slice e1 um1 uk1, .slice e2 um2 uk2, .bool Z2.up, .slice er urn urc] 30 _ rfl
      replace I3 := I3.alloc (.cells #[.slice ea un uG, .slice e1 um1 uk1, .slice e2 um2 uk2, .bool Z2.up, .slice er urn urc] 30)
      have nn : ¬ gX = v2.heap.size := by
        have := BX.lt
        have := b0.size
        omega
      clear x0 x1 x2 x3 x4 xl y0 y1 y2 y3 yl b0 BC hent1 cD
      replace BX := BX.keep b BX.lt
      replace I2 := I2.call b
      replace inv := hide (hInv _ _ _ inv.out hWw b)
      replace hWw := Nat.le_trans hWw b.size
      replace bel := belowCall bel b
      clear b
      go_upto_region 6 with fail
      have nn2 : ¬ v2.heap.size = gX := fun e => nn e.symm
      generalize v2.heap.size = gY at *
      generalize World.alloc v2 _ = v3 at *
      by_cases hz : HE = 0
      · subst hz
        obtain ⟨hJ2, hM⟩ := hJ rfl
        have hzX := right_shelf hJ2.1
        have B9 := put5r BX (.slice ea un uG) (.slice e1 um1 uk1) (.slice e2 um2 uk2) (.bool Z2.up) (.slice er urn urc)
        have bel9 := below5r bel (Nat.le_trans hWs hWX) (.slice ea un uG) (.slice e1 um1 uk1) (.slice e2 um2 uk2) (.bool Z2.up) (.slice er urn urc)
        have belW := below5r (Below.refl W.heap.size v3) hWX (.slice ea un uG) (.slice e1 um1 uk1) (.slice e2 um2 uk2) (.bool Z2.up) (.slice er urn urc)
        have I9 := I3.boxW hzX BX (gbPut5 (w := v3) (g := gX) (.slice ea un uG) (.slice e1 um1 uk1) (.slice e2 um2 uk2) (.bool Z2.up) (.slice er urn urc))
        have inv9 := hInv2 _ _ _ _ _ _ _ _ _ _ _ _ _ _ _ _ _ inv.out hWX BX (gbPut5 (w := v3) (g := gX) (.slice ea un uG) (.slice e1 um1 uk1) (.slice e2 um2 uk2) (.bool Z2.up) (.slice er urn urc))
        have hW9 := Nat.le_trans hWw belW.size
        replace B9 := hide B9
        replace bel9 := hide bel9
        replace I9 := hide I9
        replace inv9 := hide inv9
        replace hJ2 := hide hJ2
        replace hM := hide hM
        replace hW9 := hide hW9
        replace bel := hide bel
        have z0 := BY.cell 0
        have z1 := BY.cell 1
        have z2 := BY.cell 2
        have z3 := BY.cell 3
        have z4 := BY.cell 4
        have zl := BY.lt
        have x0 := BX.cell 0
        have f0 := BX.free 0
        have x1 := BX.cell 1
        have f1 := BX.free 1
        have x2 := BX.cell 2
        have f2 := BX.free 2
        have x3 := BX.cell 3
        have f3 := BX.free 3
        have x4 := BX.cell 4
        have f4 := BX.free 4
        have xl := BX.lt
        clear hJ I2 I3 BY hzX belW inv hWw
        go_upto_region 8 with fail
        clear x0 f0 x1 f1 x2 f2 x3 f3 x4 f4 xl z0 z1 z2 z3 z4 zl BX bel
        have BX := B9.out
        have bel := bel9.out
        have I2 := I9.out
        have hWw := hW9.out
        clear B9 bel9 I9 hW9
        generalize World.setCell (World.setCell (World.setCell (World.setCell (World.setCell v3 _ _) _ _) _ _) _ _) _ _ = v4 at *
        have x0 := BX.cell 0
        have x1 := BX.cell 1
        have x2 := BX.cell 2
        have x3 := BX.cell 3
        have x4 := BX.cell 4
        have xl := BX.lt
        go_wp2_with fail
        go_at_call 19
        refine (hstep Z Z2 _ _ hZ.out hJ2.out hM.out bel hWw I2 inv9.out).mono ?_
        rintro e v5 ⟨rfl, inv2, I4, gq⟩
        clear x0 x1 x2 x3 x4 xl I2 inv9
        replace BX := BX.gq gq hQX
        replace bel := bel.trans (gq.from (fun q h => (hQ q h).1) bel.size)
        replace hWw := Nat.le_trans hWw gq.size
        clear gq
        go_wp2_with fail
        go_roundw
        case rel => exact ⟨j + 1, ⟨ea, un, uG, e1, um1, uk1, e2, um2, uk2, er, urn, urc⟩, Z2, Nat.succ_le_of_lt hjk, by go_num, BX, I4, hJ2, hide inv2, hWw, bel⟩
        case measure =>
          have := Nat.sub_lt_sub_left hjk (Nat.lt_succ_self j)
          simpa [intOf] using this
      · have hd : decide (HE = 0) = false := decide_eq_false hz
        have hd2 : (HE == 0) = false := by simpa using hz
        clear hJ I3 BY
        go_wp2_with fail
        go_roundw
        case rel => exact ⟨j + 1, ⟨ca, cn, cG, d1, dm1, dk1, d2, dm2, dk2, cr, crn, crc⟩, Z, Nat.succ_le_of_lt hjk, by go_num, BX, I2, hZ, inv, hWw, bel⟩
        case measure =>
          have := Nat.sub_lt_sub_left hjk (Nat.lt_succ_self j)
          simpa [intOf] using this
    · obtain rfl : j = k0 := Nat.le_antisymm hj (Nat.le_of_not_lt hjk)
      go_wp2_with fail
      go_ret
      exact ⟨rfl, bel⟩

end Go.Proofs.YtcjdpilmhlfmfaaGreatDoor

/-
  world.Read: what a reader sees of a series.
-/
namespace Go.Proofs.YtcjdpilmhlfmfaaGreatDoor
open Go.RowKit
open Go.Lib (byteCells)

/-- Points that were answered, in memory of the call's own. -/
def AnsL (W : World) (l : List Pt) (E : Int) (e : Ending) (w' : World) : Prop :=
  ∃ (a : Option Addr) (n G : Nat), e = .returned (.tuple #[.slice a n G, .int .i64 E]) ∧ Hid (n = l.length) ∧ w'.ownsRow W.heap.size 50 2 (.slice a n G) n (cellsP l) ∧ Below W.heap.size W w'

theorem ansL_nil {W w' : World} {E : Int} (b : Below W.heap.size W w') : AnsL W [] E (.returned (.tuple #[.slice none 0 0, .int .i64 E])) w' :=
  ⟨none, 0, 0, rfl, hide rfl, World.ownsRow_nil _ _ _ _, b⟩

theorem readE_cases (x : Wd) (r s : Int) :
    (wdE x ≠ 0 → readE x r s = wdE x) ∧ (wdE x = 0 → ¬ (0 ≤ r ∧ r ≤ 2) → readE x r s = 5) ∧ (wdE x = 0 → (0 ≤ r ∧ r ≤ 2) → x.rd.getD r.toNat 0 < 0 → readE x r s = 7) ∧
      (wdE x = 0 → (0 ≤ r ∧ r ≤ 2) → ¬ x.rd.getD r.toNat 0 < 0 → readE x r s = allE (replL ((recL x.d).take (x.rd.getD r.toNat 0).toNat)) s) := by
  unfold readE
  refine ⟨fun h => if_pos h, fun h k => ?_, fun h k v => ?_, fun h k v => ?_⟩
  · rw [if_neg (by simp [h]), if_pos k]
  · rw [if_neg (by simp [h]), if_neg (fun e => e k), if_pos v]
  · rw [if_neg (by simp [h]), if_neg (fun e => e k), if_neg v]

theorem readL_bad {x : Wd} {r s f t : Int} (h : readE x r s ≠ 0) : readL x r s f t = [] := if_neg h

set_option maxHeartbeats 4000000 in
set_option maxRecDepth 100000 in
theorem read_any' (x : Wd) (p : Pw) (r s f t : Int) (w : World) (hg : Gl w) (I : IsW w p x) (few : p.n1 + p.n2 ≤ 9223372036854775807) (fewS : p.sn ≤ 140737488355328) :
    Calls Tryz.prog 21 #[p.val x.up, .int .i64 r, .int .i64 s, .int .i64 f, .int .i64 t] w (AnsL w (readL x r s f t) (readE x r s)) := by
  obtain ⟨c1', c2', c3', c4'⟩ := readE_cases x r s
  have c := fun W g i => replayed_any x p W g i few fewS
  unfold AnsP at c
  obtain ⟨RE, hRE⟩ : ∃ RE, RE = readE x r s := ⟨_, rfl⟩
  obtain ⟨RL, hRL⟩ : ∃ RL, RL = readL x r s f t := ⟨_, rfl⟩
  have hbad : RE ≠ 0 → RL = [] := fun e => by rw [hRL]; exact readL_bad (by rw [← hRE]; exact e)
  rw [← hRE] at c1' c2' c3' c4' ⊢
  rw [← hRL]
  obtain ⟨es, e1, e2, er, IS, S1, S2, SR⟩ := I
  obtain ⟨U, hU⟩ : ∃ U, U = x.up := ⟨_, rfl⟩
  rw [← hU] at c ⊢
  obtain ⟨sa, sn, sG, a1, n1, c1, a2, n2, c2, ra, rn, rc⟩ := p
  simp only [Pw.val] at *
  have BX := Blk.laid w [.slice sa sn sG, .slice a1 n1 c1, .slice a2 n2 c2, .bool U, .slice ra rn rc] 30 _ rfl
  have bel := newB (Below.refl w.heap.size w) (.cells #[.slice sa sn sG, .slice a1 n1 c1, .slice a2 n2 c2, .bool U, .slice ra rn rc] 30)
  have I1 := hide (show IsW (w.alloc (.cells #[.slice sa sn sG, .slice a1 n1 c1, .slice a2 n2 c2, .bool U, .slice ra rn rc] 30)) ⟨sa, sn, sG, a1, n1, c1, a2, n2, c2, ra, rn, rc⟩ x from IsW.alloc ⟨es, e1, e2, er, IS, S1, S2, SR⟩ _)
  have gl := hg.call bel
  replace hU := hide hU
  replace hRE := hide hRE
  replace hRL := hide hRL
  have er' := hide er
  clear es e1 e2 er IS S1 S2 SR
  go_enter Tryz.func21, Tryz.ntmps21
  go_upto_region 1 with fail
  generalize World.alloc w _ = w1 at *
  have x0 := BX.cell 0
  have x1 := BX.cell 1
  have x2 := BX.cell 2
  have x3 := BX.cell 3
  have x4 := BX.cell 4
  have xl := BX.lt
  go_wp2_with fail
  go_at_call 51
  refine (c _ gl I1.out).mono ?_
  rintro e w2 ⟨a', n', G', la, ln, lG, l, rfl, hP, b2⟩
  clear x0 x1 x2 x3 x4 xl c
  have bq := newB b2 (.cells #[.slice a' n' G'] 24)
  replace BX := BX.keep bq BX.lt
  have I2 := hide (I1.out.call bq)
  have bq2 := hide (newB (Below.refl w2.heap.size w2) (.cells #[.slice a' n' G'] 24))
  replace bel := belowCall bel bq
  clear bq b2 gl I1
  by_cases hz : wdE x = 0
  · obtain ⟨rfl, _, LR, hln, hll⟩ := hP.out hz
    replace LR := LR.call bq2.out
    have hlc : ln ≤ lG := by rw [hln]; exact LR.row.le
    have hlm : lG ≤ 9223372036854775807 := LR.row.max
    replace hln := hide hln
    replace hll := hide hll
    rw [hz]
    by_cases hr : 0 ≤ r ∧ r ≤ 2
    · obtain ⟨k, rfl⟩ : ∃ k : Nat, r = k := ⟨r.toNat, by omega⟩
      rw [Int.toNat_natCast] at c3' c4'
      have hk3 : k < 3 := by omega
      obtain ⟨r1, r2, r3, r4, r5, r6⟩ := wd_right hz
      have hkl : k < x.rd.length := by omega
      have hrn : rn = 3 := by rw [er'.out]; exact r5
      have hvin : rdOk x.up (wdL x).length (x.rd.getD k 0) = true := r6 _ (by rw [List.getD_eq_getElem?_getD, List.getElem?_eq_getElem hkl]; exact List.getElem_mem hkl)
      have SRI := I2.out.r
      obtain ⟨rb, ro, rfl, hj1, hj2⟩ := SRI.row.at (by intro e; rw [List.map_eq_nil_iff] at e; rw [e] at hkl; simp at hkl)
      clear hj1 hj2
      have v0 := SRI.int k hkl
      subst hrn
      have cR := fun W => isReader_any (k : Int) W
      rw [show isRd (k : Int) = true by unfold isRd; exact decide_eq_true (by omega)] at cR
      generalize hv : x.rd.getD k 0 = v at *
      have hkI : (k : Int) < 3 := by omega
      by_cases hv0 : v < 0
      · have hE : RE = 7 := c3' hz hr hv0
        have hL : RL = [] := hbad (by rw [hE]; decide)
        have hv1 : v = -1 := by
          unfold rdOk at hvin
          simp only [Bool.and_eq_true, decide_eq_true_eq] at hvin
          omega
        subst hE hL hv1
        clear c1' c2' c3' c4' hbad hz hP hvin r1 r2 r3 r4 r5 r6 hr SRI LR
        go_upto_region 4 with fail
        generalize World.alloc w2 _ = w3 at *
        have x4 := BX.cell 4
        have xl := BX.lt
        go_wp2_with fail
        go_at_call 52
        refine (cR _).mono ?_
        rintro e w4 ⟨rfl, rfl⟩
        go_wp2_with fail
        exact bodyPost_ret (v := .tuple #[.slice none 0 0, .int .i64 7]) (by simp [results, Tryz.results21, go_sem]) rfl (ansL_nil bel)
      · have hE := c4' hz hr (by omega)
        unfold rdOk at hvin
        simp only [Bool.and_eq_true, Bool.or_eq_true, decide_eq_true_eq] at hvin
        obtain ⟨⟨_, hvn⟩, hvu⟩ := hvin
        have hup : x.up = true := hvu.elim id (fun e => absurd e hv0)
        have hwl : wdL x = recL x.d := if_pos hup
        obtain ⟨V, rfl⟩ : ∃ V : Nat, v = V := ⟨v.toNat, by omega⟩
        rw [Int.toNat_natCast] at hE
        have hVn : V ≤ ln := by rw [hln.out, ← List.length_map (f := fun q : Lrc => q.r), hll.out]; omega
        have hz2 := repl_take (wd_up hz hup).2.1 V
        obtain ⟨CX, hCX⟩ : ∃ CX, CX = replL ((recL x.d).take V) := ⟨_, rfl⟩
        have hrt := repl_right hz2
        rw [← hCX] at hE hrt
        have hRL2 : RL = rngL (allL CX s) f t := by
          by_cases h0 : RE = 0
          · rw [hRL.out]
            unfold readL
            rw [if_pos (by rw [← hRE.out]; exact h0), Int.toNat_natCast, hv, Int.toNat_natCast, ← hCX]
          · rw [hbad h0]
            have : allL CX s = [] := by
              unfold allL
              rw [if_neg (by rw [← hE]; exact h0)]
            rw [this]
            rfl
        have hTr : (l.take V).map (·.r) = (recL x.d).take V := by rw [List.map_take, hll.out, hwl]
        have hVl : Hid (V = (l.take V).length) := hide (by rw [List.length_take, ← hln.out]; omega)
        have cP := fun W S => replay_own (l.take V) la V lG 4 W S hVl (hide (by rw [hTr, ← hCX]; exact (right_len hrt).symm))
        rw [hTr, hz2, ← hCX] at cP
        have LV : SlRec (w2.alloc (.cells #[.slice a' 4 G'] 24)) la lG (l.take V) := ⟨LR.row.front Lrc.four V, fun q hq => LR.ent q (List.mem_of_mem_take hq)⟩
        have cQ := fun W (a : Option Addr) G (i : IsS W a G CX) => range_is s f t i (right_len hrt).symm
        rw [← hE, ← hRL2] at cQ
        have hVc : V ≤ lG := Nat.le_trans hVn hlc
        have hVm : (V : Int) ≤ 9223372036854775807 := by omega
        have nV : ¬ (V : Int) = -1 := by omega
        have nV2 : ((V : Int) == -1) = false := by simp
        obtain ⟨q, hq⟩ : ∃ q, q = RL.length := ⟨_, rfl⟩
        rw [← hq] at cQ
        replace hq := hide hq
        clear c1' c2' c3' c4' hbad hz hP hvn hvu hup hwl r1 r2 r3 r4 r5 r6 hr SRI LR hE hz2 hCX hrt hRL2 hTr hv hv0 hRE hRL
        go_upto_region 4 with fail
        generalize World.alloc w2 _ = w3 at *
        have x4 := BX.cell 4
        have xl := BX.lt
        go_wp2_with fail
        go_at_call 52
        refine (cR _).mono ?_
        rintro e w4 ⟨rfl, rfl⟩
        go_wp2_with fail
        go_at_call 37
        refine ((cP _ LV).mono fun _ _ h => laidX h).mono ?_
        rintro e w5 ⟨aS, GS, rfl, BS, IN, b5, hs5⟩
        clear x4 xl cP LV v0
        replace bel := belowCall bel b5
        clear b5
        go_upto_region 12 with fail
        generalize World.alloc w5 _ = w6 at *
        have s0 := BS.cell 0
        have sl := BS.lt
        go_wp2_with fail
        go_at_call 22
        refine (cQ _ _ _ IN.is).mono ?_
        rintro e w7 ⟨aQ, GQ, rfl, own, b7⟩
        have own7 := ownDown own bel.size
        replace bel := belowCall bel b7
        clear own b7 cQ IN
        go_wp2_with fail
        exact bodyPost_ret (v := .tuple #[.slice aQ q GQ, .int .i64 RE]) (by simp [results, Tryz.results21, go_sem]) rfl ⟨aQ, q, GQ, rfl, hq, own7, bel⟩
    · have hE : RE = 5 := c2' hz hr
      have hL : RL = [] := hbad (by rw [hE]; decide)
      subst hE hL
      have cR := fun W => isReader_any r W
      rw [show isRd r = false by unfold isRd; exact decide_eq_false hr] at cR
      clear c1' c2' c3' c4' hbad hz hP hr LR
      go_upto_region 4 with fail
      generalize World.alloc w2 _ = w3 at *
      go_wp2_with fail
      go_at_call 52
      refine (cR _).mono ?_
      rintro e w4 ⟨rfl, rfl⟩
      go_wp2_with fail
      exact bodyPost_ret (v := .tuple #[.slice none 0 0, .int .i64 5]) (by simp [results, Tryz.results21, go_sem]) rfl (ansL_nil bel)
  · have hE : RE = wdE x := c1' hz
    have hL : RL = [] := hbad (by rw [hE]; exact hz)
    subst hL
    replace hE := hide hE
    have hd : decide (wdE x = 0) = false := decide_eq_false hz
    clear c1' c2' c3' c4' hbad hP hRE
    generalize wdE x = E at *
    go_upto_region 3 with fail
    generalize World.alloc w2 _ = w3 at *
    go_wp2_with fail
    exact bodyPost_ret (v := .tuple #[.slice none 0 0, .int .i64 E]) (by simp [results, Tryz.results21, go_sem]) rfl (by rw [hE.out]; exact ansL_nil bel)

end Go.Proofs.YtcjdpilmhlfmfaaGreatDoor

/-
  Package story: records, Versions, At.
-/
namespace Go.Proofs.YtcjdpilmhlfmfaaGreatDoor
open Go.RowKit
open Go.Lib (byteCells)
set_option linter.unusedVariables false

/-- What records answers. -/
def AnsRs (W : World) (E : Int) (L : List Rc) (e : Ending) (w' : World) : Prop :=
  ∃ (la : Option Addr) (n c : Nat) (l : List Lrc), e = .returned (.tuple #[.slice la n c, .int .i64 E]) ∧ Hid (n = l.length) ∧ Hid (l.map (·.r) = L) ∧ SlRec w' la c l ∧ Below W.heap.size W w'

set_option maxHeartbeats 4000000 in
set_option maxRecDepth 100000 in
theorem records_any (x : Wd) (p : Pw) (w : World) (hg : Gl w) (I : IsW w p x) (few : p.n1 + p.n2 ≤ 9223372036854775807) (fewS : p.sn ≤ 140737488355328) :
    Calls Tryz.prog 36 #[p.val x.up] w (AnsRs w (wdE x) (if wdE x = 0 then recL x.d else [])) := by
  have cC := fun V g i => checkW_any x p V g i few fewS
  by_cases h : wdE x = 0
  · rw [if_pos h]
    rw [h] at cC ⊢
    obtain ⟨r1, _, _, _, _, _⟩ := wd_right h
    have cQ := fun V g s t => recover_any x.d p.a1 p.a2 p.c1 p.c2 p.n1 p.n2 V g s t I.e1 I.e2 few
    rw [r1] at cQ
    obtain ⟨L, hL⟩ : ∃ L, L = recL x.d := ⟨_, rfl⟩
    rw [← hL] at cQ ⊢
    replace hL := hide hL
    obtain ⟨U, hU⟩ : ∃ U, U = x.up := ⟨_, rfl⟩
    rw [← hU] at cC ⊢
    replace hU := hide hU
    obtain ⟨sa, sn, sG, a1, n1, c1, a2, n2, c2, ra, rn, rc⟩ := p
    simp only [Pw.val] at *
    have BX := Blk.laid w [.slice sa sn sG, .slice a1 n1 c1, .slice a2 n2 c2, .bool U, .slice ra rn rc] 30 _ rfl
    have bel := newB (Below.refl w.heap.size w) (.cells #[.slice sa sn sG, .slice a1 n1 c1, .slice a2 n2 c2, .bool U, .slice ra rn rc] 30)
    replace I := I.alloc (.cells #[.slice sa sn sG, .slice a1 n1 c1, .slice a2 n2 c2, .bool U, .slice ra rn rc] 30)
    go_enter Tryz.func36, Tryz.ntmps36
    go_upto_region 1 with fail
    generalize World.alloc w _ = w1 at *
    have x0 := BX.cell 0
    have x1 := BX.cell 1
    have x2 := BX.cell 2
    have x3 := BX.cell 3
    have x4 := BX.cell 4
    have xl := BX.lt
    go_wp2_with fail
    go_at_call 30
    refine (cC _ (hg.call bel) I).mono ?_
    rintro e w2 ⟨rfl, b⟩
    clear x0 x1 x2 x3 x4 xl
    replace BX := BX.keep b BX.lt
    replace I := I.call b
    replace bel := belowCall bel b
    clear b
    have x0 := BX.cell 0
    have x1 := BX.cell 1
    have x2 := BX.cell 2
    have x3 := BX.cell 3
    have x4 := BX.cell 4
    have xl := BX.lt
    go_wp2_with fail
    go_at_call 27
    refine (cQ _ (hg.call bel) I.s1 I.s2).mono ?_
    rintro e w3 ⟨p1, p2, la, q1, q2, q3, q4, ln, lG, l, rfl, hq1, hq2, T3, T4, LR, hll, b0⟩
    have b := newB b0 (.cells #[.slice p1 q1 q3, .slice p2 q2 q4] 27)
    have LS := LR.sl.call (newB (Below.refl w3.heap.size w3) (.cells #[.slice p1 q1 q3, .slice p2 q2 q4] 27))
    have hln := hide LR.len
    replace hq1 := hide hq1
    replace hq2 := hide hq2
    replace hll := hide hll
    clear T3 T4 b0 LR
    clear x0 x1 x2 x3 x4 xl
    replace BX := BX.keep b BX.lt
    replace I := I.call b
    replace bel := belowCall bel b
    clear b
    have x0 := BX.cell 0
    have x1 := BX.cell 1
    have x2 := BX.cell 2
    have x3 := BX.cell 3
    have x4 := BX.cell 4
    have xl := BX.lt
    go_upto_region 5 with fail
    generalize World.alloc w3 _ = w4 at *
    go_wp2_with fail
    exact bodyPost_ret (v := .tuple #[.slice la ln lG, .int .i64 0]) (by simp [results, Tryz.results36, go_sem]) rfl ⟨la, ln, lG, l, rfl, hln, hll, LS, bel⟩
  · rw [if_neg h]
    have hd : decide (wdE x = 0) = false := decide_eq_false h
    obtain ⟨E, hE⟩ : ∃ E, E = wdE x := ⟨_, rfl⟩
    rw [← hE] at cC hd h ⊢
    have hd2 : (E != 0) = true := by simpa using h
    replace hE := hide hE
    obtain ⟨U, hU⟩ : ∃ U, U = x.up := ⟨_, rfl⟩
    rw [← hU] at cC ⊢
    replace hU := hide hU
    obtain ⟨sa, sn, sG, a1, n1, c1, a2, n2, c2, ra, rn, rc⟩ := p
    simp only [Pw.val] at *
    have BX := Blk.laid w [.slice sa sn sG, .slice a1 n1 c1, .slice a2 n2 c2, .bool U, .slice ra rn rc] 30 _ rfl
    have bel := newB (Below.refl w.heap.size w) (.cells #[.slice sa sn sG, .slice a1 n1 c1, .slice a2 n2 c2, .bool U, .slice ra rn rc] 30)
    replace I := I.alloc (.cells #[.slice sa sn sG, .slice a1 n1 c1, .slice a2 n2 c2, .bool U, .slice ra rn rc] 30)
    go_enter Tryz.func36, Tryz.ntmps36
    go_upto_region 1 with fail
    generalize World.alloc w _ = w1 at *
    have x0 := BX.cell 0
    have x1 := BX.cell 1
    have x2 := BX.cell 2
    have x3 := BX.cell 3
    have x4 := BX.cell 4
    have xl := BX.lt
    go_wp2_with fail
    go_at_call 30
    refine (cC _ (hg.call bel) I).mono ?_
    rintro e w2 ⟨rfl, b⟩
    clear x0 x1 x2 x3 x4 xl
    replace BX := BX.keep b BX.lt
    replace I := I.call b
    replace bel := belowCall bel b
    clear b
    have x0 := BX.cell 0
    have x1 := BX.cell 1
    have x2 := BX.cell 2
    have x3 := BX.cell 3
    have x4 := BX.cell 4
    have xl := BX.lt
    go_wp2_with fail
    exact bodyPost_ret (v := .tuple #[.slice none 0 0, .int .i64 E]) (by simp [results, Tryz.results36, go_sem]) rfl ⟨none, 0, 0, [], rfl, hide rfl, hide rfl, ⟨SlW.ofNil _ _, fun q h => by simp at h⟩, bel⟩

set_option maxHeartbeats 4000000 in
set_option maxRecDepth 100000 in
theorem versions_any (x : Wd) (p : Pw) (w : World) (hg : Gl w) (I : IsW w p x) (few : p.n1 + p.n2 ≤ 9223372036854775807) (fewS : p.sn ≤ 140737488355328) :
    Calls Tryz.prog 9 #[p.val x.up] w fun e w' => e = .returned (.tuple #[.int .i64 (verV x), .int .i64 (wdE x)]) ∧ Below w.heap.size w w' := by
  have cC := fun V g i => records_any x p V g i few fewS
  unfold AnsRs at cC
  have hv : ∀ (l : List Lrc), l.map (·.r) = (if wdE x = 0 then recL x.d else []) → ((l.length : Nat) : Int) = verV x := by
    intro l h
    have := congrArg List.length h
    rw [List.length_map] at this
    unfold verV verN
    split
    · rename_i h0
      rw [if_pos h0] at this
      rw [this]
    · rename_i h0
      rw [if_neg h0] at this
      rw [this]
      rfl
  obtain ⟨E, hE⟩ : ∃ E, E = wdE x := ⟨_, rfl⟩
  obtain ⟨VV, hVV⟩ : ∃ VV, VV = verV x := ⟨_, rfl⟩
  rw [← hVV] at hv ⊢
  rw [← hE] at cC hv ⊢
  replace hE := hide hE
  replace hVV := hide hVV
  obtain ⟨U, hU⟩ : ∃ U, U = x.up := ⟨_, rfl⟩
  rw [← hU] at cC ⊢
  replace hU := hide hU
  obtain ⟨sa, sn, sG, a1, n1, c1, a2, n2, c2, ra, rn, rc⟩ := p
  simp only [Pw.val] at *
  have BX := Blk.laid w [.slice sa sn sG, .slice a1 n1 c1, .slice a2 n2 c2, .bool U, .slice ra rn rc] 30 _ rfl
  have bel := newB (Below.refl w.heap.size w) (.cells #[.slice sa sn sG, .slice a1 n1 c1, .slice a2 n2 c2, .bool U, .slice ra rn rc] 30)
  replace I := I.alloc (.cells #[.slice sa sn sG, .slice a1 n1 c1, .slice a2 n2 c2, .bool U, .slice ra rn rc] 30)
  go_enter Tryz.func9, Tryz.ntmps9
  go_upto_region 1 with fail
  generalize World.alloc w _ = w1 at *
  have x0 := BX.cell 0
  have x1 := BX.cell 1
  have x2 := BX.cell 2
  have x3 := BX.cell 3
  have x4 := BX.cell 4
  have xl := BX.lt
  go_wp2_with fail
  go_at_call 36
  refine (cC _ (hg.call bel) I).mono ?_
  rintro e w2 ⟨la, n, c, l, rfl, hn, hl, LS, b⟩
  have hnV : (n : Int) = VV := by rw [hn.out]; exact hv l hl.out
  subst hnV
  replace bel := belowCall bel b
  clear b LS hl hn hv
  clear x0 x1 x2 x3 x4 xl
  go_wp2_with fail
  exact bodyPost_ret (v := .tuple #[.int .i64 (n : Int), .int .i64 E]) (by simp [results, Tryz.results9, go_sem]) rfl ⟨rfl, bel⟩

theorem atE_cases (x : Wd) (v s : Int) :
    (wdE x ≠ 0 → atE x v s = wdE x) ∧ (wdE x = 0 → ¬ (0 ≤ v ∧ v ≤ (verN x : Int)) → atE x v s = 7) ∧ (wdE x = 0 → (0 ≤ v ∧ v ≤ (verN x : Int)) → replE ((recL x.d).take v.toNat) ≠ 0 → atE x v s = replE ((recL x.d).take v.toNat)) ∧
      (wdE x = 0 → (0 ≤ v ∧ v ≤ (verN x : Int)) → replE ((recL x.d).take v.toNat) = 0 → atE x v s = allE (replL ((recL x.d).take v.toNat)) s) := by
  unfold atE
  refine ⟨fun h => if_pos h, fun h k => ?_, fun h k e => ?_, fun h k e => ?_⟩
  · rw [if_neg (by simp [h]), if_pos k]
  · rw [if_neg (by simp [h]), if_neg (fun q => q k), if_pos e]
  · rw [if_neg (by simp [h]), if_neg (fun q => q k), if_neg (by simp [e])]

theorem atL_bad {x : Wd} {v s : Int} (h : atE x v s ≠ 0) : atL x v s = [] := if_neg h

set_option maxHeartbeats 8000000 in
set_option maxRecDepth 100000 in
theorem at_any' (x : Wd) (p : Pw) (v s : Int) (w : World) (hg : Gl w) (I : IsW w p x) (few : p.n1 + p.n2 ≤ 9223372036854775807) (fewS : p.sn ≤ 140737488355328) :
    Calls Tryz.prog 10 #[p.val x.up, .int .i64 v, .int .i64 s] w (AnsL w (atL x v s) (atE x v s)) := by
  obtain ⟨z1, z2, z3, z4⟩ := atE_cases x v s
  have hbad : atE x v s ≠ 0 → atL x v s = [] := atL_bad
  have hAL : atE x v s = 0 → atL x v s = allL (replL ((recL x.d).take v.toNat)) s := fun h => if_pos h
  have cC := fun V g i => records_any x p V g i few fewS
  unfold AnsRs at cC
  obtain ⟨AE, hAE⟩ : ∃ AE, AE = atE x v s := ⟨_, rfl⟩
  obtain ⟨AL, hAL2⟩ : ∃ AL, AL = atL x v s := ⟨_, rfl⟩
  rw [← hAE] at z1 z2 z3 z4 hbad hAL ⊢
  rw [← hAL2] at hbad hAL ⊢
  clear hAE hAL2
  obtain ⟨L, hL⟩ : ∃ L, L = recL x.d := ⟨_, rfl⟩
  have hN : verN x = L.length := by rw [hL]; rfl
  rw [hN] at z2 z3 z4
  rw [← hL] at z3 z4 cC hAL
  clear hL hN
  by_cases h : wdE x = 0
  · rw [h] at cC
    replace z2 := z2 h
    replace z3 := z3 h
    replace z4 := z4 h
    clear z1 h
    simp only [if_true] at cC
    by_cases hv : 0 ≤ v ∧ v ≤ (L.length : Int)
    · replace z3 := z3 hv
      replace z4 := z4 hv
      obtain ⟨V, rfl⟩ : ∃ V : Nat, v = V := ⟨v.toNat, by omega⟩
      rw [Int.toNat_natCast] at z3 z4 hAL
      have hV : V ≤ L.length := by omega
      have hV0 : ¬ (V : Int) < 0 := by omega
      clear z2 hv
      obtain ⟨U, hU⟩ : ∃ U, U = x.up := ⟨_, rfl⟩
      rw [← hU] at cC ⊢
      replace hU := hide hU
      obtain ⟨sa, sn, sG, a1, n1, c1, a2, n2, c2, ra, rn, rc⟩ := p
      simp only [Pw.val] at *
      have BX := Blk.laid w [.slice sa sn sG, .slice a1 n1 c1, .slice a2 n2 c2, .bool U, .slice ra rn rc] 30 _ rfl
      have bel := newB (Below.refl w.heap.size w) (.cells #[.slice sa sn sG, .slice a1 n1 c1, .slice a2 n2 c2, .bool U, .slice ra rn rc] 30)
      replace I := I.alloc (.cells #[.slice sa sn sG, .slice a1 n1 c1, .slice a2 n2 c2, .bool U, .slice ra rn rc] 30)
      go_enter Tryz.func10, Tryz.ntmps10
      go_upto_region 1 with fail
      generalize World.alloc w _ = w1 at *
      have x0 := BX.cell 0
      have x1 := BX.cell 1
      have x2 := BX.cell 2
      have x3 := BX.cell 3
      have x4 := BX.cell 4
      have xl := BX.lt
      go_wp2_with fail
      go_at_call 36
      refine (cC _ (hg.call bel) I).mono ?_
      rintro e w2 ⟨la, n, c, l, rfl, hn, hl, LS, b⟩
      clear x0 x1 x2 x3 x4 xl
      replace BX := BX.keep b BX.lt
      replace I := I.call b
      replace bel := belowCall bel b
      clear b
      have x0 := BX.cell 0
      have x1 := BX.cell 1
      have x2 := BX.cell 2
      have x3 := BX.cell 3
      have x4 := BX.cell 4
      have xl := BX.lt
      have hlL : n = L.length := by rw [hn.out, ← List.length_map (f := fun q : Lrc => q.r), hl.out]
      have hVn : V ≤ n := by omega
      have hVnI : ¬ (n : Int) < (V : Int) := by omega
      have hnc : n ≤ c := by rw [hn.out]; exact LS.row.le
      have hcm : c ≤ 9223372036854775807 := LS.row.max
      have hVc : (V : Int) ≤ (c : Int) := by omega
      have hVz : (0 : Int) ≤ (V : Int) := by omega
      have hTr : (l.take V).map (·.r) = L.take V := by rw [List.map_take, hl.out]
      have hVl : Hid (V = (l.take V).length) := hide (by rw [List.length_take, ← hn.out]; omega)
      obtain ⟨E2, hE2⟩ : ∃ E2, E2 = replE (L.take V) := ⟨_, rfl⟩
      obtain ⟨dn, hdn⟩ : ∃ dn, dn = (replL (L.take V)).length := ⟨_, rfl⟩
      have cP := fun W S => replay_own (l.take V) la V c dn W S hVl (hide (by rw [hTr]; exact hdn))
      rw [hTr, ← hE2] at cP
      rw [← hE2] at z3 z4
      replace hlL := hide hlL
      replace hE2 := hide hE2
      replace hdn := hide hdn
      go_wp2_with fail
      go_at_call 37
      refine (cP _ ⟨LS.row.front Lrc.four V, fun q hq => LS.ent q (List.mem_of_mem_take hq)⟩).mono ?_
      rintro e w3 ⟨aN, GN, rfl, IN, b0⟩
      have b := newB b0 (.cells #[.slice aN dn GN] 24)
      have BN := Blk.laid w3 [.slice aN dn GN] 24 _ rfl
      have IS2 := IN.is.alloc (.cells #[.slice aN dn GN] 24)
      clear b0 cP LS IN
      clear x0 x1 x2 x3 x4 xl
      replace BX := BX.keep b BX.lt
      replace I := I.call b
      replace bel := belowCall bel b
      clear b
      have x0 := BX.cell 0
      have x1 := BX.cell 1
      have x2 := BX.cell 2
      have x3 := BX.cell 3
      have x4 := BX.cell 4
      have xl := BX.lt
      go_upto_region 7 with fail
      generalize w3.heap.size = gN at *
      generalize World.alloc w3 _ = w4 at *
      have n0 := BN.cell 0
      have nl := BN.lt
      by_cases hz : E2 = 0
      · subst hz
        replace z4 := z4 rfl
        obtain ⟨CX, hCX⟩ : ∃ CX, CX = replL (L.take V) := ⟨_, rfl⟩
        rw [← hCX] at IS2 z4 hAL hdn
        have cA := fun W (k : IsS W aN GN CX) => all_is s k
        rw [← hdn.out, ← z4] at cA
        have hLL : AL = allL CX s := by
          by_cases h0 : AE = 0
          · exact hAL h0
          · rw [hbad h0]
            unfold allL
            rw [if_neg (by rw [← z4]; exact h0)]
        rw [← hLL] at cA
        obtain ⟨q, hq⟩ : ∃ q, q = AL.length := ⟨_, rfl⟩
        rw [← hq] at cA
        replace hq := hide hq
        clear z3 z4 hbad hAL hLL hCX hE2
        go_wp2_with fail
        go_at_call 38
        refine (cA _ IS2).mono ?_
        rintro e w5 ⟨aQ, GQ, rfl, own, b⟩
        have own2 := ownDown own bel.size
        replace bel := belowCall bel b
        clear own b cA
        go_wp2_with fail
        exact bodyPost_ret (v := .tuple #[.slice aQ q GQ, .int .i64 AE]) (by simp [results, Tryz.results10, go_sem]) rfl ⟨aQ, q, GQ, rfl, hq, own2, bel⟩
      · have hA := z3 hz
        have hL0 := hbad (by rw [hA]; exact hz)
        subst hL0
        have hd : decide (E2 = 0) = false := decide_eq_false hz
        have hd2 : (E2 != 0) = true := by simpa using hz
        subst hA
        clear z3 z4 hbad hAL hE2
        go_wp2_with fail
        exact bodyPost_ret (v := .tuple #[.slice none 0 0, .int .i64 AE]) (by simp [results, Tryz.results10, go_sem]) rfl (ansL_nil bel)
    · have hA := z2 hv
      have hL0 := hbad (by rw [hA]; decide)
      subst hA
      subst hL0
      clear z2 z3 z4 hbad hAL
      by_cases hv0 : v < 0
      · obtain ⟨U, hU⟩ : ∃ U, U = x.up := ⟨_, rfl⟩
        rw [← hU] at cC ⊢
        replace hU := hide hU
        obtain ⟨sa, sn, sG, a1, n1, c1, a2, n2, c2, ra, rn, rc⟩ := p
        simp only [Pw.val] at *
        have BX := Blk.laid w [.slice sa sn sG, .slice a1 n1 c1, .slice a2 n2 c2, .bool U, .slice ra rn rc] 30 _ rfl
        have bel := newB (Below.refl w.heap.size w) (.cells #[.slice sa sn sG, .slice a1 n1 c1, .slice a2 n2 c2, .bool U, .slice ra rn rc] 30)
        replace I := I.alloc (.cells #[.slice sa sn sG, .slice a1 n1 c1, .slice a2 n2 c2, .bool U, .slice ra rn rc] 30)
        go_enter Tryz.func10, Tryz.ntmps10
        go_upto_region 1 with fail
        generalize World.alloc w _ = w1 at *
        have x0 := BX.cell 0
        have x1 := BX.cell 1
        have x2 := BX.cell 2
        have x3 := BX.cell 3
        have x4 := BX.cell 4
        have xl := BX.lt
        go_wp2_with fail
        go_at_call 36
        refine (cC _ (hg.call bel) I).mono ?_
        rintro e w2 ⟨la, n, c, l, rfl, hn, hl, LS, b⟩
        clear x0 x1 x2 x3 x4 xl
        replace BX := BX.keep b BX.lt
        replace I := I.call b
        replace bel := belowCall bel b
        clear b
        have x0 := BX.cell 0
        have x1 := BX.cell 1
        have x2 := BX.cell 2
        have x3 := BX.cell 3
        have x4 := BX.cell 4
        have xl := BX.lt
        have hlL : n = L.length := by rw [hn.out, ← List.length_map (f := fun q : Lrc => q.r), hl.out]
        replace hlL := hide hlL
        go_wp2_with fail
        exact bodyPost_ret (v := .tuple #[.slice none 0 0, .int .i64 7]) (by simp [results, Tryz.results10, go_sem]) rfl (ansL_nil bel)
      · obtain ⟨U, hU⟩ : ∃ U, U = x.up := ⟨_, rfl⟩
        rw [← hU] at cC ⊢
        replace hU := hide hU
        obtain ⟨sa, sn, sG, a1, n1, c1, a2, n2, c2, ra, rn, rc⟩ := p
        simp only [Pw.val] at *
        have BX := Blk.laid w [.slice sa sn sG, .slice a1 n1 c1, .slice a2 n2 c2, .bool U, .slice ra rn rc] 30 _ rfl
        have bel := newB (Below.refl w.heap.size w) (.cells #[.slice sa sn sG, .slice a1 n1 c1, .slice a2 n2 c2, .bool U, .slice ra rn rc] 30)
        replace I := I.alloc (.cells #[.slice sa sn sG, .slice a1 n1 c1, .slice a2 n2 c2, .bool U, .slice ra rn rc] 30)
        go_enter Tryz.func10, Tryz.ntmps10
        go_upto_region 1 with fail
        generalize World.alloc w _ = w1 at *
        have x0 := BX.cell 0
        have x1 := BX.cell 1
        have x2 := BX.cell 2
        have x3 := BX.cell 3
        have x4 := BX.cell 4
        have xl := BX.lt
        go_wp2_with fail
        go_at_call 36
        refine (cC _ (hg.call bel) I).mono ?_
        rintro e w2 ⟨la, n, c, l, rfl, hn, hl, LS, b⟩
        clear x0 x1 x2 x3 x4 xl
        replace BX := BX.keep b BX.lt
        replace I := I.call b
        replace bel := belowCall bel b
        clear b
        have x0 := BX.cell 0
        have x1 := BX.cell 1
        have x2 := BX.cell 2
        have x3 := BX.cell 3
        have x4 := BX.cell 4
        have xl := BX.lt
        have hlL : n = L.length := by rw [hn.out, ← List.length_map (f := fun q : Lrc => q.r), hl.out]
        have hvn : (n : Int) < v := by omega
        replace hlL := hide hlL
        go_wp2_with fail
        exact bodyPost_ret (v := .tuple #[.slice none 0 0, .int .i64 7]) (by simp [results, Tryz.results10, go_sem]) rfl (ansL_nil bel)
  · have hA := z1 h
    have hL0 := hbad (by rw [hA]; exact h)
    subst hL0
    have hd : decide (wdE x = 0) = false := decide_eq_false h
    have hd2 : (wdE x != 0) = true := by simpa using h
    subst hA
    generalize wdE x = E at *
    clear z2 z3 z4 hbad hAL
    obtain ⟨U, hU⟩ : ∃ U, U = x.up := ⟨_, rfl⟩
    rw [← hU] at cC ⊢
    replace hU := hide hU
    obtain ⟨sa, sn, sG, a1, n1, c1, a2, n2, c2, ra, rn, rc⟩ := p
    simp only [Pw.val] at *
    have BX := Blk.laid w [.slice sa sn sG, .slice a1 n1 c1, .slice a2 n2 c2, .bool U, .slice ra rn rc] 30 _ rfl
    have bel := newB (Below.refl w.heap.size w) (.cells #[.slice sa sn sG, .slice a1 n1 c1, .slice a2 n2 c2, .bool U, .slice ra rn rc] 30)
    replace I := I.alloc (.cells #[.slice sa sn sG, .slice a1 n1 c1, .slice a2 n2 c2, .bool U, .slice ra rn rc] 30)
    go_enter Tryz.func10, Tryz.ntmps10
    go_upto_region 1 with fail
    generalize World.alloc w _ = w1 at *
    have x0 := BX.cell 0
    have x1 := BX.cell 1
    have x2 := BX.cell 2
    have x3 := BX.cell 3
    have x4 := BX.cell 4
    have xl := BX.lt
    go_wp2_with fail
    go_at_call 36
    refine (cC _ (hg.call bel) I).mono ?_
    rintro e w2 ⟨la, n, c, l, rfl, hn, hl, LS, b⟩
    clear x0 x1 x2 x3 x4 xl
    replace BX := BX.keep b BX.lt
    replace I := I.call b
    replace bel := belowCall bel b
    clear b
    have x0 := BX.cell 0
    have x1 := BX.cell 1
    have x2 := BX.cell 2
    have x3 := BX.cell 3
    have x4 := BX.cell 4
    have xl := BX.lt
    go_wp2_with fail
    exact bodyPost_ret (v := .tuple #[.slice none 0 0, .int .i64 E]) (by simp [results, Tryz.results10, go_sem]) rfl (ansL_nil bel)

end Go.Proofs.YtcjdpilmhlfmfaaGreatDoor
