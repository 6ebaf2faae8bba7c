/-
  The walk of WorldSnap.
-/
import Derived.Test.YtjjfgmcgonkicaaGreatDoorRows
import Derived.Test.YtjjfgmcgonkicaaGreatDoorCards
import Derived.Test.YtjjfgmcgonkicaaGreatDoorTie
import Derived.ProofKit
import Derived.ChangeMaps5
import Derived.LaidMore
import Derived.Stop.Joined
import Derived.SevenTiedAt
import Derived.Test.YtjjfgmcgonkicaaGreatDoorP43
import Derived.Test.YtjjfgmcgonkicaaGreatDoorP31
import Derived.Test.YtjjfgmcgonkicaaGreatDoorP39
import Derived.Test.YtjjfgmcgonkicaaGreatDoorP01
import Derived.Test.YtjjfgmcgonkicaaGreatDoorP35
namespace Go.Proofs.YtjjfgmcgonkicaaGreatDoor
open Go.RowKit
open Go.Lib (byteCells)

set_option maxHeartbeats 8000000 in
set_option maxRecDepth 100000 in
theorem snap_walk (W : World) (hg : Gl W) (x : Wd) (p : Pw) (I : IsW W p x) (few : p.n1 + p.n2 ≤ 9223372036854775807) (fewS : p.sn ≤ 140737488355328) (_ : p.rn ≤ 140737488355328) (l : List Lrc) (la : Option Addr) (lc ln : Nat) (S : SlRec W la lc l) (hl : ln = l.length) (r : Int) (_ : (Lit.int .i64 r).wf = true) (s : Int) (_ : (Lit.int .i64 s).wf = true) :
    Calls Tryz.prog 10 #[p.val x.up, .slice la ln lc, .int .i64 r, .int .i64 s] W fun e w' => e = .returned (.bool true) ∧ Below W.heap.size W w' := by
  obtain ⟨m, hm, cA⟩ := k_at (k := r) 3 (by decide) (by decide)
  obtain ⟨q, hq, cB⟩ := k_at (k := s) 4 (by decide) (by decide)
  have c1 := fun V g i => k_do (x := x) (p := p) (V := V) (ea := none) (eC := 0) 5 0 (m : Int) [] few fewS rfl g i (SlW.ofNil ec V)
  obtain ⟨E, hE⟩ : ∃ E, E = doE x ⟨5, 0, m, []⟩ := ⟨_, rfl⟩
  obtain ⟨X1, hX⟩ : ∃ X1, X1 = doW x ⟨5, 0, m, []⟩ := ⟨_, rfl⟩
  rw [← hE, ← hX] at c1
  by_cases hz : E = 0
  · subst hz
    have hz : doE x ⟨5, 0, m, []⟩ = 0 := hE.symm
    obtain ⟨hx, hh, hw⟩ := do_zero hz
    obtain ⟨hS, hXc, hC⟩ := snap_open (r := m) hx rfl rfl hh
    rw [← hw, ← hX] at hS hXc
    obtain ⟨L, hL⟩ : ∃ L, L = recL x.d := ⟨_, rfl⟩
    rw [← hL] at hS hC
    obtain ⟨P, hPeq⟩ : ∃ P, P = allPts ((replL L).getD q rw0) := ⟨_, rfl⟩
    have hP := snap_read hS q hq
    rw [← hPeq] at hP
    have hQ0 := all_right (right_shelf hS.right) hq
    have hQ : allE X1.c q = 0 ∧ allL X1.c q = P := ⟨hQ0.1, by rw [hQ0.2, hXc, hC, hPeq]⟩
    have hPl : P.length ≤ 4611686018427387904 := by rw [← hQ.2]; exact Nat.le_trans (allL_len _ _) (by decide)
    clear hQ0 hXc hC hL hz hx hh hw hE hX few fewS
    replace hP := hide hP
    replace hQ := hide hQ
    replace hPl := hide hPl
    replace hPeq := hide hPeq
    obtain ⟨k0, hk0⟩ : ∃ k0 : Nat, min (ln : Int) 15 = k0 := ⟨(min (ln : Int) 15).toNat, by omega⟩
    have hmin : ∀ (ts : Array TypeId) (t : TypeId) (V : World), (Builtin.min_ ts t #[.int .i64 (ln : Int), .int .i64 15]).run Tryz.prog V = .ok (.int .i64 (k0 : Int)) V := by
      intro ts t V
      rw [Lib.run_min_ints, hk0]
    have hlc : ln ≤ lc := by rw [hl]; exact S.row.le
    have hlm : lc ≤ 9223372036854775807 := S.row.max
    have hkn : k0 ≤ ln := by omega
    clear hk0
    replace hl := hide hl
    obtain ⟨U, hU⟩ : ∃ U, U = x.up := ⟨_, rfl⟩
    rw [← hU] at c1 ⊢
    obtain ⟨sa, sn, sG, a1, n1, c1', a2, n2, c2', ra, rn, rc⟩ := p
    simp only [Pw.val] at *
    have BX := Blk.laid W [.slice sa sn sG, .slice a1 n1 c1', .slice a2 n2 c2', .bool U, .slice ra rn rc] 30 _ rfl
    have bel := newB (Below.refl W.heap.size W) (.cells #[.slice sa sn sG, .slice a1 n1 c1', .slice a2 n2 c2', .bool U, .slice ra rn rc] 30)
    have I1 := I.alloc (.cells #[.slice sa sn sG, .slice a1 n1 c1', .slice a2 n2 c2', .bool U, .slice ra rn rc] 30)
    clear hU I
    go_enter Tryz.func10, Tryz.ntmps10
    go_upto_region 1 with fail
    generalize World.alloc W _ = w1 at *
    go_wp2_with fail
    go_at_call 30
    refine (cA _).mono ?_
    rintro e w2 ⟨rfl, rfl⟩
    go_wp2_with fail
    go_at_call 30
    refine (cB _).mono ?_
    rintro e w2 ⟨rfl, rfl⟩
    have x0 := BX.cell 0
    have f0 := BX.free 0
    have x1 := BX.cell 1
    have f1 := BX.free 1
    have x2 := BX.cell 2
    have f2 := BX.free 2
    have x3 := BX.cell 3
    have f3 := BX.free 3
    have x4 := BX.cell 4
    have f4 := BX.free 4
    have xl := BX.lt
    go_wp2_with fail
    go_at_call 11
    refine (c1 _ (hg.call bel) I1).mono ?_
    rintro e w2 ⟨⟨ba, bn, bG, b1, bm1, bk1, b2, bm2, bk2, br, brn, brc⟩, rfl, I2, b⟩
    simp only [Pw.val]
    clear x0 f0 x1 f1 x2 f2 x3 f3 x4 f4 xl
    replace BX := BX.keep b BX.lt
    replace bel := belowCall bel b
    clear b I1 c1
    have x0 := BX.cell 0
    have f0 := BX.free 0
    have x1 := BX.cell 1
    have f1 := BX.free 1
    have x2 := BX.cell 2
    have f2 := BX.free 2
    have x3 := BX.cell 3
    have f3 := BX.free 3
    have x4 := BX.cell 4
    have f4 := BX.free 4
    have xl := BX.lt
    have hzX := right_shelf hS.right
    have B9 := put5r BX (.slice ba bn bG) (.slice b1 bm1 bk1) (.slice b2 bm2 bk2) (.bool X1.up) (.slice br brn brc)
    have bel9 := below5r bel (Nat.le_refl _) (.slice ba bn bG) (.slice b1 bm1 bk1) (.slice b2 bm2 bk2) (.bool X1.up) (.slice br brn brc)
    have I9 := I2.boxW hzX BX (gbPut5 (w := w2) (g := W.heap.size) (.slice ba bn bG) (.slice b1 bm1 bk1) (.slice b2 bm2 bk2) (.bool X1.up) (.slice br brn brc))
    replace B9 := hide B9
    replace bel9 := hide bel9
    replace I9 := hide I9
    replace bel := hide bel
    go_upto_region 3 with fail
    clear x0 f0 x1 f1 x2 f2 x3 f3 x4 f4 xl
    clear BX I2 bel hzX
    replace B9 := B9.out
    replace bel9 := bel9.out
    replace I9 := I9.out
    have bel := bel9
    clear bel9
    have BX := B9
    clear B9
    have I2 := I9
    clear I9
    generalize World.setCell (World.setCell (World.setCell (World.setCell (World.setCell w2 _ _) _ _) _ _) _ _) _ _ = w3 at *
    have x0 := BX.cell 0
    have f0 := BX.free 0
    have x1 := BX.cell 1
    have f1 := BX.free 1
    have x2 := BX.cell 2
    have f2 := BX.free 2
    have x3 := BX.cell 3
    have f3 := BX.free 3
    have x4 := BX.cell 4
    have f4 := BX.free 4
    have xl := BX.lt
    go_wp2_with fail
    go_at_call 13
    refine (watched_any _ (hg.call bel)).mono ?_
    rintro e w4 ⟨rfl, b⟩
    clear x0 f0 x1 f1 x2 f2 x3 f3 x4 f4 xl
    replace BX := BX.keep b BX.lt
    replace I2 := I2.call b
    replace bel := belowCall bel b
    clear b
    have x0 := BX.cell 0
    have f0 := BX.free 0
    have x1 := BX.cell 1
    have f1 := BX.free 1
    have x2 := BX.cell 2
    have f2 := BX.free 2
    have x3 := BX.cell 3
    have f3 := BX.free 3
    have x4 := BX.cell 4
    have f4 := BX.free 4
    have xl := BX.lt
    go_wp2_with fail
    go_at_call 20
    refine (k_readR (m : Int) (q : Int) 0 100001 hS.right hP.out.2 hP.out.1 (hg.call bel) I2).mono ?_
    rintro e w5 ⟨a3, n3, G3, rfl, hn3, T1, b⟩
    clear x0 f0 x1 f1 x2 f2 x3 f3 x4 f4 xl
    replace BX := BX.keep b BX.lt
    replace I2 := I2.call b
    replace bel := belowCall bel b
    clear b
    have x0 := BX.cell 0
    have f0 := BX.free 0
    have x1 := BX.cell 1
    have f1 := BX.free 1
    have x2 := BX.cell 2
    have f2 := BX.free 2
    have x3 := BX.cell 3
    have f3 := BX.free 3
    have x4 := BX.cell 4
    have f4 := BX.free 4
    have xl := BX.lt
    go_wp2_with fail
    go_at_call 35
    refine (k_all (q : Int) hQ.out.2 hQ.out.1 I2.s I2.es).mono ?_
    rintro e w6 ⟨a4, n4, G4, rfl, hn4, T2, b⟩
    replace T1 := T1.call b
    clear x0 f0 x1 f1 x2 f2 x3 f3 x4 f4 xl
    replace BX := BX.keep b BX.lt
    replace I2 := I2.call b
    replace bel := belowCall bel b
    clear b
    have x0 := BX.cell 0
    have f0 := BX.free 0
    have x1 := BX.cell 1
    have f1 := BX.free 1
    have x2 := BX.cell 2
    have f2 := BX.free 2
    have x3 := BX.cell 3
    have f3 := BX.free 3
    have x4 := BX.cell 4
    have f4 := BX.free 4
    have xl := BX.lt
    go_wp2_with fail
    go_at_call 24
    refine (k_eqP hPl.out T1 T2 hn3 hn4).mono ?_
    rintro e w7 ⟨rfl, b⟩
    clear T2 hn4
    replace T1 := T1.call b
    clear x0 f0 x1 f1 x2 f2 x3 f3 x4 f4 xl
    replace BX := BX.keep b BX.lt
    replace I2 := I2.call b
    replace bel := belowCall bel b
    clear b
    have x0 := BX.cell 0
    have f0 := BX.free 0
    have x1 := BX.cell 1
    have f1 := BX.free 1
    have x2 := BX.cell 2
    have f2 := BX.free 2
    have x3 := BX.cell 3
    have f3 := BX.free 3
    have x4 := BX.cell 4
    have f4 := BX.free 4
    have xl := BX.lt
    clear x0 f0 x1 f1 x2 f2 x3 f3 x4 f4 xl
    go_wp2_with fail
    go_loopw [68] (fun i wr => ∃ (j : Nat) (P2 : Pw) (Z : Wd), j ≤ k0 ∧ i = .int .i64 j ∧ Blk wr W.heap.size (P2.cells Z.up) 30 ∧ IsW wr P2 Z ∧ Hid (Snap Z m L) ∧ SlP wr a3 G3 P ∧ Below W.heap.size W wr) (fun i _ => k0 - (intOf i).toNat)
    case atStart => exact ⟨0, ⟨ba, bn, bG, b1, bm1, bk1, b2, bm2, bk2, br, brn, brc⟩, X1, Nat.zero_le _, rfl, BX, I2, hide hS, T1, bel⟩
    case round =>
      clear BX I2 T1 bel hP hQ
      obtain ⟨j, ⟨ca, cn, cG, d1, dm1, dk1, d2, dm2, dk2, cr, crn, crc⟩, Z, hj, rfl, BX, I2, hZ, T1, bel⟩ := hrel
      simp only [Pw.cells] at BX
      by_cases hjk : j < k0
      · have hkl : j < l.length := by have := hl.out; omega
        obtain ⟨y, hy⟩ : ∃ y, l[j]? = some y := ⟨_, List.getElem?_eq_getElem hkl⟩
        obtain ⟨lb, lo, rfl, hlb⟩ := S.row.where Lrc.four (by decide) (by intro h; subst h; simp at hkl)
        have S' := S.keep bel (Nat.le_refl _)
        have t0 := S'.row.cell Lrc.four j 0 y _ hy rfl
        have t1 := S'.row.cell Lrc.four j 1 y _ hy rfl
        have t2 := S'.row.cell Lrc.four j 2 y _ hy rfl
        have t3 := S'.row.cell Lrc.four j 3 y _ hy rfl
        simp only [Nat.add_zero] at t0
        have llb := Nat.lt_of_lt_of_le hlb bel.size
        have hent := S'.ent y (List.mem_of_getElem? hy)
        obtain ⟨en, hen⟩ : ∃ en, en = y.r.e.length := ⟨_, rfl⟩
        have cD := fun V g i s => k_right (x := Z) (p := ⟨ca, cn, cG, d1, dm1, dk1, d2, dm2, dk2, cr, crn, crc⟩) (V := V) (ea := y.a) (eC := y.c) y.r.k y.r.s y.r.n y.r.e hZ.out.right hen g i s
        have hStep := fun h h7 h9 hrd => snap_step hZ.out (x := ⟨y.r.k, y.r.s, y.r.n, y.r.e⟩) h h7 h9 hrd
        rw [← hen] at t3
        obtain ⟨⟨K, Sr, N, Y⟩, ya, yc⟩ := y
        simp only at *
        obtain ⟨HE, hHE⟩ : ∃ HE, HE = hapE Z ⟨K, Sr, N, Y⟩ := ⟨_, rfl⟩
        obtain ⟨Z2, hZ2⟩ : ∃ Z2, Z2 = hapW Z ⟨K, Sr, N, Y⟩ := ⟨_, rfl⟩
        rw [← hHE, ← hZ2] at cD
        rw [← hHE, ← hZ2] at hStep
        replace hHE := hide hHE
        replace hZ2 := hide hZ2
        replace hen := hide hen
        replace hy := hide hy
        have bc := newB (Below.refl wr.heap.size wr) (.cells #[.int .i64 K, .int .i64 Sr, .int .i64 N, .slice ya en yc] 33)
        have BC := Blk.laid wr [.int .i64 K, .int .i64 Sr, .int .i64 N, .slice ya en yc] 33 _ rfl
        replace BX := BX.keep bc BX.lt
        replace I2 := I2.call bc
        replace T1 := T1.call bc
        have hent1 := hent.call bc
        replace bel := belowCall bel bc
        clear S' hkl hent bc
        go_upto_region 12 with fail
        generalize wr.heap.size = gC at *
        generalize World.alloc wr _ = v1 at *
        clear t0 t1 t2 t3 llb
        have y0 := BC.cell 0
        have y1 := BC.cell 1
        have y2 := BC.cell 2
        have y3 := BC.cell 3
        have yl := BC.lt
        by_cases k7 : K = 7
        · subst k7
          clear cD hStep
          go_wp2_with fail
          go_roundw
          case rel => exact ⟨j + 1, ⟨ca, cn, cG, d1, dm1, dk1, d2, dm2, dk2, cr, crn, crc⟩, Z, Nat.succ_le_of_lt hjk, by go_num, BX, I2, hZ, T1, bel⟩
          case measure =>
            have := Nat.sub_lt_sub_left hjk (Nat.lt_succ_self j)
            simpa [intOf] using this
        have d7 : (K == 7) = false := by simp [k7]
        by_cases k9 : K = 9
        · subst k9
          clear cD hStep
          go_wp2_with fail
          go_roundw
          case rel => exact ⟨j + 1, ⟨ca, cn, cG, d1, dm1, dk1, d2, dm2, dk2, cr, crn, crc⟩, Z, Nat.succ_le_of_lt hjk, by go_num, BX, I2, hZ, T1, bel⟩
          case measure =>
            have := Nat.sub_lt_sub_left hjk (Nat.lt_succ_self j)
            simpa [intOf] using this
        have d9 : (K == 9) = false := by simp [k9]
        by_cases k5 : K = 5
        · subst k5
          by_cases hN : N = (m : Int)
          · subst hN
            clear cD hStep
            go_wp2_with fail
            go_roundw
            case rel => exact ⟨j + 1, ⟨ca, cn, cG, d1, dm1, dk1, d2, dm2, dk2, cr, crn, crc⟩, Z, Nat.succ_le_of_lt hjk, by go_num, BX, I2, hZ, T1, bel⟩
            case measure =>
              have := Nat.sub_lt_sub_left hjk (Nat.lt_succ_self j)
              simpa [intOf] using this
          · have dN : (N == (m : Int)) = false := by simp [hN]
            have h7 : (5 : Int) ≠ 7 := by decide
            have h9 : (5 : Int) ≠ 9 := by decide
            have hrd : ¬ (((5 : Int) = 5 ∨ (5 : Int) = 6) ∧ N = (m : Int)) := fun h => hN h.2
            replace hStep := fun h => hStep h h7 h9 hrd
            clear h7 h9 hrd
            have x0 := BX.cell 0
            have x1 := BX.cell 1
            have x2 := BX.cell 2
            have x3 := BX.cell 3
            have x4 := BX.cell 4
            have xl := BX.lt
            go_wp2_with fail
            go_at_call 11
            refine (cD _ (hg.call bel) I2 hent1).mono ?_
            rintro e v2 ⟨⟨ea, un, uG, e1, um1, uk1, e2, um2, uk2, er, urn, urc⟩, rfl, I3, b0⟩
            simp only [Pw.val]
            have b := newB b0 (.cells #[.slice ea un uG, .slice e1 um1 uk1, .slice e2 um2 uk2, .bool Z2.up, .slice er urn urc] 30)
            have BY := Blk.laid v2 [.slice ea un uG, .slice e1 um1 uk1, .slice e2 um2 uk2, .bool Z2.up, .slice er urn urc] 30 _ rfl
            replace I3 := I3.alloc (.cells #[.slice ea un uG, .slice e1 um1 uk1, .slice e2 um2 uk2, .bool Z2.up, .slice er urn urc] 30)
            have nn : ¬ W.heap.size = v2.heap.size := by
              have := BX.lt
              have := b0.size
              omega
            clear x0 x1 x2 x3 x4 xl y0 y1 y2 y3 yl b0 BC hent1 cD
            replace BX := BX.keep b BX.lt
            replace I2 := I2.call b
            replace T1 := T1.call b
            replace bel := belowCall bel b
            clear b
            go_upto_region 14 with fail
            have nn2 : ¬ v2.heap.size = W.heap.size := fun e => nn e.symm
            generalize v2.heap.size = gY at *
            generalize World.alloc v2 _ = v3 at *
            by_cases hz : HE = 0
            · subst hz
              have hS2 := hStep rfl
              obtain ⟨rE, rL⟩ := snap_read hS2 q hq
              rw [← hPeq.out] at rL
              have hzX := right_shelf hS2.right
              have B9 := put5r BX (.slice ea un uG) (.slice e1 um1 uk1) (.slice e2 um2 uk2) (.bool Z2.up) (.slice er urn urc)
              have bel9 := below5r bel (Nat.le_refl _) (.slice ea un uG) (.slice e1 um1 uk1) (.slice e2 um2 uk2) (.bool Z2.up) (.slice er urn urc)
              have I9 := I3.boxW hzX BX (gbPut5 (w := v3) (g := W.heap.size) (.slice ea un uG) (.slice e1 um1 uk1) (.slice e2 um2 uk2) (.bool Z2.up) (.slice er urn urc))
              have T9 := slP_off T1 BX (by simp) (gbPut5 (w := v3) (g := W.heap.size) (.slice ea un uG) (.slice e1 um1 uk1) (.slice e2 um2 uk2) (.bool Z2.up) (.slice er urn urc))
              replace hS2 := hide hS2
              replace rE := hide rE
              replace rL := hide rL
              replace B9 := hide B9
              replace bel9 := hide bel9
              replace I9 := hide I9
              replace T9 := hide T9
              replace bel := hide bel
              replace T1 := hide T1
              have z0 := BY.cell 0
              have z1 := BY.cell 1
              have z2 := BY.cell 2
              have z3 := BY.cell 3
              have z4 := BY.cell 4
              have zl := BY.lt
              have x0 := BX.cell 0
              have f0 := BX.free 0
              have x1 := BX.cell 1
              have f1 := BX.free 1
              have x2 := BX.cell 2
              have f2 := BX.free 2
              have x3 := BX.cell 3
              have f3 := BX.free 3
              have x4 := BX.cell 4
              have f4 := BX.free 4
              have xl := BX.lt
              clear hStep hZ I2 I3 BY hzX
              go_upto_region 16 with fail
              clear x0 f0 x1 f1 x2 f2 x3 f3 x4 f4 xl
              clear z0 z1 z2 z3 z4 zl BX bel T1
              replace B9 := B9.out
              replace bel9 := bel9.out
              replace I9 := I9.out
              replace T9 := T9.out
              have bel := bel9
              clear bel9
              have BX := B9
              clear B9
              have I2 := I9
              clear I9
              have T1 := T9
              clear T9
              generalize World.setCell (World.setCell (World.setCell (World.setCell (World.setCell v3 _ _) _ _) _ _) _ _) _ _ = v4 at *
              have x0 := BX.cell 0
              have x1 := BX.cell 1
              have x2 := BX.cell 2
              have x3 := BX.cell 3
              have x4 := BX.cell 4
              have xl := BX.lt
              go_wp2_with fail
              go_at_call 20
              refine (k_readR (m : Int) (q : Int) 0 100001 hS2.out.right rL.out rE.out (hg.call bel) I2).mono ?_
              rintro e v5 ⟨a5, n5, G5, rfl, hn5, T3, b⟩
              clear x0 x1 x2 x3 x4 xl
              replace BX := BX.keep b BX.lt
              replace I2 := I2.call b
              replace T1 := T1.call b
              replace bel := belowCall bel b
              clear b
              go_wp2_with fail
              go_at_call 24
              refine (k_eqP hPl.out T3 T1 hn5 hn3).mono ?_
              rintro e v6 ⟨rfl, b⟩
              replace BX := BX.keep b BX.lt
              replace I2 := I2.call b
              replace T1 := T1.call b
              replace bel := belowCall bel b
              clear b T3 hn5
              go_wp2_with fail
              go_roundw
              case rel => exact ⟨j + 1, ⟨ea, un, uG, e1, um1, uk1, e2, um2, uk2, er, urn, urc⟩, Z2, Nat.succ_le_of_lt hjk, by go_num, BX, I2, hS2, T1, bel⟩
              case measure =>
                have := Nat.sub_lt_sub_left hjk (Nat.lt_succ_self j)
                simpa [intOf] using this
            · have hd : decide (HE = 0) = false := decide_eq_false hz
              clear hStep I3 BY
              go_wp2_with fail
              go_roundw
              case rel => exact ⟨j + 1, ⟨ca, cn, cG, d1, dm1, dk1, d2, dm2, dk2, cr, crn, crc⟩, Z, Nat.succ_le_of_lt hjk, by go_num, BX, I2, hZ, T1, bel⟩
              case measure =>
                have := Nat.sub_lt_sub_left hjk (Nat.lt_succ_self j)
                simpa [intOf] using this
        have d5 : (K == 5) = false := by simp [k5]
        by_cases k6 : K = 6
        · subst k6
          by_cases hN : N = (m : Int)
          · subst hN
            clear cD hStep
            go_wp2_with fail
            go_roundw
            case rel => exact ⟨j + 1, ⟨ca, cn, cG, d1, dm1, dk1, d2, dm2, dk2, cr, crn, crc⟩, Z, Nat.succ_le_of_lt hjk, by go_num, BX, I2, hZ, T1, bel⟩
            case measure =>
              have := Nat.sub_lt_sub_left hjk (Nat.lt_succ_self j)
              simpa [intOf] using this
          · have dN : (N == (m : Int)) = false := by simp [hN]
            have h7 : (6 : Int) ≠ 7 := by decide
            have h9 : (6 : Int) ≠ 9 := by decide
            have hrd : ¬ (((6 : Int) = 5 ∨ (6 : Int) = 6) ∧ N = (m : Int)) := fun h => hN h.2
            replace hStep := fun h => hStep h h7 h9 hrd
            clear h7 h9 hrd
            have x0 := BX.cell 0
            have x1 := BX.cell 1
            have x2 := BX.cell 2
            have x3 := BX.cell 3
            have x4 := BX.cell 4
            have xl := BX.lt
            go_wp2_with fail
            go_at_call 11
            refine (cD _ (hg.call bel) I2 hent1).mono ?_
            rintro e v2 ⟨⟨ea, un, uG, e1, um1, uk1, e2, um2, uk2, er, urn, urc⟩, rfl, I3, b0⟩
            simp only [Pw.val]
            have b := newB b0 (.cells #[.slice ea un uG, .slice e1 um1 uk1, .slice e2 um2 uk2, .bool Z2.up, .slice er urn urc] 30)
            have BY := Blk.laid v2 [.slice ea un uG, .slice e1 um1 uk1, .slice e2 um2 uk2, .bool Z2.up, .slice er urn urc] 30 _ rfl
            replace I3 := I3.alloc (.cells #[.slice ea un uG, .slice e1 um1 uk1, .slice e2 um2 uk2, .bool Z2.up, .slice er urn urc] 30)
            have nn : ¬ W.heap.size = v2.heap.size := by
              have := BX.lt
              have := b0.size
              omega
            clear x0 x1 x2 x3 x4 xl y0 y1 y2 y3 yl b0 BC hent1 cD
            replace BX := BX.keep b BX.lt
            replace I2 := I2.call b
            replace T1 := T1.call b
            replace bel := belowCall bel b
            clear b
            go_upto_region 14 with fail
            have nn2 : ¬ v2.heap.size = W.heap.size := fun e => nn e.symm
            generalize v2.heap.size = gY at *
            generalize World.alloc v2 _ = v3 at *
            by_cases hz : HE = 0
            · subst hz
              have hS2 := hStep rfl
              obtain ⟨rE, rL⟩ := snap_read hS2 q hq
              rw [← hPeq.out] at rL
              have hzX := right_shelf hS2.right
              have B9 := put5r BX (.slice ea un uG) (.slice e1 um1 uk1) (.slice e2 um2 uk2) (.bool Z2.up) (.slice er urn urc)
              have bel9 := below5r bel (Nat.le_refl _) (.slice ea un uG) (.slice e1 um1 uk1) (.slice e2 um2 uk2) (.bool Z2.up) (.slice er urn urc)
              have I9 := I3.boxW hzX BX (gbPut5 (w := v3) (g := W.heap.size) (.slice ea un uG) (.slice e1 um1 uk1) (.slice e2 um2 uk2) (.bool Z2.up) (.slice er urn urc))
              have T9 := slP_off T1 BX (by simp) (gbPut5 (w := v3) (g := W.heap.size) (.slice ea un uG) (.slice e1 um1 uk1) (.slice e2 um2 uk2) (.bool Z2.up) (.slice er urn urc))
              replace hS2 := hide hS2
              replace rE := hide rE
              replace rL := hide rL
              replace B9 := hide B9
              replace bel9 := hide bel9
              replace I9 := hide I9
              replace T9 := hide T9
              replace bel := hide bel
              replace T1 := hide T1
              have z0 := BY.cell 0
              have z1 := BY.cell 1
              have z2 := BY.cell 2
              have z3 := BY.cell 3
              have z4 := BY.cell 4
              have zl := BY.lt
              have x0 := BX.cell 0
              have f0 := BX.free 0
              have x1 := BX.cell 1
              have f1 := BX.free 1
              have x2 := BX.cell 2
              have f2 := BX.free 2
              have x3 := BX.cell 3
              have f3 := BX.free 3
              have x4 := BX.cell 4
              have f4 := BX.free 4
              have xl := BX.lt
              clear hStep hZ I2 I3 BY hzX
              go_upto_region 16 with fail
              clear x0 f0 x1 f1 x2 f2 x3 f3 x4 f4 xl
              clear z0 z1 z2 z3 z4 zl BX bel T1
              replace B9 := B9.out
              replace bel9 := bel9.out
              replace I9 := I9.out
              replace T9 := T9.out
              have bel := bel9
              clear bel9
              have BX := B9
              clear B9
              have I2 := I9
              clear I9
              have T1 := T9
              clear T9
              generalize World.setCell (World.setCell (World.setCell (World.setCell (World.setCell v3 _ _) _ _) _ _) _ _) _ _ = v4 at *
              have x0 := BX.cell 0
              have x1 := BX.cell 1
              have x2 := BX.cell 2
              have x3 := BX.cell 3
              have x4 := BX.cell 4
              have xl := BX.lt
              go_wp2_with fail
              go_at_call 20
              refine (k_readR (m : Int) (q : Int) 0 100001 hS2.out.right rL.out rE.out (hg.call bel) I2).mono ?_
              rintro e v5 ⟨a5, n5, G5, rfl, hn5, T3, b⟩
              clear x0 x1 x2 x3 x4 xl
              replace BX := BX.keep b BX.lt
              replace I2 := I2.call b
              replace T1 := T1.call b
              replace bel := belowCall bel b
              clear b
              go_wp2_with fail
              go_at_call 24
              refine (k_eqP hPl.out T3 T1 hn5 hn3).mono ?_
              rintro e v6 ⟨rfl, b⟩
              replace BX := BX.keep b BX.lt
              replace I2 := I2.call b
              replace T1 := T1.call b
              replace bel := belowCall bel b
              clear b T3 hn5
              go_wp2_with fail
              go_roundw
              case rel => exact ⟨j + 1, ⟨ea, un, uG, e1, um1, uk1, e2, um2, uk2, er, urn, urc⟩, Z2, Nat.succ_le_of_lt hjk, by go_num, BX, I2, hS2, T1, bel⟩
              case measure =>
                have := Nat.sub_lt_sub_left hjk (Nat.lt_succ_self j)
                simpa [intOf] using this
            · have hd : decide (HE = 0) = false := decide_eq_false hz
              clear hStep I3 BY
              go_wp2_with fail
              go_roundw
              case rel => exact ⟨j + 1, ⟨ca, cn, cG, d1, dm1, dk1, d2, dm2, dk2, cr, crn, crc⟩, Z, Nat.succ_le_of_lt hjk, by go_num, BX, I2, hZ, T1, bel⟩
              case measure =>
                have := Nat.sub_lt_sub_left hjk (Nat.lt_succ_self j)
                simpa [intOf] using this
        have d6 : (K == 6) = false := by simp [k6]
        have h7 : K ≠ 7 := k7
        have h9 : K ≠ 9 := k9
        have hrd : ¬ ((K = 5 ∨ K = 6) ∧ N = (m : Int)) := fun h => h.1.elim k5 k6
        replace hStep := fun h => hStep h h7 h9 hrd
        clear h7 h9 hrd
        have x0 := BX.cell 0
        have x1 := BX.cell 1
        have x2 := BX.cell 2
        have x3 := BX.cell 3
        have x4 := BX.cell 4
        have xl := BX.lt
        go_wp2_with fail
        go_at_call 11
        refine (cD _ (hg.call bel) I2 hent1).mono ?_
        rintro e v2 ⟨⟨ea, un, uG, e1, um1, uk1, e2, um2, uk2, er, urn, urc⟩, rfl, I3, b0⟩
        simp only [Pw.val]
        have b := newB b0 (.cells #[.slice ea un uG, .slice e1 um1 uk1, .slice e2 um2 uk2, .bool Z2.up, .slice er urn urc] 30)
        have BY := Blk.laid v2 [.slice ea un uG, .slice e1 um1 uk1, .slice e2 um2 uk2, .bool Z2.up, .slice er urn urc] 30 _ rfl
        replace I3 := I3.alloc (.cells #[.slice ea un uG, .slice e1 um1 uk1, .slice e2 um2 uk2, .bool Z2.up, .slice er urn urc] 30)
        have nn : ¬ W.heap.size = v2.heap.size := by
          have := BX.lt
          have := b0.size
          omega
        clear x0 x1 x2 x3 x4 xl y0 y1 y2 y3 yl b0 BC hent1 cD
        replace BX := BX.keep b BX.lt
        replace I2 := I2.call b
        replace T1 := T1.call b
        replace bel := belowCall bel b
        clear b
        go_upto_region 14 with fail
        have nn2 : ¬ v2.heap.size = W.heap.size := fun e => nn e.symm
        generalize v2.heap.size = gY at *
        generalize World.alloc v2 _ = v3 at *
        by_cases hz : HE = 0
        · subst hz
          have hS2 := hStep rfl
          obtain ⟨rE, rL⟩ := snap_read hS2 q hq
          rw [← hPeq.out] at rL
          have hzX := right_shelf hS2.right
          have B9 := put5r BX (.slice ea un uG) (.slice e1 um1 uk1) (.slice e2 um2 uk2) (.bool Z2.up) (.slice er urn urc)
          have bel9 := below5r bel (Nat.le_refl _) (.slice ea un uG) (.slice e1 um1 uk1) (.slice e2 um2 uk2) (.bool Z2.up) (.slice er urn urc)
          have I9 := I3.boxW hzX BX (gbPut5 (w := v3) (g := W.heap.size) (.slice ea un uG) (.slice e1 um1 uk1) (.slice e2 um2 uk2) (.bool Z2.up) (.slice er urn urc))
          have T9 := slP_off T1 BX (by simp) (gbPut5 (w := v3) (g := W.heap.size) (.slice ea un uG) (.slice e1 um1 uk1) (.slice e2 um2 uk2) (.bool Z2.up) (.slice er urn urc))
          replace hS2 := hide hS2
          replace rE := hide rE
          replace rL := hide rL
          replace B9 := hide B9
          replace bel9 := hide bel9
          replace I9 := hide I9
          replace T9 := hide T9
          replace bel := hide bel
          replace T1 := hide T1
          have z0 := BY.cell 0
          have z1 := BY.cell 1
          have z2 := BY.cell 2
          have z3 := BY.cell 3
          have z4 := BY.cell 4
          have zl := BY.lt
          have x0 := BX.cell 0
          have f0 := BX.free 0
          have x1 := BX.cell 1
          have f1 := BX.free 1
          have x2 := BX.cell 2
          have f2 := BX.free 2
          have x3 := BX.cell 3
          have f3 := BX.free 3
          have x4 := BX.cell 4
          have f4 := BX.free 4
          have xl := BX.lt
          clear hStep hZ I2 I3 BY hzX
          go_upto_region 16 with fail
          clear x0 f0 x1 f1 x2 f2 x3 f3 x4 f4 xl
          clear z0 z1 z2 z3 z4 zl BX bel T1
          replace B9 := B9.out
          replace bel9 := bel9.out
          replace I9 := I9.out
          replace T9 := T9.out
          have bel := bel9
          clear bel9
          have BX := B9
          clear B9
          have I2 := I9
          clear I9
          have T1 := T9
          clear T9
          generalize World.setCell (World.setCell (World.setCell (World.setCell (World.setCell v3 _ _) _ _) _ _) _ _) _ _ = v4 at *
          have x0 := BX.cell 0
          have x1 := BX.cell 1
          have x2 := BX.cell 2
          have x3 := BX.cell 3
          have x4 := BX.cell 4
          have xl := BX.lt
          go_wp2_with fail
          go_at_call 20
          refine (k_readR (m : Int) (q : Int) 0 100001 hS2.out.right rL.out rE.out (hg.call bel) I2).mono ?_
          rintro e v5 ⟨a5, n5, G5, rfl, hn5, T3, b⟩
          clear x0 x1 x2 x3 x4 xl
          replace BX := BX.keep b BX.lt
          replace I2 := I2.call b
          replace T1 := T1.call b
          replace bel := belowCall bel b
          clear b
          go_wp2_with fail
          go_at_call 24
          refine (k_eqP hPl.out T3 T1 hn5 hn3).mono ?_
          rintro e v6 ⟨rfl, b⟩
          replace BX := BX.keep b BX.lt
          replace I2 := I2.call b
          replace T1 := T1.call b
          replace bel := belowCall bel b
          clear b T3 hn5
          go_wp2_with fail
          go_roundw
          case rel => exact ⟨j + 1, ⟨ea, un, uG, e1, um1, uk1, e2, um2, uk2, er, urn, urc⟩, Z2, Nat.succ_le_of_lt hjk, by go_num, BX, I2, hS2, T1, bel⟩
          case measure =>
            have := Nat.sub_lt_sub_left hjk (Nat.lt_succ_self j)
            simpa [intOf] using this
        · have hd : decide (HE = 0) = false := decide_eq_false hz
          clear hStep I3 BY
          go_wp2_with fail
          go_roundw
          case rel => exact ⟨j + 1, ⟨ca, cn, cG, d1, dm1, dk1, d2, dm2, dk2, cr, crn, crc⟩, Z, Nat.succ_le_of_lt hjk, by go_num, BX, I2, hZ, T1, bel⟩
          case measure =>
            have := Nat.sub_lt_sub_left hjk (Nat.lt_succ_self j)
            simpa [intOf] using this
      · obtain rfl : j = k0 := Nat.le_antisymm hj (Nat.le_of_not_lt hjk)
        go_wp2_with fail
        go_ret
        exact ⟨rfl, bel⟩
  · have hd : decide (E = 0) = false := decide_eq_false hz
    clear hE hX few fewS
    obtain ⟨U, hU⟩ : ∃ U, U = x.up := ⟨_, rfl⟩
    rw [← hU] at c1 ⊢
    obtain ⟨sa, sn, sG, a1, n1, c1', a2, n2, c2', ra, rn, rc⟩ := p
    simp only [Pw.val] at *
    have BX := Blk.laid W [.slice sa sn sG, .slice a1 n1 c1', .slice a2 n2 c2', .bool U, .slice ra rn rc] 30 _ rfl
    have bel := newB (Below.refl W.heap.size W) (.cells #[.slice sa sn sG, .slice a1 n1 c1', .slice a2 n2 c2', .bool U, .slice ra rn rc] 30)
    have I1 := I.alloc (.cells #[.slice sa sn sG, .slice a1 n1 c1', .slice a2 n2 c2', .bool U, .slice ra rn rc] 30)
    clear hU I
    go_enter Tryz.func10, Tryz.ntmps10
    go_upto_region 1 with fail
    generalize World.alloc W _ = w1 at *
    go_wp2_with fail
    go_at_call 30
    refine (cA _).mono ?_
    rintro e w2 ⟨rfl, rfl⟩
    go_wp2_with fail
    go_at_call 30
    refine (cB _).mono ?_
    rintro e w2 ⟨rfl, rfl⟩
    have x0 := BX.cell 0
    have f0 := BX.free 0
    have x1 := BX.cell 1
    have f1 := BX.free 1
    have x2 := BX.cell 2
    have f2 := BX.free 2
    have x3 := BX.cell 3
    have f3 := BX.free 3
    have x4 := BX.cell 4
    have f4 := BX.free 4
    have xl := BX.lt
    go_wp2_with fail
    go_at_call 11
    refine (c1 _ (hg.call bel) I1).mono ?_
    rintro e w2 ⟨⟨ba, bn, bG, b1, bm1, bk1, b2, bm2, bk2, br, brn, brc⟩, rfl, I2, b⟩
    simp only [Pw.val]
    clear x0 f0 x1 f1 x2 f2 x3 f3 x4 f4 xl
    replace BX := BX.keep b BX.lt
    replace bel := belowCall bel b
    clear b I1 c1
    have x0 := BX.cell 0
    have f0 := BX.free 0
    have x1 := BX.cell 1
    have f1 := BX.free 1
    have x2 := BX.cell 2
    have f2 := BX.free 2
    have x3 := BX.cell 3
    have f3 := BX.free 3
    have x4 := BX.cell 4
    have f4 := BX.free 4
    have xl := BX.lt
    have bel9 := below5r bel (Nat.le_refl _) (.slice ba bn bG) (.slice b1 bm1 bk1) (.slice b2 bm2 bk2) (.bool X1.up) (.slice br brn brc)
    replace bel := hide bel
    go_upto_region 3 with fail
    clear x0 f0 x1 f1 x2 f2 x3 f3 x4 f4 xl
    clear BX I2 bel
    have bel := bel9
    clear bel9
    generalize World.setCell (World.setCell (World.setCell (World.setCell (World.setCell w2 _ _) _ _) _ _) _ _) _ _ = w3 at *
    go_wp2_with fail
    go_at_call 13
    refine (watched_any _ (hg.call bel)).mono ?_
    rintro e w4 ⟨rfl, b⟩
    replace bel := belowCall bel b
    clear b
    go_wp2_with fail
    go_at_call 13
    refine (watched_any _ (hg.call bel)).mono ?_
    rintro e w5 ⟨rfl, b⟩
    go_wp2_with fail
    go_ret
    exact ⟨rfl, belowCall bel b⟩

end Go.Proofs.YtjjfgmcgonkicaaGreatDoor

/-
  Proved: for any world, any list of happenings, any number, any number, WorldSnap returns true and leaves its arguments as they were: what a reader sees doesn't change, whatever happens, till it is closed, opened anew, or the power goes; just opened it sees what is there. Conditions: the listed variables of Go's library start as the program's text lays them (tied by the card).
-/
namespace Go.Proofs.YtjjfgmcgonkicaaGreatDoor.worldSnap
open Go.ChangeShapes Go.WideShapes Go.ChangeAt Go.RowKit Go.ChangeMaps
set_option linter.unusedVariables false

def laidL : List (String × DataW Unit) := Rows.worldSnapRow.laid

set_option maxRecDepth 100000 in
theorem lifted (os : Os) (started : os.Started) (H : Type) (enc : TypeId × Value → H) :
    ReturnsInHanded {} Tryz.checked os 10 .any (fun w args => (Rows.worldSnapSpec.pre enc Tryz.prog Tryz.f10 [] false w args ∧ laidMetH Tryz.prog laidL w) ∧ sizedMet enc Tryz.prog Tryz.f10 (OpenSpec.ofChange Rows.worldSnapSpec) false w args)
      (Rows.worldSnapSpec.post enc Tryz.prog Tryz.f10 false true false false) := by
  refine returns_both (C := Tryz.checked) (X := fun w _ => laidMetH Tryz.prog laidL w) (fun _ _ _ hh h => h.of_heap hh) own started (by kernel_rfl) Tryz.func10
    (ChangeSpec.witness_shaped (enc := enc) (C := Tryz.checked) (os := os) (X := fun w _ => laidMetH Tryz.prog laidL w) false (World.laidAll Tryz.prog os laidL) #[.agg #[.slice none 0 0, .slice none 0 0, .slice none 0 0, .bool false, .slice none 0 0], .slice none 0 0, .int .i64 0, .int .i64 0] 8 (World.laidAll_os _ _ _)
      (World.shaped_of_ZipB (by kernel_rfl) (by kernel_rfl)) (by kernel_rfl) (by kernel_rfl) (by kernel_rfl)
      (by rw [MakeChecks.laidMetH_plain _ _ _ (by kernel_rfl)]; exact laidMet_laidAll _ (by kernel_rfl) (by kernel_rfl))) ?_
  intro W base args ds gs before hval0 hW hsz0 hL hsh
  have hsz : (DataW.weightsEach Tryz.prog (Tryz.f10.params.toList ++ Rows.worldSnapSpec.plain.varTypes Tryz.prog) (ds ++ gs)).all (· ≤ reachBytes) = true := hsz0
  have hval : ∀ (j : Nat) t v, Tryz.f10.params[j]? = some t → args[j]? = some v → Value.okWide Tryz.prog W .any base t v := hval0
  have hW' := hW
  obtain ⟨p, q, hA0, hV, rfl, hfz, hnd⟩ := hW
  have hA : DataW.TrodAll enc Tryz.prog W 0 (fun _ => true) true Tryz.f10.params.toList args.toList ds p := hA0
  rw [Tryz.params10] at hA hval hsz
  obtain ⟨v0, vs0, d0, ds0, p0, q0, hargs, rfl, rfl, h0, r0⟩ := trodAll_cons hA
  obtain ⟨v1, vs1, d1, ds1, p1, q1, rfl, rfl, rfl, h1, r1⟩ := trodAll_cons r0
  obtain ⟨v2, vs2, d2, ds2, p2, q2, rfl, rfl, rfl, h2, r2⟩ := trodAll_cons r1
  obtain ⟨v3, vs3, d3, ds3, p3, q3, rfl, rfl, rfl, h3, r3⟩ := trodAll_cons r2
  obtain ⟨rfl, rfl, rfl⟩ := trodAll_nil r3
  obtain rfl : args = #[v0, v1, v2, v3] := by cases args; simp_all
  obtain ⟨rfl, rfl⟩ := trodVars_none hV
  have k0 := h0
  have lt0 : ∀ x ∈ p0, x.block < W.heap.size := by obtain ⟨m, hm⟩ := k0; exact DataW.trod_lt m _ _ _ hm
  obtain ⟨x0, q0, rfl, I0, few0, fewS0, fewR0⟩ := open_world (hval 0 30 v0 rfl rfl) h0 (rec_light (j := 0) hsz rfl rfl)
  have k1 := h1
  have lt1 : ∀ x ∈ p1, x.block < W.heap.size := by obtain ⟨m, hm⟩ := k1; exact DataW.trod_lt m _ _ _ hm
  obtain ⟨a1, len1, cap1, rfl⟩ := okWide_slice Tryz.underlying68 (hval 1 68 v1 rfl rfl)
  obtain ⟨l1, hl1, s1, _⟩ := open_haps h1 (rec_light (j := 1) hsz rfl rfl)
  obtain ⟨a2, rfl, rfl, rfl, w2⟩ := open_int Tryz.underlying3 (hval 2 3 v2 rfl rfl) h2
  obtain ⟨a3, rfl, rfl, rfl, w3⟩ := open_int Tryz.underlying3 (hval 3 3 v3 rfl rfl) h3
  rw [MakeChecks.laidMetH_plain _ _ _ (by kernel_rfl)] at hL
  have g := glob_of hL hsh
  refine (snap_walk W g x0 q0 I0 few0 fewS0 fewR0 l1 a1 cap1 len1 s1 hl1.symm a2 w2 a3 w3).mono fun e W' ⟨he, bel⟩ => ?_
  subst he
  exact ⟨_, rfl, _, _, _, [], _, [], hW', trodAll_mk1 (shut_bool Tryz.underlying4 _), (trodAll_cons_mk (Below.trod laidOut (by kernel_rfl) (of_decide_eq_true (by kernel_rfl)) k0 bel lt0) (trodAll_cons_mk (Below.trod laidOut (by kernel_rfl) (of_decide_eq_true (by kernel_rfl)) k1 bel lt1) (trodAll_cons_mk (shut_int Tryz.underlying3 w2) (trodAll_cons_mk (shut_int Tryz.underlying3 w3) trodAll_mk0)))), rfl, bel.frame _, fun h => by cases h⟩

theorem row_holds : Rows.WorldSnapSaid :=
  OpenClaim.holds_of_wide 10 Tryz.f10 rfl rfl rfl rfl rfl rfl rfl ⟨rfl, rfl, rfl, rfl, rfl⟩ rfl rfl rfl rfl rfl (by kernel_rfl) Tryz.func10 (by kernel_rfl)
    (of_decide_eq_true (by kernel_rfl)) (by unfold Func.isWrapper; first | (rw [if_pos (by decide +kernel)]; kernel_rfl) | (rw [if_neg (by decide +kernel)]; exact ⟨rfl, rfl⟩))
    (fun os started H enc _ => lifted os started H enc)
end Go.Proofs.YtjjfgmcgonkicaaGreatDoor.worldSnap
