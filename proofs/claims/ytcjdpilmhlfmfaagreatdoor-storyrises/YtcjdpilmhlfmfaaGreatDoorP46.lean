/-
  A script that is played: StoryRises.
-/
import Derived.Deep.RegionHeld3
import Derived.Test.YtcjdpilmhlfmfaaGreatDoorRows
import Derived.Test.YtcjdpilmhlfmfaaGreatDoorCards
import Derived.Test.YtcjdpilmhlfmfaaGreatDoorTie
import Derived.ProofKit
import Derived.ChangeMaps5
import Derived.LaidMore
import Derived.Stop.Joined
import Derived.SevenTiedAt
import Derived.Test.YtcjdpilmhlfmfaaGreatDoorP40
import Derived.Test.YtcjdpilmhlfmfaaGreatDoorP41
import Derived.Test.YtcjdpilmhlfmfaaGreatDoorP43
import Derived.Test.YtcjdpilmhlfmfaaGreatDoorP02
import Derived.Test.YtcjdpilmhlfmfaaGreatDoorP01
import Derived.Test.YtcjdpilmhlfmfaaGreatDoorP35
import Derived.Test.YtcjdpilmhlfmfaaGreatDoorP39
namespace Go.Proofs.YtcjdpilmhlfmfaaGreatDoor
open Go.RowKit
open Go.Lib (byteCells)
set_option linter.unusedVariables false

set_option maxHeartbeats 8000000 in
set_option maxRecDepth 100000 in
theorem played_StoryRises (b1 : Nat) (Q : Nat → Prop) (Inv : World → Wd → Prop) (W0 W : World) (hg : Gl W0) (bel : Below W0.heap.size W0 W) (l : List Lrc) (la : Option Addr) (lc ln : Nat) (S : SlRec W0 la lc l) (hl : ln = l.length)
    (hQ : ∀ q, Q q → W0.heap.size ≤ q ∧ q < W.heap.size) (hInv : ∀ V V' x, Inv V x → W.heap.size ≤ V.heap.size → Below V.heap.size V V' → Inv V' x) (hInv2 : ∀ V V' x g (a1 a2 a3 a4 : Option Addr) (n1 n2 n3 n4 c1 c2 c3 c4 : Nat) (u : Bool), Inv V x → W.heap.size ≤ g → Blk V g [.slice a1 n1 c1, .slice a2 n2 c2, .slice a3 n3 c3, .bool u, .slice a4 n4 c4] 30 → V.grownBy V' (some g) → Inv V' x) (h0 : Inv W wdNew)
    (hstep : ∀ (x z : Wd) (p : Pw) (V : World), JW x → JW z → (∃ M, recL z.d = recL x.d ++ M) → Below W0.heap.size W0 V → W.heap.size ≤ V.heap.size → IsW V p z → Inv V x → Calls Tryz.prog 23 #[p.val z.up, .pointer (some ⟨b1, 0, none⟩)] V fun e V' => e = .returned (.bool true) ∧ Inv V' z ∧ IsW V' p z ∧ Gq Q V V') :
    Calls Tryz.prog 18 #[.slice la ln lc, .func (.func 23) #[] #[.pointer (some ⟨b1, 0, none⟩)]] W fun e W' => e = .returned (.bool true) ∧ Below W0.heap.size W0 W' := by
  obtain ⟨k0, hk0⟩ : ∃ k0 : Nat, min (ln : Int) 60 = k0 := ⟨(min (ln : Int) 60).toNat, by omega⟩
  have hmin : ∀ (ts : Array TypeId) (t : TypeId) (V : World), (Builtin.min_ ts t #[.int .i64 (ln : Int), .int .i64 60]).run Tryz.prog V = .ok (.int .i64 (k0 : Int)) V := by
    intro ts t V
    rw [Lib.run_min_ints, hk0]
  have hlc : ln ≤ lc := by rw [hl]; exact S.row.le
  have hlm : lc ≤ 9223372036854775807 := S.row.max
  have hkn : k0 ≤ ln := by omega
  clear hk0
  replace hl := hide hl
  have hWs := bel.size
  go_enter Tryz.func18, Tryz.ntmps18
  go_wp2_with fail
  go_at_call 33
  refine (newW_any _).mono ?_
  rintro e w2 ⟨⟨ba, bn, bG, c1, bm1, bk1, c2, bm2, bk2, br, brn, brc⟩, rfl, I2, b0⟩
  simp only [Pw.val]
  have b := newB b0 (.cells #[.slice ba bn bG, .slice c1 bm1 bk1, .slice c2 bm2 bk2, .bool true, .slice br brn brc] 30)
  have BX := Blk.laid w2 [.slice ba bn bG, .slice c1 bm1 bk1, .slice c2 bm2 bk2, .bool true, .slice br brn brc] 30 _ rfl
  replace I2 := I2.alloc (.cells #[.slice ba bn bG, .slice c1 bm1 bk1, .slice c2 bm2 bk2, .bool true, .slice br brn brc] 30)
  have inv := hInv _ _ _ h0 (Nat.le_refl _) b
  have hWX : W.heap.size ≤ w2.heap.size := b0.size
  have hWw := b.size
  replace bel := belowCall bel b
  clear b b0 h0
  go_upto_region 2 with fail
  generalize w2.heap.size = gX at *
  generalize World.alloc w2 _ = w3 at *
  have hQX : ¬ Q gX := fun h => by have := (hQ gX h).2; omega
  go_wp2_with fail
  go_loopw [17] (fun i wr => ∃ (j : Nat) (P2 : Pw) (Z : Wd), j ≤ k0 ∧ i = .int .i64 j ∧ Blk wr gX (P2.cells Z.up) 30 ∧ IsW wr P2 Z ∧ Hid (JW Z) ∧ Hid (Inv wr Z) ∧ W.heap.size ≤ wr.heap.size ∧ Below W0.heap.size W0 wr) (fun i _ => k0 - (intOf i).toNat)
  case atStart => exact ⟨0, ⟨ba, bn, bG, c1, bm1, bk1, c2, bm2, bk2, br, brn, brc⟩, wdNew, Nat.zero_le _, rfl, BX, I2, hide jw_new, hide inv, hWw, bel⟩
  case round =>
    clear BX I2 inv bel hWw
    obtain ⟨j, ⟨ca, cn, cG, d1, dm1, dk1, d2, dm2, dk2, cr, crn, crc⟩, Z, hj, rfl, BX, I2, hZ, inv, hWw, bel⟩ := hrel
    simp only [Pw.cells] at BX
    by_cases hjk : j < k0
    · have hkl : j < l.length := by have := hl.out; omega
      obtain ⟨y, hy⟩ : ∃ y, l[j]? = some y := ⟨_, List.getElem?_eq_getElem hkl⟩
      obtain ⟨lb, lo, rfl, hlb⟩ := S.row.where Lrc.four (by decide) (by intro h; subst h; simp at hkl)
      have S' := S.keep bel (Nat.le_refl _)
      have t0 := S'.row.cell Lrc.four j 0 y _ hy rfl
      have t1 := S'.row.cell Lrc.four j 1 y _ hy rfl
      have t2 := S'.row.cell Lrc.four j 2 y _ hy rfl
      have t3 := S'.row.cell Lrc.four j 3 y _ hy rfl
      simp only [Nat.add_zero] at t0
      have llb := Nat.lt_of_lt_of_le hlb bel.size
      have hent := S'.ent y (List.mem_of_getElem? hy)
      obtain ⟨en, hen⟩ : ∃ en, en = y.r.e.length := ⟨_, rfl⟩
      have cD := fun V g i s => do_right (x := Z) (p := ⟨ca, cn, cG, d1, dm1, dk1, d2, dm2, dk2, cr, crn, crc⟩) (V := V) (ea := y.a) (eC := y.c) y.r.k y.r.s y.r.n y.r.e hZ.out.1 hen g i s
      have hJ := fun h => jw_step (x := ⟨y.r.k, y.r.s, y.r.n, y.r.e⟩) hZ.out h
      rw [← hen] at t3
      obtain ⟨⟨K, Sr, N, Y⟩, ya, yc⟩ := y
      simp only at *
      obtain ⟨HE, hHE⟩ : ∃ HE, HE = hapE Z ⟨K, Sr, N, Y⟩ := ⟨_, rfl⟩
      obtain ⟨Z2, hZ2⟩ : ∃ Z2, Z2 = hapW Z ⟨K, Sr, N, Y⟩ := ⟨_, rfl⟩
      rw [← hHE, ← hZ2] at cD hJ
      replace hHE := hide hHE
      replace hZ2 := hide hZ2
      replace hen := hide hen
      replace hy := hide hy
      have bc := newB (Below.refl wr.heap.size wr) (.cells #[.int .i64 K, .int .i64 Sr, .int .i64 N, .slice ya en yc] 69)
      have BC := Blk.laid wr [.int .i64 K, .int .i64 Sr, .int .i64 N, .slice ya en yc] 69 _ rfl
      replace BX := BX.keep bc BX.lt
      replace I2 := I2.call bc
      replace inv := hide (hInv _ _ _ inv.out hWw bc)
      have hent1 := hent.call bc
      replace hWw := Nat.le_trans hWw bc.size
      replace bel := belowCall bel bc
      clear S' hkl hent bc
      go_upto_region 5 with fail
      generalize wr.heap.size = gC at *
      generalize World.alloc wr _ = v1 at *
      clear t0 t1 t2 t3 llb
      have y0 := BC.cell 0
      have y1 := BC.cell 1
      have y2 := BC.cell 2
      have y3 := BC.cell 3
      have yl := BC.lt
      have x0 := BX.cell 0
      have x1 := BX.cell 1
      have x2 := BX.cell 2
      have x3 := BX.cell 3
      have x4 := BX.cell 4
      have xl := BX.lt
      go_wp2_with fail
      go_at_call 28
      refine (cD _ (hg.call bel) I2 hent1).mono ?_
      rintro e v2 ⟨⟨ea, un, uG, e1, um1, uk1, e2, um2, uk2, er, urn, urc⟩, rfl, I3, b0⟩
      simp only [Pw.val]
      have b := newB b0 (.cells #[.slice ea un uG, .slice e1 um1 uk1, .slice e2 um2 uk2, .bool Z2.up, .slice er urn urc] 30)
      have BY := Blk.laid v2 [.slice ea un uG, .slice e1 um1 uk1, .slice e2 um2 uk2, .bool Z2.up, .slice er urn urc] 30 _ rfl
      replace I3 := I3.alloc (.cells #[.slice ea un uG, .slice e1 um1 uk1, .slice e2 um2 uk2, .bool Z2.up, .slice er urn urc] 30)
      have nn : ¬ gX = v2.heap.size := by
        have := BX.lt
        have := b0.size
        omega
      clear x0 x1 x2 x3 x4 xl y0 y1 y2 y3 yl b0 BC hent1 cD
      replace BX := BX.keep b BX.lt
      replace I2 := I2.call b
      replace inv := hide (hInv _ _ _ inv.out hWw b)
      replace hWw := Nat.le_trans hWw b.size
      replace bel := belowCall bel b
      clear b
      go_upto_region 6 with fail
      have nn2 : ¬ v2.heap.size = gX := fun e => nn e.symm
      generalize v2.heap.size = gY at *
      generalize World.alloc v2 _ = v3 at *
      by_cases hz : HE = 0
      · subst hz
        obtain ⟨hJ2, hM⟩ := hJ rfl
        have hzX := right_shelf hJ2.1
        have B9 := put5r BX (.slice ea un uG) (.slice e1 um1 uk1) (.slice e2 um2 uk2) (.bool Z2.up) (.slice er urn urc)
        have bel9 := below5r bel (Nat.le_trans hWs hWX) (.slice ea un uG) (.slice e1 um1 uk1) (.slice e2 um2 uk2) (.bool Z2.up) (.slice er urn urc)
        have belW := below5r (Below.refl W.heap.size v3) hWX (.slice ea un uG) (.slice e1 um1 uk1) (.slice e2 um2 uk2) (.bool Z2.up) (.slice er urn urc)
        have I9 := I3.boxW hzX BX (gbPut5 (w := v3) (g := gX) (.slice ea un uG) (.slice e1 um1 uk1) (.slice e2 um2 uk2) (.bool Z2.up) (.slice er urn urc))
        have inv9 := hInv2 _ _ _ _ _ _ _ _ _ _ _ _ _ _ _ _ _ inv.out hWX BX (gbPut5 (w := v3) (g := gX) (.slice ea un uG) (.slice e1 um1 uk1) (.slice e2 um2 uk2) (.bool Z2.up) (.slice er urn urc))
        have hW9 := Nat.le_trans hWw belW.size
        replace B9 := hide B9
        replace bel9 := hide bel9
        replace I9 := hide I9
        replace inv9 := hide inv9
        replace hJ2 := hide hJ2
        replace hM := hide hM
        replace hW9 := hide hW9
        replace bel := hide bel
        have z0 := BY.cell 0
        have z1 := BY.cell 1
        have z2 := BY.cell 2
        have z3 := BY.cell 3
        have z4 := BY.cell 4
        have zl := BY.lt
        have x0 := BX.cell 0
        have f0 := BX.free 0
        have x1 := BX.cell 1
        have f1 := BX.free 1
        have x2 := BX.cell 2
        have f2 := BX.free 2
        have x3 := BX.cell 3
        have f3 := BX.free 3
        have x4 := BX.cell 4
        have f4 := BX.free 4
        have xl := BX.lt
        clear hJ I2 I3 BY hzX belW inv hWw
        go_upto_region 8 with fail
        clear x0 f0 x1 f1 x2 f2 x3 f3 x4 f4 xl z0 z1 z2 z3 z4 zl BX bel
        have BX := B9.out
        have bel := bel9.out
        have I2 := I9.out
        have hWw := hW9.out
        clear B9 bel9 I9 hW9
        generalize World.setCell (World.setCell (World.setCell (World.setCell (World.setCell v3 _ _) _ _) _ _) _ _) _ _ = v4 at *
        have x0 := BX.cell 0
        have x1 := BX.cell 1
        have x2 := BX.cell 2
        have x3 := BX.cell 3
        have x4 := BX.cell 4
        have xl := BX.lt
        go_wp2_with fail
        go_at_call 23
        refine (hstep Z Z2 _ _ hZ.out hJ2.out hM.out bel hWw I2 inv9.out).mono ?_
        rintro e v5 ⟨rfl, inv2, I4, gq⟩
        clear x0 x1 x2 x3 x4 xl I2 inv9
        replace BX := BX.gq gq hQX
        replace bel := bel.trans (gq.from (fun q h => (hQ q h).1) bel.size)
        replace hWw := Nat.le_trans hWw gq.size
        clear gq
        go_wp2_with fail
        go_roundw
        case rel => exact ⟨j + 1, ⟨ea, un, uG, e1, um1, uk1, e2, um2, uk2, er, urn, urc⟩, Z2, Nat.succ_le_of_lt hjk, by go_num, BX, I4, hJ2, hide inv2, hWw, bel⟩
        case measure =>
          have := Nat.sub_lt_sub_left hjk (Nat.lt_succ_self j)
          simpa [intOf] using this
      · have hd : decide (HE = 0) = false := decide_eq_false hz
        have hd2 : (HE == 0) = false := by simpa using hz
        clear hJ I3 BY
        go_wp2_with fail
        go_roundw
        case rel => exact ⟨j + 1, ⟨ca, cn, cG, d1, dm1, dk1, d2, dm2, dk2, cr, crn, crc⟩, Z, Nat.succ_le_of_lt hjk, by go_num, BX, I2, hZ, inv, hWw, bel⟩
        case measure =>
          have := Nat.sub_lt_sub_left hjk (Nat.lt_succ_self j)
          simpa [intOf] using this
    · obtain rfl : j = k0 := Nat.le_antisymm hj (Nat.le_of_not_lt hjk)
      go_wp2_with fail
      go_ret
      exact ⟨rfl, bel⟩

end Go.Proofs.YtcjdpilmhlfmfaaGreatDoor

/-
  slices.Index and slices.Contains, at points, of one that is there.
-/
namespace Go.Proofs.YtcjdpilmhlfmfaaGreatDoor
open Go.RowKit
set_option linter.unusedVariables false

set_option maxHeartbeats 2000000 in
set_option maxRecDepth 100000 in
theorem indexPt (ao : Option Addr) (cap n : Nat) (l : List Pt) (t v : Int) (w : World) (r : SlP w ao cap l) (hn : n = l.length) (hm : (t, v) ∈ l) (few : n ≤ 1000) :
    Calls Tryz.prog 56 #[.slice ao n cap, .agg #[.int .i64 t, .int .i64 v]] w fun e w' => ∃ k : Nat, e = .returned (.int .i64 (k : Int)) ∧ Below w.heap.size w w' := by
  have BX := Blk.laid w [.int .i64 t, .int .i64 v] 50 _ rfl
  have bel := newB (Below.refl w.heap.size w) (.cells #[.int .i64 t, .int .i64 v] 50)
  have r' := r.keep bel (Nat.le_refl _)
  obtain ⟨b1, o1, rfl, -⟩ := r'.where (by intro h; rw [h] at hm; simp at hm)
  have hex : ∃ j : Nat, j < n ∧ l[j]? = some (t, v) := by
    obtain ⟨j, hj, e⟩ := List.mem_iff_getElem.1 hm
    exact ⟨j, by omega, by rw [List.getElem?_eq_getElem hj, e]⟩
  have HX := hide hex
  have HL : Hid (n = l.length) := hn
  clear hex hn hm r
  go_enter Tryz.func56, Tryz.ntmps56
  go_upto_region 1 with fail
  generalize World.alloc w _ = w1 at *
  have g1 := fun k hk => r'.pt k hk
  have x0 := BX.cell 0
  have x1 := BX.cell 1
  have xl := BX.lt
  clear BX r'
  go_wp2_with fail
  go_loopg [8] n (fun g s8 wr => ∃ k q : Nat, k ≤ n ∧ n - k ≤ g ∧ s8 = .int .i64 k ∧ wr = w1.drewN q ∧ Hid (∀ j : Nat, j < k → l[j]? ≠ some (t, v)))
  case atStart => exact ⟨0, 0, Nat.zero_le _, by omega, rfl, rfl, fun j hj => absurd hj (Nat.not_lt_zero _)⟩
  case round =>
    obtain ⟨k, q, hk, hg, rfl, rfl, A⟩ := hrel
    by_cases hlt : k < n
    · obtain ⟨x, y, e1, e2, hx, -⟩ := g1 k (by rw [← HL.out]; exact hlt)
      clear g1
      have B : Hid (l[k]? = some (x, y)) := hx
      clear hx
      by_cases hxy : x = t ∧ y = v
      · obtain ⟨rfl, rfl⟩ := hxy
        go_wp2_with fail
        go_region
        all_goals (
          go_wp2_with fail
          go_ret
          exact ⟨k, rfl, by repeat (first | exact bel | apply Below.drew | exact belowDrewN bel _)⟩)
      · have A2 : Hid (∀ j : Nat, j < k + 1 → l[j]? ≠ some (t, v)) := hide (fun j hj => by
          by_cases e : j = k
          · subst e
            rw [B.out]
            intro h
            simp only [Option.some.injEq, Prod.mk.injEq] at h
            exact hxy h
          · exact A.out j (by omega))
        by_cases hx : x = t
        · subst hx
          have hy : ¬ y = v := fun h => hxy ⟨rfl, h⟩
          have hy2 : ¬ v = y := fun h => hy h.symm
          clear hxy
          go_wp2_with fail
          go_region
          all_goals go_wp2_with fail
          all_goals go_roundg (n - (k + 1))
          case measure => omega
          case rel => exact ⟨k + 1, q + 1, by omega, by omega, by go_num, rfl, A2⟩
        · have hx2 : ¬ t = x := fun h => hx h.symm
          clear hxy
          go_wp2_with fail
          go_region
          all_goals go_wp2_with fail
          all_goals go_roundg (n - (k + 1))
          case measure => omega
          case rel => exact ⟨k + 1, q + 1, by omega, by omega, by go_num, rfl, A2⟩
    · exfalso
      obtain ⟨j, hj, e⟩ := HX.out
      exact A.out j (by omega) e

set_option maxHeartbeats 1000000 in
set_option maxRecDepth 100000 in
theorem containsPt (ao : Option Addr) (cap n : Nat) (l : List Pt) (t v : Int) (w : World) (r : SlP w ao cap l) (hn : n = l.length) (hm : (t, v) ∈ l) (few : n ≤ 1000) :
    Calls Tryz.prog 25 #[.slice ao n cap, .agg #[.int .i64 t, .int .i64 v]] w fun e w' => e = .returned (.bool true) ∧ Below w.heap.size w w' := by
  have BX := Blk.laid w [.int .i64 t, .int .i64 v] 50 _ rfl
  have bel := newB (Below.refl w.heap.size w) (.cells #[.int .i64 t, .int .i64 v] 50)
  have c := fun W r => indexPt ao cap n l t v W r hn hm few
  have r' := r.keep bel (Nat.le_refl _)
  replace hn := hide hn
  clear hm r
  go_enter Tryz.func25, Tryz.ntmps25
  go_upto_region 1 with fail
  generalize World.alloc w _ = w1 at *
  have x0 := BX.cell 0
  have x1 := BX.cell 1
  have xl := BX.lt
  go_wp2_with fail
  go_at_call 56
  refine (c _ r').mono ?_
  rintro e w2 ⟨k, rfl, b⟩
  have hk : (0 : Int) ≤ (k : Int) := by omega
  go_wp2_with fail
  go_ret
  exact ⟨rfl, belowCall bel b⟩

end Go.Proofs.YtcjdpilmhlfmfaaGreatDoor

/-
  StoryRises: what its closure does at each moment.
-/
namespace Go.Proofs.YtcjdpilmhlfmfaaGreatDoor
open Go.RowKit
open Go.Lib (byteCells)
set_option linter.unusedVariables false

/-- What a batch says of one series. -/
def entPts (s : Int) (L : List En) : List Pt := (L.filter (fun x => decide (x.s = s))).map (fun x => (x.t, x.v))

theorem puts_all : ∀ (L : List En) (l : List Rw), l.length = 4 → putsE l L = 0 → ∀ s : Nat, s < 4 → allPts ((putsL l L).getD s rw0) = allPts (l.getD s rw0) ++ entPts s L
  | [], l, _, _, s, _ => by simp [putsL, entPts]
  | x :: r, l, h4, h, s, hs => by
    unfold putsE at h
    split at h
    · rename_i h0
      obtain ⟨h1, _⟩ := putRowE_zero h0
      obtain ⟨k, ek, hk⟩ := inI_nat h1
      have ih := puts_all r (putRowL l x) (by unfold putRowL; rw [List.length_set]; exact h4) h s hs
      rw [putsL, ih]
      unfold putRowL
      rw [getD_set (by rw [ek, Int.toNat_natCast, h4]; exact hk)]
      unfold entPts
      by_cases e : s = k
      · subst e
        rw [if_pos (by rw [ek, Int.toNat_natCast]), List.filter_cons_of_pos (by simpa using ek), List.map_cons]
        unfold putRow allPts
        rw [ek, Int.toNat_natCast]
        simp only [List.append_assoc, List.cons_append, List.nil_append]
      · rw [if_neg (by rw [ek, Int.toNat_natCast]; exact e), List.filter_cons_of_neg (by simp [ek]; omega)]
    · rename_i h0
      exact absurd h h0

def leastR (b : Int) (r : Rc) : Int := if r.k = 4 then max b r.n else b

/-- What is there is the end of all; what is ahead of it lies ahead of b. -/
def EndOf (s : Nat) (C : List Rw) (A : List Pt) (b : Int) : Prop :=
  ∃ m, m ≤ A.length ∧ allPts (C.getD s rw0) = A.drop m ∧ ∀ p ∈ A.take m, p.1 < b

theorem no_ents {r : Rc} (h : recE r = 0) (hk : r.k ≠ 1) : r.e = [] := by
  unfold recE at h
  rw [if_neg hk] at h
  split at h
  · split at h
    · cases h
    · rename_i h1
      exact Decidable.byContradiction fun e => h1 (.inl e)
  · cases h

theorem end_step {s : Nat} {C : List Rw} {r : Rc} {A : List Pt} {b : Int} (hs : s < 4) (h : nextE C r = 0) (hP : EndOf s C A b) : EndOf s (nextL C r) (A ++ entPts s (enL r.e)) (leastR b r) := by
  obtain ⟨hz, hr, hw, hL⟩ := next_zero h
  obtain ⟨w1, w2, w3, w4⟩ := work_of C r
  obtain ⟨m, hm, e1, e2⟩ := hP
  rw [hL]
  by_cases k1 : r.k = 1
  · obtain ⟨x1, x2⟩ := w1 k1
    rw [x1] at hw
    obtain ⟨_, y1, y2⟩ := bput_zero hw
    rw [x2, y2]
    unfold leastR
    rw [if_neg (by omega)]
    refine ⟨m, by rw [List.length_append]; omega, ?_, ?_⟩
    · rw [puts_all _ _ (right_len hz) y1 s hs, e1, List.drop_append_of_le_length hm]
    · rw [List.take_append_of_le_length hm]
      exact e2
  · have he := no_ents hr k1
    rw [he]
    have e0 : A ++ entPts s (enL []) = A := by simp [entPts, enL]
    rw [e0]
    rcases kind_of hr with k | k | k | k
    · exact absurd k k1
    · obtain ⟨x1, x2⟩ := w2 k
      rw [x1] at hw
      unfold leastR
      rw [x2, if_neg (by omega)]
      exact ⟨m, hm, by rw [(seal_zero hz hw).2]; exact e1, e2⟩
    · obtain ⟨x1, x2⟩ := w3 k
      rw [x1] at hw
      unfold leastR
      rw [x2, if_neg (by omega)]
      exact ⟨m, hm, by rw [(mrg_zero hz hw).2]; exact e1, e2⟩
    · obtain ⟨x1, x2⟩ := w4 k
      rw [x1] at hw
      unfold leastR
      rw [x2, if_pos k]
      obtain ⟨h4, hmem⟩ := shelfE_mem hz
      obtain ⟨_, m', hm', e3, e4⟩ := drop_row (n := r.n) (hmem _ (getD_mem (l := C) (k := s) (by omega)))
      unfold dropL
      rw [if_pos hw]
      rw [e1] at hm' e3 e4
      rw [List.length_drop] at hm'
      refine ⟨m + m', by omega, ?_, ?_⟩
      · rw [(drop_zero hz).2 s hs, e3, List.drop_drop]
      · intro p hp
        rw [List.take_add] at hp
        rcases List.mem_append.1 hp with hp | hp
        · have := e2 p hp
          omega
        · have := e4 p hp
          omega
 where
  kind_of {r : Rc} (h : recE r = 0) : r.k = 1 ∨ r.k = 2 ∨ r.k = 3 ∨ r.k = 4 := by
    unfold recE at h
    split at h
    · exact .inl (by assumption)
    · split at h
      · rename_i h1
        exact .inr h1
      · cases h

theorem work_next {R : List Rc} (h : (workAll newS R).2 = 0) {k : Nat} {x : Rc} (hx : R[k]? = some x) :
    nextE (workAll newS (R.take k)).1 x = 0 ∧ workAll newS (R.take (k + 1)) = (nextL (workAll newS (R.take k)).1 x, 0) := by
  have h1 := work_pre h k
  have h2 := work_pre h (k + 1)
  have e : R.take (k + 1) = R.take k ++ [x] := by rw [List.take_add_one, hx]; rfl
  have s := workAll_snoc (R.take k) x newS h1
  rw [← e] at s
  by_cases hz : nextE (workAll newS (R.take k)).1 x = 0
  · rw [if_pos hz] at s
    exact ⟨hz, s⟩
  · rw [if_neg hz] at s
    rw [s] at h2
    exact absurd h2 hz

theorem jw_check {w : Wd} (J : JW w) {v s : Nat} (hv : v ≤ verN w) (hs : s < 4) : checkE (atL w v s) = 0 := by
  obtain ⟨e, _⟩ := jw_at J hv hs
  unfold atL
  rw [if_pos e]
  exact allL_check _ _

theorem low (l : List Pt) : ∃ b : Int, ∀ p ∈ l, b ≤ p.1 := by
  induction l with
  | nil => exact ⟨0, fun p h => by simp at h⟩
  | cons x l ih =>
    obtain ⟨b, hb⟩ := ih
    refine ⟨min b x.1, fun p hp => ?_⟩
    rcases List.mem_cons.1 hp with rfl | hp
    · omega
    · have := hb p hp
      omega

/-- From one version to the next one. -/
theorem at_step {w : Wd} (J : JW w) {n s : Nat} {r : Rc} (hr : (recL w.d)[n]? = some r) (hs : s < 4) :
    (r.k = 4 → r.e = []) ∧ ∃ m, m ≤ (atL w n s ++ entPts s (enL r.e)).length ∧ atL w (n + 1 : Nat) s = (atL w n s ++ entPts s (enL r.e)).drop m ∧ (r.k ≠ 4 → m = 0) := by
  obtain ⟨hn, hg⟩ := List.getElem?_eq_some_iff.1 hr
  have h60 : (recL w.d).length ≤ 60 := (disk_canon (wd_right J.1).1).2.2.1
  have hz : (workAll newS (recL w.d)).2 = 0 := by have := J.2; unfold replE at this; rw [if_neg (by omega)] at this; exact this
  obtain ⟨x1, x2⟩ := work_next hz hr
  have e1 : replL ((recL w.d).take n) = (workAll newS ((recL w.d).take n)).1 := if_neg (by rw [List.length_take]; omega)
  have e2 : replL ((recL w.d).take (n + 1)) = (workAll newS ((recL w.d).take (n + 1))).1 := if_neg (by rw [List.length_take]; omega)
  rw [x2] at e2
  simp only at e2
  rw [← e1] at x1 e2
  obtain ⟨_, hre, _, _⟩ := next_zero x1
  obtain ⟨_, a1⟩ := jw_at J (v := n) (s := s) (Nat.le_of_lt hn) hs
  obtain ⟨_, a2⟩ := jw_at J (v := n + 1) (s := s) hn hs
  rw [e2] at a2
  obtain ⟨b, hb⟩ := low (atL w n s ++ entPts s (enL r.e))
  have hE : EndOf s (replL ((recL w.d).take n)) (atL w n s) b := ⟨0, Nat.zero_le _, by rw [a1]; rfl, fun p hp => by simp at hp⟩
  obtain ⟨m, hm, k1, k2⟩ := end_step hs x1 hE
  refine ⟨fun h4 => no_ents hre (by omega), m, hm, by rw [a2]; exact k1, fun h4 => ?_⟩
  unfold leastR at k2
  rw [if_neg h4] at k2
  cases m with
  | zero => rfl
  | succ m =>
    exfalso
    have hne : (atL w n s ++ entPts s (enL r.e)).take (m + 1) ≠ [] := by
      intro h
      have := congrArg List.length h
      rw [List.length_take] at this
      simp only [List.length_nil] at this
      omega
    obtain ⟨p, q, hpq⟩ := List.exists_cons_of_ne_nil hne
    have hp : p ∈ (atL w n s ++ entPts s (enL r.e)).take (m + 1) := by rw [hpq]; simp
    have l0 := k2 p hp
    have := hb p (List.mem_of_mem_take hp)
    omega


theorem at_none {z : Wd} (J : JW z) {s : Nat} (hs : s < 4) : atL z (0 : Nat) s = [] := by
  rw [(jw_at J (Nat.zero_le _) hs).2, List.take_zero]
  match s, hs with
  | 0, _ => rfl
  | 1, _ => rfl
  | 2, _ => rfl
  | 3, _ => rfl

/-- From one version to the next one nothing comes ahead of what was the last one. -/
theorem rises_step {z : Wd} (J : JW z) {M s : Nat} (hM : verN z = M + 1) (hs : s < 4) : ∀ p ∈ atL z (M + 1 : Nat) s, ∀ q, (atL z M s).getLast? = some q → p.1 ≤ q.1 → p ∈ atL z M s := by
  intro p hp q hq hle
  have hlt : M < (recL z.d).length := by unfold verN at hM; omega
  obtain ⟨h4, m, hm, e, h0⟩ := at_step (r := (recL z.d)[M]) J (List.getElem?_eq_getElem hlt) hs
  have hc := (check_rises (jw_check J (v := M + 1) (s := s) (by omega) hs)).1
  have hp2 : p ∈ atL z M s ++ entPts s (enL ((recL z.d)[M]).e) := by rw [e] at hp; exact List.mem_of_mem_drop hp
  rcases List.mem_append.1 hp2 with h | h
  · exact h
  · exfalso
    have hk : ((recL z.d)[M]).k ≠ 4 := by
      intro h'
      rw [h4 h'] at h
      simp [entPts, enL] at h
    rw [h0 hk, List.drop_zero] at e
    rw [e] at hc
    have hq2 : q ∈ atL z M s := List.mem_of_getLast? hq
    have := (List.pairwise_append.1 hc).2.2 q hq2 p h
    omega

theorem c_check {a : Option Addr} {n c : Nat} {l : List Pt} {w : World} (r : SlP w a c l) (hn : Hid (n = l.length)) (h : checkE l = 0) :
    Calls Tryz.prog 24 #[.slice a n c] w fun e w' => e = .returned (.int .i64 0) ∧ Below w.heap.size w w' := by
  obtain rfl := hn.out
  have c := check_any a c l w r
  rw [h] at c
  exact c

set_option maxHeartbeats 8000000 in
set_option maxRecDepth 100000 in
theorem risesK (b1 s : Nat) (hs : s < 4) (W0 : World) (hg : Gl W0) (z : Wd) (p : Pw) (V : World) (Jz : JW z) (bel : Below W0.heap.size W0 V) (I : IsW V p z) (B1 : Blk V b1 [.int .i64 (s : Int)] 3) :
    Calls Tryz.prog 23 #[p.val z.up, .pointer (some ⟨b1, 0, none⟩)] V fun e V' => e = .returned (.bool true) ∧ Below V.heap.size V V' := by
  have cV := fun W g i => c_versions (x := z) (p := p) (w := W) Jz g i
  have cA := fun (v : Nat) hv W g i => c_at (x := z) (p := p) (w := W) v s Jz hv hs g i
  have hAl := fun v => atL_few z v s
  obtain ⟨m, hm⟩ : ∃ m, m = verN z := ⟨_, rfl⟩
  have hck := jw_check Jz (v := verN z) (Nat.le_refl _) hs
  have hR := fun M h => rises_step (M := M) Jz h hs
  have hNo := at_none Jz hs
  rw [← hm] at cV hck hR cA
  have hm60 : m ≤ 60 := by rw [hm]; exact rec_len z.d
  replace hm := hide hm
  obtain ⟨U, hU⟩ : ∃ U, U = z.up := ⟨_, rfl⟩
  rw [← hU] at cV cA ⊢
  replace hU := hide hU
  obtain ⟨sa, sn, sG, a1, n1, c1, a2, n2, c2, ra, rn, rc⟩ := p
  simp only [Pw.val] at *
  have BX := Blk.laid V [.slice sa sn sG, .slice a1 n1 c1, .slice a2 n2 c2, .bool U, .slice ra rn rc] 30 _ rfl
  have bl := newB (Below.refl V.heap.size V) (.cells #[.slice sa sn sG, .slice a1 n1 c1, .slice a2 n2 c2, .bool U, .slice ra rn rc] 30)
  replace B1 := B1.keep bl B1.lt
  replace I := I.call bl
  clear Jz
  cases m with
  | zero =>
    have c0 := cA 0 (Nat.le_refl _)
    rw [hNo] at c0 hck
    clear cA hAl hR hNo
    go_enter Tryz.func23, Tryz.ntmps23
    go_upto_region 1 with fail
    generalize World.alloc V _ = w1 at *
    have x0 := BX.cell 0
    have x1 := BX.cell 1
    have x2 := BX.cell 2
    have x3 := BX.cell 3
    have x4 := BX.cell 4
    have xl := BX.lt
    have y0 := B1.cell 0
    have yl := B1.lt
    go_wp2_with fail
    go_at_call 9
    refine (cV _ (hg.call (belowCall bel bl)) I).mono ?_
    rintro e w2 ⟨rfl, b⟩
    clear x0 x1 x2 x3 x4 xl y0 yl
    replace BX := BX.keep b BX.lt
    replace B1 := B1.keep b B1.lt
    replace I := I.call b
    replace bl := belowCall bl b
    clear b
    have x0 := BX.cell 0
    have x1 := BX.cell 1
    have x2 := BX.cell 2
    have x3 := BX.cell 3
    have x4 := BX.cell 4
    have xl := BX.lt
    have y0 := B1.cell 0
    have yl := B1.lt
    go_wp2_with fail
    go_at_call 10
    refine (c0 _ (hg.call (belowCall bel bl)) I).mono ?_
    rintro e w3 ⟨a3, n3, G3, rfl, hn3, T1, b⟩
    clear x0 x1 x2 x3 x4 xl y0 yl
    replace BX := BX.keep b BX.lt
    replace B1 := B1.keep b B1.lt
    replace I := I.call b
    replace bl := belowCall bl b
    clear b
    have x0 := BX.cell 0
    have x1 := BX.cell 1
    have x2 := BX.cell 2
    have x3 := BX.cell 3
    have x4 := BX.cell 4
    have xl := BX.lt
    have y0 := B1.cell 0
    have yl := B1.lt
    go_wp2_with fail
    go_at_call 24
    refine (c_check T1 hn3 hck).mono ?_
    rintro e w4 ⟨rfl, b⟩
    clear x0 x1 x2 x3 x4 xl y0 yl
    replace BX := BX.keep b BX.lt
    replace B1 := B1.keep b B1.lt
    replace I := I.call b
    replace T1 := T1.keep b (Nat.le_refl _)
    replace bl := belowCall bl b
    clear b
    have x0 := BX.cell 0
    have x1 := BX.cell 1
    have x2 := BX.cell 2
    have x3 := BX.cell 3
    have x4 := BX.cell 4
    have xl := BX.lt
    have y0 := B1.cell 0
    have yl := B1.lt
    have hn0 : n3 = 0 := hn3.out
    subst hn0
    go_wp2_with fail
    go_ret
    exact ⟨rfl, bl⟩
  | succ M =>
    have hM6 : M ≤ 60 := by omega
    have hM6I : (M : Int) ≤ 60 := by omega
    have cB := cA (M + 1) (Nat.le_refl _)
    have cM := cA M (Nat.le_succ _)
    have hRM := hR M rfl
    have lB := hAl ((M + 1 : Nat) : Int)
    have lM := hAl ((M : Nat) : Int)
    generalize atL z (M + 1 : Nat) s = B at *
    generalize atL z M s = A at *
    clear cA hAl hR hNo
    push_cast at cV cB
    go_enter Tryz.func23, Tryz.ntmps23
    go_upto_region 1 with fail
    generalize World.alloc V _ = w1 at *
    have x0 := BX.cell 0
    have x1 := BX.cell 1
    have x2 := BX.cell 2
    have x3 := BX.cell 3
    have x4 := BX.cell 4
    have xl := BX.lt
    have y0 := B1.cell 0
    have yl := B1.lt
    go_wp2_with fail
    go_at_call 9
    refine (cV _ (hg.call (belowCall bel bl)) I).mono ?_
    rintro e w2 ⟨rfl, b⟩
    clear x0 x1 x2 x3 x4 xl y0 yl
    replace BX := BX.keep b BX.lt
    replace B1 := B1.keep b B1.lt
    replace I := I.call b
    replace bl := belowCall bl b
    clear b
    have x0 := BX.cell 0
    have x1 := BX.cell 1
    have x2 := BX.cell 2
    have x3 := BX.cell 3
    have x4 := BX.cell 4
    have xl := BX.lt
    have y0 := B1.cell 0
    have yl := B1.lt
    go_wp2_with fail
    go_at_call 10
    refine (cB _ (hg.call (belowCall bel bl)) I).mono ?_
    rintro e w3 ⟨a3, n3, G3, rfl, hn3, T1, b⟩
    clear x0 x1 x2 x3 x4 xl y0 yl
    replace BX := BX.keep b BX.lt
    replace B1 := B1.keep b B1.lt
    replace I := I.call b
    replace bl := belowCall bl b
    clear b
    have x0 := BX.cell 0
    have x1 := BX.cell 1
    have x2 := BX.cell 2
    have x3 := BX.cell 3
    have x4 := BX.cell 4
    have xl := BX.lt
    have y0 := B1.cell 0
    have yl := B1.lt
    go_wp2_with fail
    go_at_call 24
    refine (c_check T1 hn3 hck).mono ?_
    rintro e w4 ⟨rfl, b⟩
    clear x0 x1 x2 x3 x4 xl y0 yl
    replace BX := BX.keep b BX.lt
    replace B1 := B1.keep b B1.lt
    replace I := I.call b
    replace T1 := T1.keep b (Nat.le_refl _)
    replace bl := belowCall bl b
    clear b
    have x0 := BX.cell 0
    have x1 := BX.cell 1
    have x2 := BX.cell 2
    have x3 := BX.cell 3
    have x4 := BX.cell 4
    have xl := BX.lt
    have y0 := B1.cell 0
    have yl := B1.lt
    have hMI : ¬ ((M : Int) + 1 = 0) := by omega
    have hMb : (((M : Int) + 1) == 0) = false := by simpa using hMI
    go_wp2_with fail
    go_at_call 10
    refine (cM _ (hg.call (belowCall bel bl)) I).mono ?_
    rintro e w5 ⟨a4, n4, G4, rfl, hn4, T2, b⟩
    clear x0 x1 x2 x3 x4 xl y0 yl
    replace BX := BX.keep b BX.lt
    replace B1 := B1.keep b B1.lt
    replace I := I.call b
    replace T1 := T1.keep b (Nat.le_refl _)
    replace bl := belowCall bl b
    clear b
    have x0 := BX.cell 0
    have x1 := BX.cell 1
    have x2 := BX.cell 2
    have x3 := BX.cell 3
    have x4 := BX.cell 4
    have xl := BX.lt
    have y0 := B1.cell 0
    have yl := B1.lt
    have hB : Hid (n3 = B.length) := hn3
    have hA : Hid (n4 = A.length) := hn4
    clear x0 x1 x2 x3 x4 xl y0 yl
    clear BX B1 I cV cB cM
    have hn3b : n3 ≤ 40 := by rw [hB.out]; exact lB
    have hn4b : n4 ≤ 40 := by rw [hA.out]; exact lM
    go_wp2_with fail
    go_loopw [48] (fun i wr => ∃ (j : Nat), j ≤ n3 ∧ i = .int .i64 j ∧ SlP wr a3 G3 B ∧ SlP wr a4 G4 A ∧ Below V.heap.size V wr) (fun i _ => n3 - (intOf i).toNat)
    case atStart => exact ⟨0, Nat.zero_le _, rfl, T1, T2, bl⟩
    case round =>
      clear T1 T2 bl
      obtain ⟨j, hj, rfl, T1, T2, bl⟩ := hrel
      by_cases hlt : j < n3
      · have hjl : j < B.length := by rw [← hB.out]; exact hlt
        obtain ⟨lb, lo, rfl, hlb⟩ := T1.where (by intro h; rw [h] at hjl; simp at hjl)
        obtain ⟨x, y, e0, e1, hx, -⟩ := T1.pt j hjl
        have hxB : (x, y) ∈ B := List.mem_of_getElem? hx
        have hmem := hRM (x, y) hxB
        have bc := newB (Below.refl wr.heap.size wr) (.cells #[.int .i64 x, .int .i64 y] 50)
        have BC := Blk.laid wr [.int .i64 x, .int .i64 y] 50 _ rfl
        replace T1 := T1.keep bc (Nat.le_refl _)
        replace T2 := T2.keep bc (Nat.le_refl _)
        replace bl := belowCall bl bc
        replace hmem := hide hmem
        clear bc hx hxB hjl
        go_upto_region 15 with fail
        generalize wr.heap.size = gC at *
        generalize World.alloc wr _ = v1 at *
        clear e0 e1
        have p0 := BC.cell 0
        have p1 := BC.cell 1
        have pl := BC.lt
        by_cases hA0 : n4 = 0
        · subst hA0
          clear hmem p0 p1 pl BC
          go_wp2_with fail
          go_region
          all_goals (
            go_wp2_with fail
            go_roundw
            case rel => exact ⟨j + 1, by omega, by go_num, T1.keep (by repeat (first | exact Below.refl _ _ | apply Below.drew | apply belowDrewN | apply belowDrew)) (Nat.le_refl _), T2.keep (by repeat (first | exact Below.refl _ _ | apply Below.drew | apply belowDrewN | apply belowDrew)) (Nat.le_refl _), belowCall bl (by repeat (first | exact Below.refl _ _ | apply Below.drew | apply belowDrewN | apply belowDrew))⟩
            case measure => simp [intOf]; omega)
        · obtain ⟨K, rfl⟩ : ∃ K, n4 = K + 1 := ⟨n4 - 1, by omega⟩
          have hKl : K < A.length := by rw [← hA.out]; omega
          obtain ⟨lc, lq, rfl, hlc⟩ := T2.where (by intro h; rw [h] at hKl; simp at hKl)
          obtain ⟨lt, lv, c0, c1', hq, -⟩ := T2.pt K hKl
          have hgl : A.getLast? = some (lt, lv) := by rw [List.getLast?_eq_getElem?, ← hA.out]; simpa using hq
          have hK4 : K ≤ 40 := by omega
          have hKI : (K : Int) ≤ 40 := by omega
          have hK0 : (0 : Int) ≤ (K : Int) := by omega
          have hwr : IntKind.i64.wrap (K : Int) = (K : Int) := by rw [IntKind.wrap_i64]; omega
          have hK1 : (K : Int) < (K : Int) + 1 := by omega
          have hK2 : K < K + 1 := by omega
          have hmem2 := hide (fun h => hmem.out (lt, lv) hgl h)
          clear hmem hq c1' hgl
          by_cases hle : x ≤ lt
          · have hin := hmem2.out hle
            have kC : ∀ W', Below v1.heap.size v1 W' → Calls Tryz.prog 25 #[.slice (some ⟨lc, lq, none⟩) (K + 1) G4, .agg #[.int .i64 x, .int .i64 y]] W' fun e w' => e = .returned (.bool true) ∧ w'.cell? ⟨gC, 0, none⟩ = some (.int .i64 x) ∧ w'.cell? ⟨gC, 1, none⟩ = some (.int .i64 y) ∧ w'.cell? ⟨lc, lq + K * 2, none⟩ = some (.int .i64 lt) ∧ Below v1.heap.size v1 w' := by
              intro W' hW
              refine (containsPt _ G4 (K + 1) A x y W' (T2.keep hW (Nat.le_refl _)) hA.out hin (by omega)).mono ?_
              rintro e w' ⟨rfl, b⟩
              have hb := belowCall hW b
              exact ⟨rfl, (BC.keep hb BC.lt).cell 0, (BC.keep hb BC.lt).cell 1, (hb.cell (p := ⟨lc, lq + K * 2, none⟩) hlc).trans c0, hb⟩
            have k00 : Below v1.heap.size v1 v1 := Below.refl _ _
            have k01 := belowDrew k00
            replace BC := hide BC
            replace hmem2 := hide hmem2
            clear hin
            go_wp2_with fail
            have hdl : decide (x ≤ lt) = true := decide_eq_true hle
            go_region_held3 (fun w' => w'.cell? ⟨gC, 0, none⟩ = some (.int .i64 x) ∧ w'.cell? ⟨gC, 1, none⟩ = some (.int .i64 y) ∧ w'.cell? ⟨lc, lq + K * 2, none⟩ = some (.int .i64 lt)) (go_keep)
              (first
                | (go_at_call 25; refine (kC _ (by first | exact k00 | exact k01)).mono ?_; rintro e wB ⟨rfl, q1, q2, q3, zB⟩))
            all_goals (
              go_wp2_with fail
              go_roundw
              case rel => exact ⟨j + 1, by omega, by go_num, T1.keep zB (Nat.le_refl _), T2.keep zB (Nat.le_refl _), belowCall bl zB⟩
              case measure => simp [intOf]; omega)
          · replace BC := hide BC
            clear hmem2
            have hdl : decide (x ≤ lt) = false := decide_eq_false hle
            go_wp2_with fail
            go_region
            all_goals (
              go_wp2_with fail
              go_roundw
              case rel => exact ⟨j + 1, by omega, by go_num, T1.keep (by repeat (first | exact Below.refl _ _ | apply Below.drew | apply belowDrewN | apply belowDrew)) (Nat.le_refl _), T2.keep (by repeat (first | exact Below.refl _ _ | apply Below.drew | apply belowDrewN | apply belowDrew)) (Nat.le_refl _), belowCall bl (by repeat (first | exact Below.refl _ _ | apply Below.drew | apply belowDrewN | apply belowDrew))⟩
              case measure => simp [intOf]; omega)
      · obtain rfl : j = n3 := by omega
        go_wp2_with fail
        go_ret
        exact ⟨rfl, bl⟩

end Go.Proofs.YtcjdpilmhlfmfaaGreatDoor

/-
  The walk of StoryRises.
-/
namespace Go.Proofs.YtcjdpilmhlfmfaaGreatDoor
open Go.RowKit
open Go.Lib (byteCells)
set_option linter.unusedVariables false

set_option maxHeartbeats 8000000 in
set_option maxRecDepth 100000 in
theorem rises_walk (W : World) (hg : Gl W) (l : List Lrc) (la : Option Addr) (lc ln : Nat) (S : SlRec W la lc l) (hl : ln = l.length) (s0 : Int) (_ : (Lit.int .i64 s0).wf = true) :
    Calls Tryz.prog 6 #[.slice la ln lc, .int .i64 s0] W fun e w' => e = .returned (.bool true) ∧ Below W.heap.size W w' := by
  have h1 := Int.emod_nonneg s0 (show (4 : Int) ≠ 0 by omega)
  have h2 := Int.emod_lt_of_pos s0 (show 0 < (4 : Int) by omega)
  obtain ⟨s, hs'⟩ : ∃ s : Nat, s0 % 4 = s := ⟨(s0 % 4).toNat, by omega⟩
  have hs : s < 4 := by omega
  have cS := fun V => at_any s0 4 V (by omega) (by omega)
  rw [hs'] at cS
  clear h1 h2 hs'
  have BS := Blk.laid W [.int .i64 s0] 3 _ rfl
  have bel := newB (Below.refl W.heap.size W) (.cells #[.int .i64 s0] 3)
  replace hl := hide hl
  go_enter Tryz.func6, Tryz.ntmps6
  go_upto_region 1 with fail
  generalize World.alloc W _ = w1 at *
  have x0 := BS.cell 0
  have f0 := BS.free 0
  have xl := BS.lt
  have B9 := BS.set 0 (.int .i64 (s : Int))
  simp only [List.set_cons_zero] at B9
  have bel9 := bel.setCell (p := ⟨W.heap.size, 0, none⟩) (Nat.le_refl _) (.int .i64 (s : Int))
  replace B9 := hide B9
  replace bel9 := hide bel9
  clear BS bel
  go_wp2_with fail
  go_at_call 17
  refine (cS _).mono ?_
  rintro e w2 ⟨rfl, rfl⟩
  go_upto_region 2 with fail
  clear x0 f0 xl
  have BS := B9.out
  have bel := bel9.out
  clear B9 bel9
  generalize World.setCell w1 _ _ = w3 at *
  go_wp2_with fail
  go_at_call 12
  refine (told_any _ (hg.call bel)).mono ?_
  rintro e w4 ⟨rfl, b⟩
  replace BS := BS.keep b BS.lt
  replace bel := belowCall bel b
  clear b
  have lS := BS.lt
  go_wp2_with fail
  go_at_call 18
  refine (played_StoryRises W.heap.size (fun _ => False) (fun V _ => Blk V W.heap.size [.int .i64 (s : Int)] 3) W w4 hg bel l la lc ln S hl.out (fun q h => h.elim)
    (fun V V' x k hsz bb' => k.keep bb' k.lt) (fun V V' x g a1 a2 a3 a4 n1 n2 n3 n4 c1 c2 c3 c4 u k hgW BB gr => (gr.block _ k.lt (fun e => by have := Option.some.inj e; omega)).trans k) BS
    (fun x z p V Jx Jz hM bb hsz I inv => (risesK W.heap.size s hs W hg z p V Jz bb I inv).mono fun e V' h => ⟨h.1, inv.keep h.2 inv.lt, I.call h.2, Gq.below h.2⟩)).mono ?_
  rintro e w5 ⟨rfl, b⟩
  go_wp2_with fail
  go_ret
  exact ⟨rfl, b⟩

end Go.Proofs.YtcjdpilmhlfmfaaGreatDoor

/-
  Proved: for any list of happenings, any number, StoryRises returns true and leaves its arguments as they were: at each version the points of each series rise by time; from one version to the next one nothing comes ahead of what was the last one, as long as something is there. Conditions: the listed variables of Go's library start as the program's text lays them (tied by the card).
-/
namespace Go.Proofs.YtcjdpilmhlfmfaaGreatDoor.storyRises
open Go.ChangeShapes Go.WideShapes Go.ChangeAt Go.RowKit Go.ChangeMaps
set_option linter.unusedVariables false

def laidL : List (String × DataW Unit) := Rows.storyRisesRow.laid

set_option maxRecDepth 100000 in
theorem lifted (os : Os) (started : os.Started) (H : Type) (enc : TypeId × Value → H) :
    ReturnsInHanded {} Tryz.checked os 6 .any (fun w args => (Rows.storyRisesSpec.pre enc Tryz.prog Tryz.f6 [] false w args ∧ laidMetH Tryz.prog laidL w) ∧ sizedMet enc Tryz.prog Tryz.f6 (OpenSpec.ofChange Rows.storyRisesSpec) false w args)
      (Rows.storyRisesSpec.post enc Tryz.prog Tryz.f6 false true false false) := by
  refine returns_both (C := Tryz.checked) (X := fun w _ => laidMetH Tryz.prog laidL w) (fun _ _ _ hh h => h.of_heap hh) own started (by kernel_rfl) Tryz.func6
    (ChangeSpec.witness_shaped (enc := enc) (C := Tryz.checked) (os := os) (X := fun w _ => laidMetH Tryz.prog laidL w) false (World.laidAll Tryz.prog os laidL) #[.slice none 0 0, .int .i64 0] 8 (World.laidAll_os _ _ _)
      (World.shaped_of_ZipB (by kernel_rfl) (by kernel_rfl)) (by kernel_rfl) (by kernel_rfl) (by kernel_rfl)
      (by rw [MakeChecks.laidMetH_plain _ _ _ (by kernel_rfl)]; exact laidMet_laidAll _ (by kernel_rfl) (by kernel_rfl))) ?_
  intro W base args ds gs before hval0 hW hsz0 hL hsh
  have hsz : (DataW.weightsEach Tryz.prog (Tryz.f6.params.toList ++ Rows.storyRisesSpec.plain.varTypes Tryz.prog) (ds ++ gs)).all (· ≤ reachBytes) = true := hsz0
  have hval : ∀ (j : Nat) t v, Tryz.f6.params[j]? = some t → args[j]? = some v → Value.okWide Tryz.prog W .any base t v := hval0
  have hW' := hW
  obtain ⟨p, q, hA0, hV, rfl, hfz, hnd⟩ := hW
  have hA : DataW.TrodAll enc Tryz.prog W 0 (fun _ => true) true Tryz.f6.params.toList args.toList ds p := hA0
  rw [Tryz.params6] at hA hval hsz
  obtain ⟨v0, vs0, d0, ds0, p0, q0, hargs, rfl, rfl, h0, r0⟩ := trodAll_cons hA
  obtain ⟨v1, vs1, d1, ds1, p1, q1, rfl, rfl, rfl, h1, r1⟩ := trodAll_cons r0
  obtain ⟨rfl, rfl, rfl⟩ := trodAll_nil r1
  obtain rfl : args = #[v0, v1] := by cases args; simp_all
  obtain ⟨rfl, rfl⟩ := trodVars_none hV
  have k0 := h0
  have lt0 : ∀ x ∈ p0, x.block < W.heap.size := by obtain ⟨m, hm⟩ := k0; exact DataW.trod_lt m _ _ _ hm
  obtain ⟨a0, len0, cap0, rfl⟩ := okWide_slice Tryz.underlying52 (hval 0 52 v0 rfl rfl)
  obtain ⟨l0, hl0, s0, _⟩ := open_haps h0 (rec_light (j := 0) hsz rfl rfl)
  obtain ⟨a1, rfl, rfl, rfl, w1⟩ := open_int Tryz.underlying3 (hval 1 3 v1 rfl rfl) h1
  rw [MakeChecks.laidMetH_plain _ _ _ (by kernel_rfl)] at hL
  have g := glob_of hL hsh
  refine (rises_walk W g l0 a0 cap0 len0 s0 hl0.symm a1 w1).mono fun e W' ⟨he, bel⟩ => ?_
  subst he
  exact ⟨_, rfl, _, _, _, [], _, [], hW', trodAll_mk1 (shut_bool Tryz.underlying4 _), (trodAll_cons_mk (Below.trod laidOut (by kernel_rfl) (of_decide_eq_true (by kernel_rfl)) k0 bel lt0) (trodAll_cons_mk (shut_int Tryz.underlying3 w1) trodAll_mk0)), rfl, bel.frame _, fun h => by cases h⟩

theorem row_holds : Rows.StoryRisesSaid :=
  OpenClaim.holds_of_wide 6 Tryz.f6 rfl rfl rfl rfl rfl rfl rfl ⟨rfl, rfl, rfl, rfl, rfl⟩ rfl rfl rfl rfl rfl (by kernel_rfl) Tryz.func6 (by kernel_rfl)
    (of_decide_eq_true (by kernel_rfl)) (by unfold Func.isWrapper; first | (rw [if_pos (by decide +kernel)]; kernel_rfl) | (rw [if_neg (by decide +kernel)]; exact ⟨rfl, rfl⟩))
    (fun os started H enc _ => lifted os started H enc)
end Go.Proofs.YtcjdpilmhlfmfaaGreatDoor.storyRises
