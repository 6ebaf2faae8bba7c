/-
  A script that is played: StoryReaders.
-/
import Derived.Test.YtcjdpilmhlfmfaaGreatDoorRows
import Derived.Test.YtcjdpilmhlfmfaaGreatDoorCards
import Derived.Test.YtcjdpilmhlfmfaaGreatDoorTie
import Derived.ProofKit
import Derived.ChangeMaps5
import Derived.LaidMore
import Derived.Stop.Joined
import Derived.SevenTiedAt
import Derived.Test.YtcjdpilmhlfmfaaGreatDoorP40
import Derived.Test.YtcjdpilmhlfmfaaGreatDoorP41
import Derived.Test.YtcjdpilmhlfmfaaGreatDoorP29
import Derived.Test.YtcjdpilmhlfmfaaGreatDoorP01
import Derived.Test.YtcjdpilmhlfmfaaGreatDoorP35
import Derived.Test.YtcjdpilmhlfmfaaGreatDoorP39
namespace Go.Proofs.YtcjdpilmhlfmfaaGreatDoor
open Go.RowKit
open Go.Lib (byteCells)
set_option linter.unusedVariables false

set_option maxHeartbeats 8000000 in
set_option maxRecDepth 100000 in
theorem played_StoryReaders (b1 : Nat) (Q : Nat → Prop) (Inv : World → Wd → Prop) (W0 W : World) (hg : Gl W0) (bel : Below W0.heap.size W0 W) (l : List Lrc) (la : Option Addr) (lc ln : Nat) (S : SlRec W0 la lc l) (hl : ln = l.length)
    (hQ : ∀ q, Q q → W0.heap.size ≤ q ∧ q < W.heap.size) (hInv : ∀ V V' x, Inv V x → W.heap.size ≤ V.heap.size → Below V.heap.size V V' → Inv V' x) (hInv2 : ∀ V V' x g (a1 a2 a3 a4 : Option Addr) (n1 n2 n3 n4 c1 c2 c3 c4 : Nat) (u : Bool), Inv V x → W.heap.size ≤ g → Blk V g [.slice a1 n1 c1, .slice a2 n2 c2, .slice a3 n3 c3, .bool u, .slice a4 n4 c4] 30 → V.grownBy V' (some g) → Inv V' x) (h0 : Inv W wdNew)
    (hstep : ∀ (x z : Wd) (p : Pw) (V : World), JW x → JW z → (∃ M, recL z.d = recL x.d ++ M) → Below W0.heap.size W0 V → W.heap.size ≤ V.heap.size → IsW V p z → Inv V x → Calls Tryz.prog 20 #[p.val z.up, .pointer (some ⟨b1, 0, none⟩)] V fun e V' => e = .returned (.bool true) ∧ Inv V' z ∧ IsW V' p z ∧ Gq Q V V') :
    Calls Tryz.prog 18 #[.slice la ln lc, .func (.func 20) #[] #[.pointer (some ⟨b1, 0, none⟩)]] W fun e W' => e = .returned (.bool true) ∧ Below W0.heap.size W0 W' := by
  obtain ⟨k0, hk0⟩ : ∃ k0 : Nat, min (ln : Int) 60 = k0 := ⟨(min (ln : Int) 60).toNat, by omega⟩
  have hmin : ∀ (ts : Array TypeId) (t : TypeId) (V : World), (Builtin.min_ ts t #[.int .i64 (ln : Int), .int .i64 60]).run Tryz.prog V = .ok (.int .i64 (k0 : Int)) V := by
    intro ts t V
    rw [Lib.run_min_ints, hk0]
  have hlc : ln ≤ lc := by rw [hl]; exact S.row.le
  have hlm : lc ≤ 9223372036854775807 := S.row.max
  have hkn : k0 ≤ ln := by omega
  clear hk0
  replace hl := hide hl
  have hWs := bel.size
  go_enter Tryz.func18, Tryz.ntmps18
  go_wp2_with fail
  go_at_call 33
  refine (newW_any _).mono ?_
  rintro e w2 ⟨⟨ba, bn, bG, c1, bm1, bk1, c2, bm2, bk2, br, brn, brc⟩, rfl, I2, b0⟩
  simp only [Pw.val]
  have b := newB b0 (.cells #[.slice ba bn bG, .slice c1 bm1 bk1, .slice c2 bm2 bk2, .bool true, .slice br brn brc] 30)
  have BX := Blk.laid w2 [.slice ba bn bG, .slice c1 bm1 bk1, .slice c2 bm2 bk2, .bool true, .slice br brn brc] 30 _ rfl
  replace I2 := I2.alloc (.cells #[.slice ba bn bG, .slice c1 bm1 bk1, .slice c2 bm2 bk2, .bool true, .slice br brn brc] 30)
  have inv := hInv _ _ _ h0 (Nat.le_refl _) b
  have hWX : W.heap.size ≤ w2.heap.size := b0.size
  have hWw := b.size
  replace bel := belowCall bel b
  clear b b0 h0
  go_upto_region 2 with fail
  generalize w2.heap.size = gX at *
  generalize World.alloc w2 _ = w3 at *
  have hQX : ¬ Q gX := fun h => by have := (hQ gX h).2; omega
  go_wp2_with fail
  go_loopw [17] (fun i wr => ∃ (j : Nat) (P2 : Pw) (Z : Wd), j ≤ k0 ∧ i = .int .i64 j ∧ Blk wr gX (P2.cells Z.up) 30 ∧ IsW wr P2 Z ∧ Hid (JW Z) ∧ Hid (Inv wr Z) ∧ W.heap.size ≤ wr.heap.size ∧ Below W0.heap.size W0 wr) (fun i _ => k0 - (intOf i).toNat)
  case atStart => exact ⟨0, ⟨ba, bn, bG, c1, bm1, bk1, c2, bm2, bk2, br, brn, brc⟩, wdNew, Nat.zero_le _, rfl, BX, I2, hide jw_new, hide inv, hWw, bel⟩
  case round =>
    clear BX I2 inv bel hWw
    obtain ⟨j, ⟨ca, cn, cG, d1, dm1, dk1, d2, dm2, dk2, cr, crn, crc⟩, Z, hj, rfl, BX, I2, hZ, inv, hWw, bel⟩ := hrel
    simp only [Pw.cells] at BX
    by_cases hjk : j < k0
    · have hkl : j < l.length := by have := hl.out; omega
      obtain ⟨y, hy⟩ : ∃ y, l[j]? = some y := ⟨_, List.getElem?_eq_getElem hkl⟩
      obtain ⟨lb, lo, rfl, hlb⟩ := S.row.where Lrc.four (by decide) (by intro h; subst h; simp at hkl)
      have S' := S.keep bel (Nat.le_refl _)
      have t0 := S'.row.cell Lrc.four j 0 y _ hy rfl
      have t1 := S'.row.cell Lrc.four j 1 y _ hy rfl
      have t2 := S'.row.cell Lrc.four j 2 y _ hy rfl
      have t3 := S'.row.cell Lrc.four j 3 y _ hy rfl
      simp only [Nat.add_zero] at t0
      have llb := Nat.lt_of_lt_of_le hlb bel.size
      have hent := S'.ent y (List.mem_of_getElem? hy)
      obtain ⟨en, hen⟩ : ∃ en, en = y.r.e.length := ⟨_, rfl⟩
      have cD := fun V g i s => do_right (x := Z) (p := ⟨ca, cn, cG, d1, dm1, dk1, d2, dm2, dk2, cr, crn, crc⟩) (V := V) (ea := y.a) (eC := y.c) y.r.k y.r.s y.r.n y.r.e hZ.out.1 hen g i s
      have hJ := fun h => jw_step (x := ⟨y.r.k, y.r.s, y.r.n, y.r.e⟩) hZ.out h
      rw [← hen] at t3
      obtain ⟨⟨K, Sr, N, Y⟩, ya, yc⟩ := y
      simp only at *
      obtain ⟨HE, hHE⟩ : ∃ HE, HE = hapE Z ⟨K, Sr, N, Y⟩ := ⟨_, rfl⟩
      obtain ⟨Z2, hZ2⟩ : ∃ Z2, Z2 = hapW Z ⟨K, Sr, N, Y⟩ := ⟨_, rfl⟩
      rw [← hHE, ← hZ2] at cD hJ
      replace hHE := hide hHE
      replace hZ2 := hide hZ2
      replace hen := hide hen
      replace hy := hide hy
      have bc := newB (Below.refl wr.heap.size wr) (.cells #[.int .i64 K, .int .i64 Sr, .int .i64 N, .slice ya en yc] 69)
      have BC := Blk.laid wr [.int .i64 K, .int .i64 Sr, .int .i64 N, .slice ya en yc] 69 _ rfl
      replace BX := BX.keep bc BX.lt
      replace I2 := I2.call bc
      replace inv := hide (hInv _ _ _ inv.out hWw bc)
      have hent1 := hent.call bc
      replace hWw := Nat.le_trans hWw bc.size
      replace bel := belowCall bel bc
      clear S' hkl hent bc
      go_upto_region 5 with fail
      generalize wr.heap.size = gC at *
      generalize World.alloc wr _ = v1 at *
      clear t0 t1 t2 t3 llb
      have y0 := BC.cell 0
      have y1 := BC.cell 1
      have y2 := BC.cell 2
      have y3 := BC.cell 3
      have yl := BC.lt
      have x0 := BX.cell 0
      have x1 := BX.cell 1
      have x2 := BX.cell 2
      have x3 := BX.cell 3
      have x4 := BX.cell 4
      have xl := BX.lt
      go_wp2_with fail
      go_at_call 28
      refine (cD _ (hg.call bel) I2 hent1).mono ?_
      rintro e v2 ⟨⟨ea, un, uG, e1, um1, uk1, e2, um2, uk2, er, urn, urc⟩, rfl, I3, b0⟩
      simp only [Pw.val]
      have b := newB b0 (.cells #[.slice ea un uG, .slice e1 um1 uk1, .slice e2 um2 uk2, .bool Z2.up, .slice er urn urc] 30)
      have BY := Blk.laid v2 [.slice ea un uG, .slice e1 um1 uk1, .slice e2 um2 uk2, .bool Z2.up, .slice er urn urc] 30 _ rfl
      replace I3 := I3.alloc (.cells #[.slice ea un uG, .slice e1 um1 uk1, .slice e2 um2 uk2, .bool Z2.up, .slice er urn urc] 30)
      have nn : ¬ gX = v2.heap.size := by
        have := BX.lt
        have := b0.size
        omega
      clear x0 x1 x2 x3 x4 xl y0 y1 y2 y3 yl b0 BC hent1 cD
      replace BX := BX.keep b BX.lt
      replace I2 := I2.call b
      replace inv := hide (hInv _ _ _ inv.out hWw b)
      replace hWw := Nat.le_trans hWw b.size
      replace bel := belowCall bel b
      clear b
      go_upto_region 6 with fail
      have nn2 : ¬ v2.heap.size = gX := fun e => nn e.symm
      generalize v2.heap.size = gY at *
      generalize World.alloc v2 _ = v3 at *
      by_cases hz : HE = 0
      · subst hz
        obtain ⟨hJ2, hM⟩ := hJ rfl
        have hzX := right_shelf hJ2.1
        have B9 := put5r BX (.slice ea un uG) (.slice e1 um1 uk1) (.slice e2 um2 uk2) (.bool Z2.up) (.slice er urn urc)
        have bel9 := below5r bel (Nat.le_trans hWs hWX) (.slice ea un uG) (.slice e1 um1 uk1) (.slice e2 um2 uk2) (.bool Z2.up) (.slice er urn urc)
        have belW := below5r (Below.refl W.heap.size v3) hWX (.slice ea un uG) (.slice e1 um1 uk1) (.slice e2 um2 uk2) (.bool Z2.up) (.slice er urn urc)
        have I9 := I3.boxW hzX BX (gbPut5 (w := v3) (g := gX) (.slice ea un uG) (.slice e1 um1 uk1) (.slice e2 um2 uk2) (.bool Z2.up) (.slice er urn urc))
        have inv9 := hInv2 _ _ _ _ _ _ _ _ _ _ _ _ _ _ _ _ _ inv.out hWX BX (gbPut5 (w := v3) (g := gX) (.slice ea un uG) (.slice e1 um1 uk1) (.slice e2 um2 uk2) (.bool Z2.up) (.slice er urn urc))
        have hW9 := Nat.le_trans hWw belW.size
        replace B9 := hide B9
        replace bel9 := hide bel9
        replace I9 := hide I9
        replace inv9 := hide inv9
        replace hJ2 := hide hJ2
        replace hM := hide hM
        replace hW9 := hide hW9
        replace bel := hide bel
        have z0 := BY.cell 0
        have z1 := BY.cell 1
        have z2 := BY.cell 2
        have z3 := BY.cell 3
        have z4 := BY.cell 4
        have zl := BY.lt
        have x0 := BX.cell 0
        have f0 := BX.free 0
        have x1 := BX.cell 1
        have f1 := BX.free 1
        have x2 := BX.cell 2
        have f2 := BX.free 2
        have x3 := BX.cell 3
        have f3 := BX.free 3
        have x4 := BX.cell 4
        have f4 := BX.free 4
        have xl := BX.lt
        clear hJ I2 I3 BY hzX belW inv hWw
        go_upto_region 8 with fail
        clear x0 f0 x1 f1 x2 f2 x3 f3 x4 f4 xl z0 z1 z2 z3 z4 zl BX bel
        have BX := B9.out
        have bel := bel9.out
        have I2 := I9.out
        have hWw := hW9.out
        clear B9 bel9 I9 hW9
        generalize World.setCell (World.setCell (World.setCell (World.setCell (World.setCell v3 _ _) _ _) _ _) _ _) _ _ = v4 at *
        have x0 := BX.cell 0
        have x1 := BX.cell 1
        have x2 := BX.cell 2
        have x3 := BX.cell 3
        have x4 := BX.cell 4
        have xl := BX.lt
        go_wp2_with fail
        go_at_call 20
        refine (hstep Z Z2 _ _ hZ.out hJ2.out hM.out bel hWw I2 inv9.out).mono ?_
        rintro e v5 ⟨rfl, inv2, I4, gq⟩
        clear x0 x1 x2 x3 x4 xl I2 inv9
        replace BX := BX.gq gq hQX
        replace bel := bel.trans (gq.from (fun q h => (hQ q h).1) bel.size)
        replace hWw := Nat.le_trans hWw gq.size
        clear gq
        go_wp2_with fail
        go_roundw
        case rel => exact ⟨j + 1, ⟨ea, un, uG, e1, um1, uk1, e2, um2, uk2, er, urn, urc⟩, Z2, Nat.succ_le_of_lt hjk, by go_num, BX, I4, hJ2, hide inv2, hWw, bel⟩
        case measure =>
          have := Nat.sub_lt_sub_left hjk (Nat.lt_succ_self j)
          simpa [intOf] using this
      · have hd : decide (HE = 0) = false := decide_eq_false hz
        have hd2 : (HE == 0) = false := by simpa using hz
        clear hJ I3 BY
        go_wp2_with fail
        go_roundw
        case rel => exact ⟨j + 1, ⟨ca, cn, cG, d1, dm1, dk1, d2, dm2, dk2, cr, crn, crc⟩, Z, Nat.succ_le_of_lt hjk, by go_num, BX, I2, hZ, inv, hWw, bel⟩
        case measure =>
          have := Nat.sub_lt_sub_left hjk (Nat.lt_succ_self j)
          simpa [intOf] using this
    · obtain rfl : j = k0 := Nat.le_antisymm hj (Nat.le_of_not_lt hjk)
      go_wp2_with fail
      go_ret
      exact ⟨rfl, bel⟩

end Go.Proofs.YtcjdpilmhlfmfaaGreatDoor

/-
  What the closures of the story laws share: reading, ranges.
-/
namespace Go.Proofs.YtcjdpilmhlfmfaaGreatDoor
open Go.RowKit
open Go.Lib (byteCells)
set_option linter.unusedVariables false

theorem c_range {C : List Rw} {a : Option Addr} {cn G : Nat} {V : World} {L : List Pt} (s f t : Int) (hL : rngL (allL C s) f t = L) (hE : allE C s = 0) (h : IsS V a G C) (hcn : cn = C.length) :
    Calls Tryz.prog 22 #[.agg #[.slice a cn G], .int .i64 s, .int .i64 f, .int .i64 t] V fun e w' => ∃ a' n G', e = .returned (.tuple #[.slice a' n G', .int .i64 0]) ∧ Hid (n = L.length) ∧ SlP w' a' G' L ∧ Below V.heap.size V w' := by
  subst hL
  refine (range_is s f t h hcn).mono ?_
  rintro e w' ⟨a', G', rfl, o, b⟩
  exact ⟨a', _, G', by rw [hE], hide rfl, slP_own' o, b⟩

theorem c_read {x : Wd} {p : Pw} {V : World} {L : List Pt} {E : Int} (r s f t : Int) (h : wdE x = 0) (hL : readL x r s f t = L) (hE : readE x r s = E) (gl : Gl V) (I : IsW V p x) :
    Calls Tryz.prog 21 #[p.val x.up, .int .i64 r, .int .i64 s, .int .i64 f, .int .i64 t] V fun e w' => ∃ a' n G', e = .returned (.tuple #[.slice a' n G', .int .i64 E]) ∧ Hid (n = L.length) ∧ SlP w' a' G' L ∧ Below V.heap.size V w' := by
  subst hL hE
  refine (read_any' x p r s f t V gl I (few_jw I h).1 (few_jw I h).2).mono ?_
  rintro e w' ⟨a', n, G', rfl, hn, o, b⟩
  exact ⟨a', _, G', rfl, hn, slP_own' o, b⟩

theorem jw_read {z : Wd} (J : JW z) {k s : Nat} (hk : k < 3) (hs : s < 4) :
    (z.rd.getD k 0 < 0 → readE z k s = 7) ∧ (0 ≤ z.rd.getD k 0 → ∃ V : Nat, z.rd.getD k 0 = V ∧ V ≤ verN z ∧ readE z k s = 0 ∧ readL z k s 0 100001 = atL z V s) := by
  obtain ⟨r1, r2, r3, r4, r5, r6⟩ := wd_right J.1
  have hin : rdOk z.up (wdL z).length (z.rd.getD k 0) = true := r6 _ (by rw [List.getD_eq_getElem?_getD, List.getElem?_eq_getElem (by omega)]; exact List.getElem_mem _)
  generalize hv : z.rd.getD k 0 = v at *
  refine ⟨fun h => ?_, fun h => ?_⟩
  · unfold readE
    rw [if_neg (by simp [J.1]), if_neg (fun q => q ⟨by omega, by omega⟩), Int.toNat_natCast, hv, if_pos h]
  · unfold rdOk at hin
    simp only [Bool.and_eq_true, Bool.or_eq_true, decide_eq_true_eq] at hin
    obtain ⟨⟨_, hvn⟩, hvu⟩ := hin
    have hup : z.up = true := hvu.elim id (fun e => by omega)
    have hwl : wdL z = recL z.d := if_pos hup
    rw [hwl] at hvn
    obtain ⟨V, rfl⟩ : ∃ V : Nat, v = V := ⟨v.toNat, by omega⟩
    have hV : V ≤ verN z := by unfold verN; omega
    obtain ⟨e1, e2⟩ := jw_at J hV hs
    obtain ⟨a1, a2⟩ := all_right (repl_right (repl_take J.2 V)) hs
    have e : readE z k s = 0 := by
      unfold readE
      rw [if_neg (by simp [J.1]), if_neg (fun q => q ⟨by omega, by omega⟩), Int.toNat_natCast, hv, if_neg (by omega), Int.toNat_natCast]
      exact a1
    refine ⟨V, rfl, hV, e, ?_⟩
    unfold readL
    rw [if_pos e, Int.toNat_natCast, hv, Int.toNat_natCast, rng_all (allL_check _ _), a2, e2]

theorem jw_shelf {z : Wd} (J : JW z) {s : Nat} (hs : s < 4) : allE z.c s = 0 ∧ (z.up = true → rngL (allL z.c s) 0 100001 = atL z (verN z) s) ∧ (z.up = false → rngL (allL z.c s) 0 100001 = []) := by
  obtain ⟨r1, r2, r3, r4, r5, r6⟩ := wd_right J.1
  obtain ⟨a1, a2⟩ := all_right (right_shelf J.1) hs
  refine ⟨a1, fun hu => ?_, fun hu => ?_⟩
  · rw [rng_all (allL_check _ _), a2, (jw_at J (Nat.le_refl _) hs).2]
    unfold verN
    rw [List.take_length, (wd_up J.1 hu).2.2.1]
  · have hwl : wdL z = [] := by unfold wdL; rw [hu]; rfl
    rw [hwl] at r4
    rw [rng_all (allL_check _ _), a2, r4]
    match s, hs with
    | 0, _ => rfl
    | 1, _ => rfl
    | 2, _ => rfl
    | 3, _ => rfl

end Go.Proofs.YtcjdpilmhlfmfaaGreatDoor

/-
  StoryReaders: what its closure does at each moment.
-/
namespace Go.Proofs.YtcjdpilmhlfmfaaGreatDoor
open Go.RowKit
open Go.Lib (byteCells)
set_option linter.unusedVariables false

set_option maxHeartbeats 8000000 in
set_option maxRecDepth 100000 in
theorem readers_step (b1 s : Nat) (hs : s < 4) (W0 : World) (hg : Gl W0) (z : Wd) (p : Pw) (V : World) (Jz : JW z) (bel : Below W0.heap.size W0 V) (I : IsW V p z) (B1 : Blk V b1 [.int .i64 (s : Int)] 3) :
    Calls Tryz.prog 20 #[p.val z.up, .pointer (some ⟨b1, 0, none⟩)] V fun e V' => e = .returned (.bool true) ∧ Below V.heap.size V V' := by
  have cV := fun W g i => c_versions (x := z) (p := p) (w := W) Jz g i
  have cA := fun (v : Nat) hv W g i => c_at (x := z) (p := p) (w := W) v s Jz hv hs g i
  have cR := fun (k : Nat) L E hL hE W g i => c_read (x := z) (p := p) (V := W) (L := L) (E := E) (k : Int) (s : Int) 0 100001 Jz.1 hL hE g i
  have hRd := fun (k : Nat) hk => jw_read (k := k) Jz hk hs
  obtain ⟨hE0, hUp, hDn⟩ := jw_shelf Jz hs
  have r5 := (wd_right Jz.1).2.2.2.2.1
  have hAl := fun v => Nat.le_trans (atL_few z v s) (show 40 ≤ 4611686018427387904 by decide)
  have hrn : p.rn = 3 := by rw [I.er]; exact r5
  obtain ⟨R, hR⟩ : ∃ R, R = z.rd := ⟨_, rfl⟩
  have SR0 : ∀ W, IsW W p z → Sl W p.ra p.rc (R.map (Value.int .i64)) := fun W i => by rw [hR]; exact i.r
  rw [← hR] at hRd r5
  have hS0 : ∀ W, IsW W p z → IsS W p.sa p.sG z.c ∧ p.sn = z.c.length := fun W i => ⟨i.s, i.es⟩
  obtain ⟨U, hU⟩ : ∃ U, U = z.up := ⟨_, rfl⟩
  rw [← hU] at cV cA cR hUp hDn ⊢
  replace hU := hide hU
  replace hR := hide hR
  obtain ⟨sa, sn, sG, a1, n1, c1, a2, n2, c2, ra, rn, rc⟩ := p
  simp only at hrn
  subst hrn
  obtain ⟨rb, ro, rfl, hj1, _⟩ := (SR0 _ I).row.at (by intro e; rw [List.map_eq_nil_iff] at e; rw [e] at r5; simp at r5)
  simp only [Pw.val] at *
  replace r5 := hide r5
  have BX := Blk.laid V [.slice sa sn sG, .slice a1 n1 c1, .slice a2 n2 c2, .bool U, .slice (some ⟨rb, ro, none⟩) 3 rc] 30 _ rfl
  have bl := newB (Below.refl V.heap.size V) (.cells #[.slice sa sn sG, .slice a1 n1 c1, .slice a2 n2 c2, .bool U, .slice (some ⟨rb, ro, none⟩) 3 rc] 30)
  replace B1 := B1.keep bl B1.lt
  replace I := I.call bl
  clear hj1 Jz
  go_enter Tryz.func20, Tryz.ntmps20
  go_upto_region 1 with fail
  generalize World.alloc V _ = w1 at *
  have x0 := BX.cell 0
  have x1 := BX.cell 1
  have x2 := BX.cell 2
  have x3 := BX.cell 3
  have x4 := BX.cell 4
  have xl := BX.lt
  have y0 := B1.cell 0
  have yl := B1.lt
  go_wp2_with fail
  clear x0 x1 x2 x3 x4 xl y0 yl
  go_loopw [19] (fun i wr => ∃ (j : Nat), j ≤ 3 ∧ i = .int .i64 j ∧ Blk wr V.heap.size [.slice sa sn sG, .slice a1 n1 c1, .slice a2 n2 c2, .bool U, .slice (some ⟨rb, ro, none⟩) 3 rc] 30 ∧ Blk wr b1 [.int .i64 (s : Int)] 3 ∧ IsW wr ⟨sa, sn, sG, a1, n1, c1, a2, n2, c2, some ⟨rb, ro, none⟩, 3, rc⟩ z ∧ Below V.heap.size V wr) (fun i _ => 3 - (intOf i).toNat)
  case atStart => exact ⟨0, by omega, rfl, BX, B1, I, bl⟩
  case round =>
    clear BX B1 I bl
    obtain ⟨j, hj, rfl, BX, B1, I, bl⟩ := hrel
    by_cases hlt : j < 3
    · obtain ⟨d1, d2⟩ := hRd j hlt
      have r0 := (SR0 _ I).int j (by have := r5.out; omega)
      generalize hv : R.getD j 0 = v at *
      clear hv
      have hjI : (j : Int) < 3 := by omega
      by_cases hv0 : v < 0
      · have c7 := cR j (readL z j s 0 100001) 7 rfl (d1 hv0)
        generalize readL z j s 0 100001 = L7 at *
        have x0 := BX.cell 0
        have x1 := BX.cell 1
        have x2 := BX.cell 2
        have x3 := BX.cell 3
        have x4 := BX.cell 4
        have xl := BX.lt
        have y0 := B1.cell 0
        have yl := B1.lt
        go_wp2_with fail
        go_at_call 21
        refine (c7 _ (hg.call (belowCall bel bl)) I).mono ?_
        rintro e w2 ⟨a3, n3, G3, rfl, hn3, T1, b⟩
        clear x0 x1 x2 x3 x4 xl y0 yl
        replace BX := BX.keep b BX.lt
        replace B1 := B1.keep b B1.lt
        replace I := I.call b
        clear T1 hn3 r0
        replace bl := belowCall bl b
        clear b
        have x0 := BX.cell 0
        have x1 := BX.cell 1
        have x2 := BX.cell 2
        have x3 := BX.cell 3
        have x4 := BX.cell 4
        have xl := BX.lt
        have y0 := B1.cell 0
        have yl := B1.lt
        clear x0 x1 x2 x3 x4 xl y0 yl
        go_wp2_with fail
        go_roundw
        case rel => exact ⟨j + 1, by omega, by go_num, BX, B1, I, bl⟩
        case measure => simp [intOf]; omega
      · obtain ⟨q, rfl, hq, e0, eL⟩ := d2 (by omega)
        have c0 := cR j (atL z q s) 0 eL e0
        have cq := cA q hq
        have hlq := hAl q
        generalize atL z q s = P at *
        have x0 := BX.cell 0
        have x1 := BX.cell 1
        have x2 := BX.cell 2
        have x3 := BX.cell 3
        have x4 := BX.cell 4
        have xl := BX.lt
        have y0 := B1.cell 0
        have yl := B1.lt
        go_wp2_with fail
        go_at_call 21
        refine (c0 _ (hg.call (belowCall bel bl)) I).mono ?_
        rintro e w2 ⟨a3, n3, G3, rfl, hn3, T1, b⟩
        clear r0 eL e0
        clear x0 x1 x2 x3 x4 xl y0 yl
        replace BX := BX.keep b BX.lt
        replace B1 := B1.keep b B1.lt
        replace I := I.call b
        replace bl := belowCall bl b
        clear b
        have x0 := BX.cell 0
        have x1 := BX.cell 1
        have x2 := BX.cell 2
        have x3 := BX.cell 3
        have x4 := BX.cell 4
        have xl := BX.lt
        have y0 := B1.cell 0
        have yl := B1.lt
        go_wp2_with fail
        go_at_call 10
        refine (cq _ (hg.call (belowCall bel bl)) I).mono ?_
        rintro e w3 ⟨a4, n4, G4, rfl, hn4, T2, b⟩
        clear x0 x1 x2 x3 x4 xl y0 yl
        replace BX := BX.keep b BX.lt
        replace B1 := B1.keep b B1.lt
        replace I := I.call b
        replace T1 := T1.keep b (Nat.le_refl _)
        replace bl := belowCall bl b
        clear b
        have x0 := BX.cell 0
        have x1 := BX.cell 1
        have x2 := BX.cell 2
        have x3 := BX.cell 3
        have x4 := BX.cell 4
        have xl := BX.lt
        have y0 := B1.cell 0
        have yl := B1.lt
        go_wp2_with fail
        go_at_call 16
        refine (c_eqP hlq T1 T2 hn3 hn4).mono ?_
        rintro e w4 ⟨rfl, b⟩
        clear T1 T2 hn3 hn4
        clear x0 x1 x2 x3 x4 xl y0 yl
        replace BX := BX.keep b BX.lt
        replace B1 := B1.keep b B1.lt
        replace I := I.call b
        replace bl := belowCall bl b
        clear b
        have x0 := BX.cell 0
        have x1 := BX.cell 1
        have x2 := BX.cell 2
        have x3 := BX.cell 3
        have x4 := BX.cell 4
        have xl := BX.lt
        have y0 := B1.cell 0
        have yl := B1.lt
        clear x0 x1 x2 x3 x4 xl y0 yl
        go_wp2_with fail
        go_roundw
        case rel => exact ⟨j + 1, by omega, by go_num, BX, B1, I, bl⟩
        case measure => simp [intOf]; omega
    · obtain rfl : j = 3 := by omega
      obtain ⟨m, hm⟩ : ∃ m, m = verN z := ⟨_, rfl⟩
      have cm := cA (verN z) (Nat.le_refl _)
      have hlm := hAl (verN z)
      rw [← hm] at cm cV hUp hlm
      generalize atL z m s = P at *
      clear hm
      cases U with
      | true =>
        have hL := hUp rfl
        have cG := fun W a cn G i e => c_range (C := z.c) (a := a) (cn := cn) (G := G) (V := W) (s : Int) 0 100001 hL hE0 i e
        clear hL hUp hDn hRd cR cA
        have x0 := BX.cell 0
        have x1 := BX.cell 1
        have x2 := BX.cell 2
        have x3 := BX.cell 3
        have x4 := BX.cell 4
        have xl := BX.lt
        have y0 := B1.cell 0
        have yl := B1.lt
        go_wp2_with fail
        go_at_call 9
        refine (cV _ (hg.call (belowCall bel bl)) I).mono ?_
        rintro e w2 ⟨rfl, b⟩
        clear x0 x1 x2 x3 x4 xl y0 yl
        replace BX := BX.keep b BX.lt
        replace B1 := B1.keep b B1.lt
        replace I := I.call b
        replace bl := belowCall bl b
        clear b
        have x0 := BX.cell 0
        have x1 := BX.cell 1
        have x2 := BX.cell 2
        have x3 := BX.cell 3
        have x4 := BX.cell 4
        have xl := BX.lt
        have y0 := B1.cell 0
        have yl := B1.lt
        go_wp2_with fail
        go_at_call 10
        refine (cm _ (hg.call (belowCall bel bl)) I).mono ?_
        rintro e w3 ⟨a4, n4, G4, rfl, hn4, T2, b⟩
        clear x0 x1 x2 x3 x4 xl y0 yl
        replace BX := BX.keep b BX.lt
        replace B1 := B1.keep b B1.lt
        replace I := I.call b
        replace bl := belowCall bl b
        clear b
        have x0 := BX.cell 0
        have x1 := BX.cell 1
        have x2 := BX.cell 2
        have x3 := BX.cell 3
        have x4 := BX.cell 4
        have xl := BX.lt
        have y0 := B1.cell 0
        have yl := B1.lt
        go_wp2_with fail
        go_at_call 22
        refine (cG _ _ _ _ (hS0 _ I).1 (hS0 _ I).2).mono ?_
        rintro e w4 ⟨a5, n5, G5, rfl, hn5, T3, b⟩
        clear x0 x1 x2 x3 x4 xl y0 yl
        replace BX := BX.keep b BX.lt
        replace B1 := B1.keep b B1.lt
        replace I := I.call b
        replace T2 := T2.keep b (Nat.le_refl _)
        replace bl := belowCall bl b
        clear b
        have x0 := BX.cell 0
        have x1 := BX.cell 1
        have x2 := BX.cell 2
        have x3 := BX.cell 3
        have x4 := BX.cell 4
        have xl := BX.lt
        have y0 := B1.cell 0
        have yl := B1.lt
        go_wp2_with fail
        go_at_call 16
        refine (c_eqP hlm T2 T3 hn4 hn5).mono ?_
        rintro e w5 ⟨rfl, b⟩
        go_wp2_with fail
        go_ret
        exact ⟨rfl, belowCall bl b⟩
      | false =>
        have hL := hDn rfl
        have cG := fun W a cn G i e => c_range (C := z.c) (a := a) (cn := cn) (G := G) (V := W) (s : Int) 0 100001 hL hE0 i e
        clear hL hUp hDn hRd cR cA
        have x0 := BX.cell 0
        have x1 := BX.cell 1
        have x2 := BX.cell 2
        have x3 := BX.cell 3
        have x4 := BX.cell 4
        have xl := BX.lt
        have y0 := B1.cell 0
        have yl := B1.lt
        go_wp2_with fail
        go_at_call 9
        refine (cV _ (hg.call (belowCall bel bl)) I).mono ?_
        rintro e w2 ⟨rfl, b⟩
        clear x0 x1 x2 x3 x4 xl y0 yl
        replace BX := BX.keep b BX.lt
        replace B1 := B1.keep b B1.lt
        replace I := I.call b
        replace bl := belowCall bl b
        clear b
        have x0 := BX.cell 0
        have x1 := BX.cell 1
        have x2 := BX.cell 2
        have x3 := BX.cell 3
        have x4 := BX.cell 4
        have xl := BX.lt
        have y0 := B1.cell 0
        have yl := B1.lt
        go_wp2_with fail
        go_at_call 10
        refine (cm _ (hg.call (belowCall bel bl)) I).mono ?_
        rintro e w3 ⟨a4, n4, G4, rfl, hn4, T2, b⟩
        clear x0 x1 x2 x3 x4 xl y0 yl
        replace BX := BX.keep b BX.lt
        replace B1 := B1.keep b B1.lt
        replace I := I.call b
        replace bl := belowCall bl b
        clear b
        have x0 := BX.cell 0
        have x1 := BX.cell 1
        have x2 := BX.cell 2
        have x3 := BX.cell 3
        have x4 := BX.cell 4
        have xl := BX.lt
        have y0 := B1.cell 0
        have yl := B1.lt
        go_wp2_with fail
        go_at_call 22
        refine (cG _ _ _ _ (hS0 _ I).1 (hS0 _ I).2).mono ?_
        rintro e w4 ⟨a5, n5, G5, rfl, hn5, T3, b⟩
        clear x0 x1 x2 x3 x4 xl y0 yl
        replace BX := BX.keep b BX.lt
        replace B1 := B1.keep b B1.lt
        replace I := I.call b
        replace T2 := T2.keep b (Nat.le_refl _)
        replace bl := belowCall bl b
        clear b
        have x0 := BX.cell 0
        have x1 := BX.cell 1
        have x2 := BX.cell 2
        have x3 := BX.cell 3
        have x4 := BX.cell 4
        have xl := BX.lt
        have y0 := B1.cell 0
        have yl := B1.lt
        have hn0 : n5 = 0 := hn5.out
        subst hn0
        go_wp2_with fail
        go_ret
        exact ⟨rfl, bl⟩

end Go.Proofs.YtcjdpilmhlfmfaaGreatDoor

/-
  The walk of StoryReaders.
-/
namespace Go.Proofs.YtcjdpilmhlfmfaaGreatDoor
open Go.RowKit
open Go.Lib (byteCells)
set_option linter.unusedVariables false

set_option maxHeartbeats 8000000 in
set_option maxRecDepth 100000 in
theorem readers_walk (W : World) (hg : Gl W) (l : List Lrc) (la : Option Addr) (lc ln : Nat) (S : SlRec W la lc l) (hl : ln = l.length) (s0 : Int) (_ : (Lit.int .i64 s0).wf = true) :
    Calls Tryz.prog 5 #[.slice la ln lc, .int .i64 s0] W fun e w' => e = .returned (.bool true) ∧ Below W.heap.size W w' := by
  have h1 := Int.emod_nonneg s0 (show (4 : Int) ≠ 0 by omega)
  have h2 := Int.emod_lt_of_pos s0 (show 0 < (4 : Int) by omega)
  obtain ⟨s, hs'⟩ : ∃ s : Nat, s0 % 4 = s := ⟨(s0 % 4).toNat, by omega⟩
  have hs : s < 4 := by omega
  have cS := fun V => at_any s0 4 V (by omega) (by omega)
  rw [hs'] at cS
  clear h1 h2 hs'
  have BS := Blk.laid W [.int .i64 s0] 3 _ rfl
  have bel := newB (Below.refl W.heap.size W) (.cells #[.int .i64 s0] 3)
  replace hl := hide hl
  go_enter Tryz.func5, Tryz.ntmps5
  go_upto_region 1 with fail
  generalize World.alloc W _ = w1 at *
  have x0 := BS.cell 0
  have f0 := BS.free 0
  have xl := BS.lt
  have B9 := BS.set 0 (.int .i64 (s : Int))
  simp only [List.set_cons_zero] at B9
  have bel9 := bel.setCell (p := ⟨W.heap.size, 0, none⟩) (Nat.le_refl _) (.int .i64 (s : Int))
  replace B9 := hide B9
  replace bel9 := hide bel9
  clear BS bel
  go_wp2_with fail
  go_at_call 17
  refine (cS _).mono ?_
  rintro e w2 ⟨rfl, rfl⟩
  go_upto_region 2 with fail
  clear x0 f0 xl
  have BS := B9.out
  have bel := bel9.out
  clear B9 bel9
  generalize World.setCell w1 _ _ = w3 at *
  go_wp2_with fail
  go_at_call 12
  refine (told_any _ (hg.call bel)).mono ?_
  rintro e w4 ⟨rfl, b⟩
  replace BS := BS.keep b BS.lt
  replace bel := belowCall bel b
  clear b
  have lS := BS.lt
  go_wp2_with fail
  go_at_call 18
  refine (played_StoryReaders W.heap.size (fun _ => False) (fun V _ => Blk V W.heap.size [.int .i64 (s : Int)] 3) W w4 hg bel l la lc ln S hl.out (fun q h => h.elim)
    (fun V V' x k hsz bb' => k.keep bb' k.lt) (fun V V' x g a1 a2 a3 a4 n1 n2 n3 n4 c1 c2 c3 c4 u k hgW BB gr => (gr.block _ k.lt (fun e => by have := Option.some.inj e; omega)).trans k) BS
    (fun x z p V Jx Jz hM bb hsz I inv => (readers_step W.heap.size s hs W hg z p V Jz bb I inv).mono fun e V' h => ⟨h.1, inv.keep h.2 inv.lt, I.call h.2, Gq.below h.2⟩)).mono ?_
  rintro e w5 ⟨rfl, b⟩
  go_wp2_with fail
  go_ret
  exact ⟨rfl, b⟩

end Go.Proofs.YtcjdpilmhlfmfaaGreatDoor

/-
  Proved: for any list of happenings, any number, StoryReaders returns true and leaves its arguments as they were: each reader sees what was there at its version; the shelf, when it is up, is what is there at the last one. Conditions: the listed variables of Go's library start as the program's text lays them (tied by the card).
-/
namespace Go.Proofs.YtcjdpilmhlfmfaaGreatDoor.storyReaders
open Go.ChangeShapes Go.WideShapes Go.ChangeAt Go.RowKit Go.ChangeMaps
set_option linter.unusedVariables false

def laidL : List (String × DataW Unit) := Rows.storyReadersRow.laid

set_option maxRecDepth 100000 in
theorem lifted (os : Os) (started : os.Started) (H : Type) (enc : TypeId × Value → H) :
    ReturnsInHanded {} Tryz.checked os 5 .any (fun w args => (Rows.storyReadersSpec.pre enc Tryz.prog Tryz.f5 [] false w args ∧ laidMetH Tryz.prog laidL w) ∧ sizedMet enc Tryz.prog Tryz.f5 (OpenSpec.ofChange Rows.storyReadersSpec) false w args)
      (Rows.storyReadersSpec.post enc Tryz.prog Tryz.f5 false true false false) := by
  refine returns_both (C := Tryz.checked) (X := fun w _ => laidMetH Tryz.prog laidL w) (fun _ _ _ hh h => h.of_heap hh) own started (by kernel_rfl) Tryz.func5
    (ChangeSpec.witness_shaped (enc := enc) (C := Tryz.checked) (os := os) (X := fun w _ => laidMetH Tryz.prog laidL w) false (World.laidAll Tryz.prog os laidL) #[.slice none 0 0, .int .i64 0] 8 (World.laidAll_os _ _ _)
      (World.shaped_of_ZipB (by kernel_rfl) (by kernel_rfl)) (by kernel_rfl) (by kernel_rfl) (by kernel_rfl)
      (by rw [MakeChecks.laidMetH_plain _ _ _ (by kernel_rfl)]; exact laidMet_laidAll _ (by kernel_rfl) (by kernel_rfl))) ?_
  intro W base args ds gs before hval0 hW hsz0 hL hsh
  have hsz : (DataW.weightsEach Tryz.prog (Tryz.f5.params.toList ++ Rows.storyReadersSpec.plain.varTypes Tryz.prog) (ds ++ gs)).all (· ≤ reachBytes) = true := hsz0
  have hval : ∀ (j : Nat) t v, Tryz.f5.params[j]? = some t → args[j]? = some v → Value.okWide Tryz.prog W .any base t v := hval0
  have hW' := hW
  obtain ⟨p, q, hA0, hV, rfl, hfz, hnd⟩ := hW
  have hA : DataW.TrodAll enc Tryz.prog W 0 (fun _ => true) true Tryz.f5.params.toList args.toList ds p := hA0
  rw [Tryz.params5] at hA hval hsz
  obtain ⟨v0, vs0, d0, ds0, p0, q0, hargs, rfl, rfl, h0, r0⟩ := trodAll_cons hA
  obtain ⟨v1, vs1, d1, ds1, p1, q1, rfl, rfl, rfl, h1, r1⟩ := trodAll_cons r0
  obtain ⟨rfl, rfl, rfl⟩ := trodAll_nil r1
  obtain rfl : args = #[v0, v1] := by cases args; simp_all
  obtain ⟨rfl, rfl⟩ := trodVars_none hV
  have k0 := h0
  have lt0 : ∀ x ∈ p0, x.block < W.heap.size := by obtain ⟨m, hm⟩ := k0; exact DataW.trod_lt m _ _ _ hm
  obtain ⟨a0, len0, cap0, rfl⟩ := okWide_slice Tryz.underlying52 (hval 0 52 v0 rfl rfl)
  obtain ⟨l0, hl0, s0, _⟩ := open_haps h0 (rec_light (j := 0) hsz rfl rfl)
  obtain ⟨a1, rfl, rfl, rfl, w1⟩ := open_int Tryz.underlying3 (hval 1 3 v1 rfl rfl) h1
  rw [MakeChecks.laidMetH_plain _ _ _ (by kernel_rfl)] at hL
  have g := glob_of hL hsh
  refine (readers_walk W g l0 a0 cap0 len0 s0 hl0.symm a1 w1).mono fun e W' ⟨he, bel⟩ => ?_
  subst he
  exact ⟨_, rfl, _, _, _, [], _, [], hW', trodAll_mk1 (shut_bool Tryz.underlying4 _), (trodAll_cons_mk (Below.trod laidOut (by kernel_rfl) (of_decide_eq_true (by kernel_rfl)) k0 bel lt0) (trodAll_cons_mk (shut_int Tryz.underlying3 w1) trodAll_mk0)), rfl, bel.frame _, fun h => by cases h⟩

theorem row_holds : Rows.StoryReadersSaid :=
  OpenClaim.holds_of_wide 5 Tryz.f5 rfl rfl rfl rfl rfl rfl rfl ⟨rfl, rfl, rfl, rfl, rfl⟩ rfl rfl rfl rfl rfl (by kernel_rfl) Tryz.func5 (by kernel_rfl)
    (of_decide_eq_true (by kernel_rfl)) (by unfold Func.isWrapper; first | (rw [if_pos (by decide +kernel)]; kernel_rfl) | (rw [if_neg (by decide +kernel)]; exact ⟨rfl, rfl⟩))
    (fun os started H enc _ => lifted os started H enc)
end Go.Proofs.YtcjdpilmhlfmfaaGreatDoor.storyReaders
