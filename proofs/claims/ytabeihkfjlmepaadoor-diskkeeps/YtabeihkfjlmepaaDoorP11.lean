/-
  'at' of the laws: a number brought within bounds; it touches no memory.
-/
import Derived.Test.YtabeihkfjlmepaaDoorRows
import Derived.Test.YtabeihkfjlmepaaDoorCards
import Derived.Test.YtabeihkfjlmepaaDoorTie
import Derived.ProofKit
import Derived.ChangeMaps5
import Derived.LaidMore
import Derived.Stop.Joined
import Derived.SevenTiedAt
import Derived.Test.YtabeihkfjlmepaaDoorP01
import Derived.Test.YtabeihkfjlmepaaDoorP09
import Derived.Test.YtabeihkfjlmepaaDoorP10
import Derived.Test.YtabeihkfjlmepaaDoorP03
namespace Go.Proofs.YtabeihkfjlmepaaDoor
open Go.RowKit

/-- 'at': a number brought within bounds. -/
theorem at_any (k n : Int) (w : World) (hn : 1 ≤ n) (hn2 : n ≤ 1152921504606846976) :
    Calls Tryd.prog 19 #[.int .i64 k, .int .i64 n] w fun e w' => e = .returned (.int .i64 (k % n)) ∧ w = w' := by
  go_enter Tryd.func19, Tryd.ntmps19
  go_wp2
  · have h : k.tmod n < 0 := by assumption
    go_ret
    have e := tmod_up' hn h
    have b1 := Int.emod_nonneg k (show n ≠ 0 by omega)
    have b2 := Int.emod_lt_of_pos k (show 0 < n by omega)
    exact ⟨ret_int (by rw [e]; unfold wrap64; omega), rfl⟩
  · have h : 0 ≤ k.tmod n := by assumption
    go_ret
    exact ⟨ret_int (tmod_up hn h), rfl⟩

end Go.Proofs.YtabeihkfjlmepaaDoor

/-
  DiskKeeps: the walk.
-/
namespace Go.Proofs.YtabeihkfjlmepaaDoor.diskKeeps
open Go.RowKit
open Go.Lib (byteCells)
set_option linter.unusedVariables false

theorem belowGb {a b c : World} {g : Nat} (h : Below a.heap.size a b) (k : b.grownBy c (some g)) (hg : a.heap.size ≤ g) : Below a.heap.size a c :=
  ⟨k.os.trans h.os, k.tape.trans h.tape, k.output.trans h.output, Nat.le_trans h.size k.size, fun j hj => (k.block j (Nat.lt_of_lt_of_le hj h.size) (fun e => by have := Option.some.inj e; omega)).trans (h.block j hj)⟩

/-- What is put on an empty disk, and synced; what is put behind it. -/
theorem math (A B : List Rc) (hA : A.length ≤ 20) (hB : B.length ≤ 20) : ∃ LA LB, (dputsL dk0 A).2 = LA ∧ (dputsL dk0 A).1 = ⟨[], logT LA⟩ ∧ LA.length ≤ 20 ∧ (logT LA).length ≤ 60000 ∧ syncE ⟨[], logT LA⟩ = 0 ∧ syncD ⟨[], logT LA⟩ = ⟨logT LA, []⟩ ∧
    dkE ⟨logT LA, []⟩ = 0 ∧ (dputsL ⟨logT LA, []⟩ B).2 = LB ∧ (dputsL ⟨logT LA, []⟩ B).1 = ⟨logT LA, logT LB⟩ ∧ LB.length ≤ 20 ∧ (logT LA).length + (logT LB).length ≤ 60000 ∧ dkE ⟨logT LA, logT LB⟩ = 0 ∧ (∀ r ∈ LA, recE r = 0) ∧ (∀ r ∈ LB, recE r = 0) := by
  obtain ⟨k1, k2, k3, k4⟩ := putsL_log A dk0 rfl
  generalize (dputsL dk0 A).2 = LA at *
  have k1' : (dputsL dk0 A).1 = ⟨[], logT LA⟩ := by rw [k1]; rfl
  rw [k1'] at k4
  have s4 := few_disk k4
  simp only [List.length_nil, Nat.zero_add] at s4
  obtain ⟨y1, y2⟩ := sync_log LA k2 (by omega) s4
  have e0 : dkE ⟨logT LA, []⟩ = 0 := by
    have := (keep_log LA [] 0 k2 (fun r h => by cases h) (by simp; omega) (by simpa [logT] using s4)).1
    simpa using this
  obtain ⟨q1, q2, q3, q4⟩ := putsL_log B ⟨logT LA, []⟩ e0
  generalize hLB : (dputsL ⟨logT LA, []⟩ B).2 = LB at *
  simp only [List.nil_append] at q1
  rw [q1] at q4
  have s5 := few_disk q4
  exact ⟨LA, LB, rfl, k1', by omega, s4, y1, y2, e0, hLB, q1, by omega, s5, q4, k2, q2⟩

theorem wrap_succ (m : Nat) (h : m ≤ 60000) : wrap64 ((m : Int) + 1) = (m : Int) + 1 ∧ IntKind.i64.wrap ((m : Int) + 1) = (m : Int) + 1 :=
  ⟨by unfold wrap64; omega, by rw [IntKind.wrap_i64]; omega⟩

theorem nums {oA oB l : List Lrc} {LA LB : List Rc} {m nA nB n3 : Nat} (mapA : oA.map (·.r) = LA) (mapB : oB.map (·.r) = LB) (hA : nA = oA.length) (hB : nB = oB.length) (h3 : n3 = l.length) (hl : l.map (·.r) = LA ++ LB.take m) (hm : m ≤ LB.length) (bA : LA.length ≤ 20) (bB : LB.length ≤ 20) :
    ∃ N : Nat, (nA : Int) + (nB : Int) = (N : Int) ∧ wrap64 (N : Int) = (N : Int) ∧ IntKind.i64.wrap ((nA : Int) + (nB : Int)) = (N : Int) ∧ ¬ (n3 : Int) < (nA : Int) ∧ ¬ (N : Int) < (n3 : Int) ∧ ((oA ++ oB).take n3).map (·.r) = l.map (·.r) ∧ ((oA ++ oB).take n3).length = n3 ∧ nA + nB ≤ 1000000 ∧ n3 ≤ nA + nB ∧ n3 ≤ 9223372036854775807 := by
  have lA : oA.length = LA.length := by rw [← mapA, List.length_map]
  have lB : oB.length = LB.length := by rw [← mapB, List.length_map]
  have ll : l.length = LA.length + m := by
    have := congrArg List.length hl
    rw [List.length_map, List.length_append, List.length_take] at this
    omega
  refine ⟨nA + nB, by omega, by unfold wrap64; omega, by rw [IntKind.wrap_i64]; omega, by omega, by omega, ?_, by rw [List.length_take, List.length_append]; omega, by omega, by omega, by omega⟩
  rw [hl, List.map_take, List.map_append, mapA, mapB, h3, ll, List.take_append, List.take_of_length_le (by omega), Nat.add_sub_cancel_left]

/-- What is there behind the power's going. -/
structure Torn (w0 : World) (bd : Nat) (DC : Dk) (aA : Option Addr) (nA GA : Nat) (oA : List Lrc) (B1 : Nat) (aB : Option Addr) (nB GB : Nat) (oB : List Lrc) (B2 : Nat) (w : World) : Prop where
  disk : ∃ (s1 : Option Addr) (v1 t1 : Nat) (s2 : Option Addr) (v2 t2 : Nat), DkB w bd s1 v1 t1 s2 v2 t2 DC
  a : OutR B1 w aA nA GA oA
  b : OutR B2 w aB nB GB oB
  bel : Below w0.heap.size w0 w

set_option maxHeartbeats 4000000 in
set_option maxRecDepth 100000 in
theorem walk (w : World) (hg : Gl w) (safe more : List Lrc) (a1 a2 : Option Addr) (c1 c2 n1 n2 : Nat) (S1 : SlRec w a1 c1 safe) (S2 : SlRec w a2 c2 more) (hn1 : n1 = safe.length) (hn2 : n2 = more.length) (n : Int) :
    Calls Tryd.prog 5 #[.slice a1 n1 c1, .slice a2 n2 c2, .int .i64 n] w fun e w' => e = .returned (.bool true) ∧ Below w.heap.size w w' := by
  obtain ⟨LA, LB, m1, m2, m3, m4, m5, m6, m7, m8, m9, m10, m11, m12, m13, m14⟩ := math ((safe.take 20).map (·.r)) ((more.take 20).map (·.r)) (by rw [List.length_map, List.length_take]; omega) (by rw [List.length_map, List.length_take]; omega)
  have cA := fun la b1 W D0 S h => put_list dk0 safe la n1 c1 b1 none none 0 0 0 0 W D0 S hn1 rfl h
  have cB := fun b1 p1 p2 u1 q1 u2 q2 W D0 S h => put_list ⟨logT LA, []⟩ more a2 n2 c2 b1 p1 p2 u1 q1 u2 q2 W D0 S hn2 m7 h
  rw [m1, m2] at cA
  rw [m8, m9] at cB
  clear m1 m2 m8 m9
  replace hn1 := hide hn1
  replace hn2 := hide hn2
  go_enter Tryd.func5, Tryd.ntmps5
  go_wp2_with fail
  go_at_call 14
  refine (filed_any w hg).mono ?_
  rintro e w1 ⟨rfl, b1⟩
  have BD := Blk.laid w1 [.slice none 0 0, .slice none 0 0] 37 _ rfl
  have bel := newB b1 (.cells #[.slice none 0 0, .slice none 0 0] 37)
  have T1 := S1.keep bel (Nat.le_refl _)
  have T2 := S2.keep bel (Nat.le_refl _)
  have lbd : w.heap.size ≤ w1.heap.size := b1.size
  have D0 : DkB (w1.alloc (.cells #[.slice none 0 0, .slice none 0 0] 37)) w1.heap.size none 0 0 none 0 0 dk0 := ⟨BD, rfl, rfl, Sl.ofNil _, Sl.ofNil _⟩
  go_upto_region 5 with fail
  generalize w1.heap.size = bd at *
  generalize World.alloc w1 _ = w2 at *
  go_wp2_with fail
  go_at_call 15
  refine (cA _ _ w2 D0 T1 (fun W h => hg.call (belowGb bel h lbd))).mono ?_
  rintro e w3 ⟨aA, nA, GA, oA, p1, u1, q1, p2, u2, q2, rfl, OA, mapA, D1, gb1⟩
  replace bel := belowGb bel gb1 lbd
  replace T2 := T2.gb gb1 BD
  clear T1 BD D0 gb1 b1
  have cS := fun W g s t => sync_any ⟨[], logT LA⟩ p1 p2 q1 q2 u1 u2 W g s t D1.e1 D1.e2 (by rw [D1.e1, D1.e2]; simp only [List.length_nil]; omega)
  rw [m5, m6] at cS
  have gl := hg.call bel
  have x0 := D1.blk.cell 0
  have x1 := D1.blk.cell 1
  have lD := D1.blk.lt
  go_wp2_with fail
  go_at_call 17
  refine (cS _ gl D1.s1 D1.s2).mono ?_
  rintro e w4 ⟨s1, s2, v1, v2, t1, t2, rfl, hv1, hv2, z1, z2, b4⟩
  clear x0 x1 lD cS gl
  replace bel := belowCall bel b4
  replace T2 := T2.call b4
  replace OA := OA.call b4
  replace D1 := D1.call b4
  have x0 := D1.blk.cell 0
  have x1 := D1.blk.cell 1
  have f0 := D1.blk.free 0
  have f1 := D1.blk.free 1
  have lD := D1.blk.lt
  have gs := gbSet (gbSet (gbRefl w4 (some bd)) 0 (.slice s1 v1 t1)) 1 (.slice s2 v2 t2)
  have D2 := dkPut D1.blk hv1 hv2 z1 z2
  replace hv1 := hide hv1
  replace hv2 := hide hv2
  replace bel := belowGb bel gs lbd
  replace T2 := T2.gb gs D1.blk
  replace OA := OA.gb gs D1.blk
  go_upto_region 7 with fail
  clear x0 x1 f0 f1 lD gs D1 z1 z2 b4
  generalize World.setCell (World.setCell w4 _ _) _ _ = w5 at *
  have gl := hg.call bel
  have lD := D2.blk.lt
  go_wp2_with fail
  go_at_call 15
  refine (cB _ _ _ _ _ _ _ w5 D2 T2 (fun W h => hg.call (belowGb bel h lbd))).mono ?_
  rintro e w6 ⟨aB, nB, GB, oB, r1, i1, j1, r2, i2, j2, rfl, OB, mapB, D3, gb3⟩
  replace bel := belowGb bel gb3 lbd
  replace OA := OA.gb gb3 D2.blk
  clear T2 D2 gb3 gl lD cA cB
  have gl := hg.call bel
  have x0 := D3.blk.cell 0
  have x1 := D3.blk.cell 1
  have lD := D3.blk.lt
  obtain ⟨M, hM⟩ : ∃ M : Nat, M = (logT LB).length := ⟨_, rfl⟩
  obtain rfl : i2 = M := by rw [hM]; exact D3.e2
  have hM6 : i2 ≤ 60000 := by omega
  obtain ⟨K, hK⟩ : ∃ K : Int, K = n % ((i2 : Int) + 1) := ⟨_, rfl⟩
  have hK0 : 0 ≤ K := by rw [hK]; exact Int.emod_nonneg _ (by omega)
  have hK1 : K ≤ i2 := by rw [hK]; have := Int.emod_lt_of_pos n (show 0 < (i2 : Int) + 1 by omega); omega
  have cr : crashE ⟨logT LA, logT LB⟩ K = 0 := by
    unfold crashE
    rw [if_neg (by rw [m12]; simp), if_neg (by simp only; rw [← hM]; omega)]
  have cd : crashD ⟨logT LA, logT LB⟩ K = ⟨logT LA, (logT LB).take K.toNat⟩ := if_pos cr
  obtain ⟨h0, m, hm, h1, h2, h3, h4, h5⟩ := keep_log LA LB K.toNat m13 m14 (by omega) m11
  have cC := fun W g s t => crash_any ⟨logT LA, logT LB⟩ K r1 r2 j1 j2 i1 i2 W g s t D3.e1 D3.e2 (by rw [D3.e1, D3.e2]; simp only; omega)
  rw [cr, cd] at cC
  have h6 : (⟨logT (LA ++ LB.take m), []⟩ : Dk).wait.length = 0 := rfl
  generalize (⟨logT LA, (logT LB).take K.toNat⟩ : Dk) = DC at *
  generalize (⟨logT (LA ++ LB.take m), []⟩ : Dk) = DR at *
  have kA : ∀ W, Below w6.heap.size w6 W → Calls Tryd.prog 19 #[.int .i64 n, .int .i64 ((i2 : Int) + 1)] W fun e w' => e = .returned (.int .i64 K) ∧ w'.cell? ⟨bd, 0, none⟩ = some (.slice r1 i1 j1) ∧ w'.cell? ⟨bd, 1, none⟩ = some (.slice r2 i2 j2) ∧ Below w6.heap.size w6 w' := by
    intro W h
    refine (at_any n ((i2 : Int) + 1) W (by omega) (by omega)).mono ?_
    rintro e w' ⟨rfl, rfl⟩
    exact ⟨by rw [hK], (D3.blk.keep h D3.blk.lt).cell 0, (D3.blk.keep h D3.blk.lt).cell 1, h⟩
  have kC : ∀ W, Below w6.heap.size w6 W → Calls Tryd.prog 18 #[.agg #[.slice r1 i1 j1, .slice r2 i2 j2], .int .i64 K] W fun e w' => ∃ (s1 s2 : Option Addr) (v1 v2 t1 t2 : Nat), e = .returned (.tuple #[.agg #[.slice s1 v1 t1, .slice s2 v2 t2], .int .i64 0]) ∧ w'.cell? ⟨bd, 0, none⟩ = some (.slice r1 i1 j1) ∧ w'.cell? ⟨bd, 1, none⟩ = some (.slice r2 i2 j2) ∧ w'.frozen? ⟨bd, 0, none⟩ = false ∧ w'.frozen? ⟨bd, 1, none⟩ = false ∧ bd < w'.heap.size ∧
      Hid (v1 = DC.safe.length) ∧ Hid (v2 = DC.wait.length) ∧ Sl w' s1 t1 (byteCells DC.safe) ∧ Sl w' s2 t2 (byteCells DC.wait) ∧ Below w6.heap.size w6 w' := by
    intro W h
    refine (cC W (gl.call h) (D3.s1.call h) (D3.s2.call h)).mono ?_
    rintro e w' ⟨s1, s2, v1, v2, t1, t2, rfl, hv1, hv2, z1, z2, b⟩
    have bb := belowCall h b
    have B := D3.blk.keep bb D3.blk.lt
    exact ⟨s1, s2, v1, v2, t1, t2, rfl, B.cell 0, B.cell 1, B.free 0, B.free 1, B.lt, hv1, hv2, z1, z2, bb⟩
  have k0 : Below w6.heap.size w6 w6.drew := belowDrew (Below.refl _ _)
  obtain ⟨hMw, hMi⟩ := wrap_succ i2 hM6
  replace hM := hide hM
  replace hK := hide hK
  clear cC cr cd
  go_upto_region 10 with fail
  go_cut [10] from 32 to 42 (fun s10 wx => s10 = .int .i64 0 ∧ ∃ B1 B2, Torn w bd DC aA nA GA oA B1 aB nB GB oB B2 wx)
  case first =>
    go_region_with
      (first
        | (go_at_call 18; refine (kC _ zA).mono ?_; rintro e wB ⟨s1, s2, v1, v2, t1, t2, rfl, p0, p1, pf0, pf1, pl, hv1, hv2, z1, z2, zB⟩)
        | (go_at_call 19; refine (kA _ k0).mono ?_; rintro e wA ⟨rfl, y0, y1, zA⟩))
    all_goals (
      go_wp2_with fail
      go_meet
      case rel =>
        have B4 := D3.blk.keep zB D3.blk.lt
        have gs := gbSet (gbSet (gbRefl wB (some bd)) 0 (.slice s1 v1 t1)) 1 (.slice s2 v2 t2)
        exact ⟨rfl, _, _, ⟨_, _, _, _, _, _, dkPut B4 hv1.out hv2.out z1 z2⟩, (OA.call zB).gb gs B4, (OB.call zB).gb gs B4, belowGb (belowCall bel zB) gs lbd⟩)
  case rest =>
    obtain ⟨rfl, B1, B2, ⟨s1, v1, t1, s2, v2, t2, D4⟩, OA', OB', bel'⟩ := hcut
    clear kA kC k0 x0 x1 lD D3 OA OB bel gl hMw hMi hK hK0 hK1 m5 m6 m7 m11 m12 m13 m14 hM
    have fD := few_disk h0
    have cR := fun W g s t => recover_any DC s1 s2 t1 t2 v1 v2 W g s t D4.e1 D4.e2 (by rw [D4.e1, D4.e2]; omega)
    rw [h0, h1, h2] at cR
    have gl := hg.call bel'
    have x0 := D4.blk.cell 0
    have x1 := D4.blk.cell 1
    have lD := D4.blk.lt
    go_wp2_with fail
    go_at_call 20
    refine (cR _ gl D4.s1 D4.s2).mono ?_
    rintro e w8 ⟨y1, y2, y3, i1, i2, g1, g2, n3, G3, l, rfl, hi1, hi2, z1, z2, R, hl, b8⟩
    clear x0 x1 lD cR gl D4
    have bq := newB (Below.refl w8.heap.size w8) (.cells #[.slice y1 i1 g1, .slice y2 i2 g2] 37)
    have BR := Blk.laid w8 [.slice y1 i1 g1, .slice y2 i2 g2] 37 _ rfl
    have b9 := belowCall b8 bq
    have OA2 := OA'.call b9
    have OB2 := OB'.call b9
    have R2 := (R.call bq).sl
    have bel2 := belowCall bel' b9
    replace z1 := z1.call bq
    replace z2 := z2.call bq
    have hlen3 := hide R.len
    replace hi1 := hide hi1
    have hi2' : i2 = 0 := by rw [hi2, h6]
    subst hi2'
    replace hi2 := hide hi2
    clear OA' OB' R bel' b8 b9 bq
    go_upto_region 14 with fail
    generalize w8.heap.size = gR at *
    generalize World.alloc w8 _ = w9 at *
    have hnAl := OA2.len
    have hnBl := OB2.len
    obtain ⟨N, hN, hN1, hN2, q1, q2, hTk, hTl, few, hnN, hn6⟩ := nums mapA mapB hnAl hnBl hlen3.out hl hm m3 m10
    have BC := Blk.laid w9 [.slice aA nA GA, .slice aB nB GB] 34 _ rfl
    have bc := newB (Below.refl w9.heap.size w9) (.cells #[.slice aA nA GA, .slice aB nB GB] 34)
    have cc := fun W e0 e1 s t hB => concatRec w9.heap.size aA aB GA GB nA nB oA oB W e0 e1 s t hnAl hnBl few hB
    have sA := OA2.sl.call bc
    have sB := OB2.sl.call bc
    have R3 := R2.call bc
    have z13 := z1.call bc
    have z23 := z2.call bc
    have BR3 := BR.keep bc BR.lt
    have bel3 := belowCall bel2 bc
    replace hnAl := hide hnAl
    replace hnBl := hide hnBl
    replace hTl := hide hTl
    replace hTk := hide hTk
    replace hl := hide hl
    replace mapA := hide mapA
    replace mapB := hide mapB
    replace hnN := hide hnN
    have fD2 : i1 + 0 ≤ 9223372036854775807 := by
      have := few_disk h3
      rw [hi1.out]
      exact Nat.le_trans (Nat.le_trans (Nat.le_of_eq (by rw [h6])) this) (by decide)
    have cR2 := fun W g s t => recover_any DR y1 y2 g1 g2 i1 0 W g s t hi1.out hi2.out fD2
    rw [h3, h4, h5, ← hl.out] at cR2
    have cS2 := fun b1 b2 e1 e2 n1 n2 (e1' : n1 = DR.safe.length) (e2' : n2 = DR.wait.length) W s t u v => dsame_any DR DR b1 b2 y1 y2 e1 e2 g1 g2 n1 n2 i1 0 W s t u v e1' e2' hi1.out hi2.out
    simp only [and_self, decide_true] at cS2
    have cE := fun ao G W s t => eqFuncN l ((oA ++ oB).take n3) y3 ao G3 G n3 n3 W s t hlen3.out hTl.out.symm
    have cE2 := fun (l2 : List Lrc) ao G n4 W s t (e4 : n4 = l2.length) => eqFuncN l2 l ao y3 G G3 n4 n3 W s t e4 hlen3.out
    rw [hTk.out] at cE
    clear OA2 OB2 R2 z1 z2 bel2
    clear h0 h1 h2 h3 h4 h5 hm h6 m3 m4 m10 fD fD2 hn1 hn2 S1 S2 mapA mapB
    go_wp2_with fail
    go_at_call 22
    refine (cc _ (BC.cell 0) (BC.cell 1) sA sB BC.lt).mono ?_
    rintro e w10 ⟨ao, G, rfl, SC, b10⟩
    have hn3G : n3 ≤ G := by
      have := SC.row.le
      have h8 := hnN.out
      rw [List.length_append, ← hnAl.out, ← hnBl.out] at this
      omega
    have SF : SlRec w10 ao G ((oA ++ oB).take n3) := ⟨SC.row.front Lrc.four n3, fun x hx => SC.ent x (List.mem_of_mem_take hx)⟩
    have R4 := R3.call b10
    have z14 := z13.call b10
    have z24 := z23.call b10
    have BR4 := BR3.keep b10 BR3.lt
    have bel4 := belowCall bel3 b10
    clear SC R3 z13 z23 BR3 bel3 b10 sA sB BC bc cc
    go_wp2_with fail
    go_at_call 21
    refine (cE _ _ _ R4 SF).mono ?_
    rintro e w11 ⟨b, rfl, hb, b11⟩
    obtain rfl : b = true := hb.2 trivial
    have R5 := R4.call b11
    have z15 := z14.call b11
    have z25 := z24.call b11
    have BR5 := BR4.keep b11 BR4.lt
    have bel5 := belowCall bel4 b11
    clear hb R4 z14 z24 BR4 bel4 b11 SF cE
    have gl := hg.call bel5
    have x0 := BR5.cell 0
    have x1 := BR5.cell 1
    have lR := BR5.lt
    go_wp2_with fail
    go_at_call 20
    refine (cR2 _ gl z15 z25).mono ?_
    rintro e w12 ⟨p1, p2, p3, i3, i4, g3, g4, n4, G4, l2, rfl, hi3, hi4, t1, t2, R9, hl2, b12⟩
    clear x0 x1 lR gl
    have bq := newB (Below.refl w12.heap.size w12) (.cells #[.slice p1 i3 g3, .slice p2 i4 g4] 37)
    have BQ := Blk.laid w12 [.slice p1 i3 g3, .slice p2 i4 g4] 37 _ rfl
    have b13 := belowCall b12 bq
    have R6 := R5.call b13
    have R96 := (R9.call bq).sl
    have z16 := z15.call b13
    have z26 := z25.call b13
    have t16 := t1.call bq
    have t26 := t2.call bq
    have BR6 := BR5.keep b13 BR5.lt
    have bel6 := belowCall bel5 b13
    have hn4 := hide R9.len
    replace hi3 := hide hi3
    replace hi4 := hide hi4
    replace hl2 := hide hl2
    clear R5 z15 z25 BR5 bel5 b12 b13 bq R9 t1 t2
    go_upto_region 17 with fail
    generalize w12.heap.size = gQ at *
    generalize World.alloc w12 _ = w13 at *
    have x0 := BR6.cell 0
    have x1 := BR6.cell 1
    have lR := BR6.lt
    have y0 := BQ.cell 0
    have y1 := BQ.cell 1
    have lQ := BQ.lt
    go_wp2_with fail
    go_at_call 23
    refine (cS2 _ _ _ _ _ _ hi3.out hi4.out _ t16 t26 z16 z26).mono ?_
    rintro e w14 ⟨rfl, b14⟩
    have R7 := R6.call b14
    have R97 := R96.call b14
    have BR7 := BR6.keep b14 BR6.lt
    have bel7 := belowCall bel6 b14
    clear R6 R96 BR6 bel6 b14 z16 z26 t16 t26 x0 x1 lR y0 y1 lQ BQ cS2
    go_wp2_with fail
    go_at_call 21
    refine (cE2 l2 p3 G4 n4 _ R97 R7 hn4.out).mono ?_
    rintro e w15 ⟨b, rfl, hb, b15⟩
    obtain rfl : b = true := hb.2 hl2.out
    have BR8 := BR7.keep b15 BR7.lt
    have bel8 := belowCall bel7 b15
    clear hb R7 R97 BR7 bel7 b15 cE2
    have x0 := BR8.cell 0
    have x1 := BR8.cell 1
    have lR := BR8.lt
    go_wp2_with fail
    go_ret
    exact ⟨rfl, bel8⟩

end Go.Proofs.YtabeihkfjlmepaaDoor.diskKeeps

/-
  Proved: for any two lists of records and any number, DiskKeeps returns true and leaves its arguments as they were: whatever is kept of what wasn't synced, all that was is there, and of the rest a beginning; recovered again it is the same. Conditions: the listed variables of Go's library start as the program's text lays them (tied by the card).
-/
namespace Go.Proofs.YtabeihkfjlmepaaDoor.diskKeeps
open Go.ChangeShapes Go.WideShapes Go.ChangeAt Go.RowKit Go.ChangeMaps
set_option linter.unusedVariables false

def laidL : List (String × DataW Unit) := Rows.diskKeepsRow.laid

set_option maxRecDepth 100000 in
theorem lifted (os : Os) (started : os.Started) (H : Type) (enc : TypeId × Value → H) :
    ReturnsInHanded {} Tryd.checked os 5 .any (fun w args => (Rows.diskKeepsSpec.pre enc Tryd.prog Tryd.f5 [] false w args ∧ laidMetH Tryd.prog laidL w) ∧ sizedMet enc Tryd.prog Tryd.f5 (OpenSpec.ofChange Rows.diskKeepsSpec) false w args)
      (Rows.diskKeepsSpec.post enc Tryd.prog Tryd.f5 false true false false) := by
  refine returns_both (C := Tryd.checked) (X := fun w _ => laidMetH Tryd.prog laidL w) (fun _ _ _ hh h => h.of_heap hh) own started (by kernel_rfl) Tryd.func5
    (ChangeSpec.witness_shaped (enc := enc) (C := Tryd.checked) (os := os) (X := fun w _ => laidMetH Tryd.prog laidL w) false (World.laidAll Tryd.prog os laidL) #[.slice none 0 0, .slice none 0 0, .int .i64 0] 8 (World.laidAll_os _ _ _)
      (World.shaped_of_ZipB (by kernel_rfl) (by kernel_rfl)) (by kernel_rfl) (by kernel_rfl) (by kernel_rfl)
      (by rw [MakeChecks.laidMetH_plain _ _ _ (by kernel_rfl)]; exact laidMet_laidAll _ (by kernel_rfl) (by kernel_rfl))) ?_
  intro W base args ds gs before hval0 hW hsz0 hL hsh
  have hsz : (DataW.weightsEach Tryd.prog (Tryd.f5.params.toList ++ Rows.diskKeepsSpec.plain.varTypes Tryd.prog) (ds ++ gs)).all (· ≤ reachBytes) = true := hsz0
  have hval : ∀ (j : Nat) t v, Tryd.f5.params[j]? = some t → args[j]? = some v → Value.okWide Tryd.prog W .any base t v := hval0
  have hW' := hW
  obtain ⟨p, q, hA0, hV, rfl, hfz, hnd⟩ := hW
  have hA : DataW.TrodAll enc Tryd.prog W 0 (fun _ => true) true Tryd.f5.params.toList args.toList ds p := hA0
  rw [Tryd.params5] at hA hval hsz
  obtain ⟨v0, vs0, d0, ds0, p0, q0, hargs, rfl, rfl, h0, r0⟩ := trodAll_cons hA
  obtain ⟨v1, vs1, d1, ds1, p1, q1, rfl, rfl, rfl, h1, r1⟩ := trodAll_cons r0
  obtain ⟨v2, vs2, d2, ds2, p2, q2, rfl, rfl, rfl, h2, r2⟩ := trodAll_cons r1
  obtain ⟨rfl, rfl, rfl⟩ := trodAll_nil r2
  obtain rfl : args = #[v0, v1, v2] := by cases args; simp_all
  obtain ⟨rfl, rfl⟩ := trodVars_none hV
  have k0 := h0
  have k1 := h1
  have lt0 : ∀ x ∈ p0, x.block < W.heap.size := by obtain ⟨m, hm⟩ := k0; exact DataW.trod_lt m _ _ _ hm
  have lt1 : ∀ x ∈ p1, x.block < W.heap.size := by obtain ⟨m, hm⟩ := k1; exact DataW.trod_lt m _ _ _ hm
  obtain ⟨a0, len0, cap0, rfl⟩ := okWide_slice Tryd.underlying34 (hval 0 34 v0 rfl rfl)
  obtain ⟨a1, len1, cap1, rfl⟩ := okWide_slice Tryd.underlying34 (hval 1 34 v1 rfl rfl)
  obtain ⟨l0, hl0, s0, _⟩ := open_recs h0 (rec_light (j := 0) hsz rfl rfl)
  obtain ⟨l1, hl1, s1, _⟩ := open_recs h1 (rec_light (j := 1) hsz rfl rfl)
  obtain ⟨n, rfl, rfl, rfl, wn⟩ := open_int Tryd.underlying3 (hval 2 3 v2 rfl rfl) h2
  rw [MakeChecks.laidMetH_plain _ _ _ (by kernel_rfl)] at hL
  have g := glob_of hL hsh
  refine (walk W g l0 l1 a0 a1 cap0 cap1 len0 len1 s0 s1 hl0.symm hl1.symm n).mono fun e W' ⟨he, bel⟩ => ?_
  subst he
  exact ⟨_, rfl, _, _, _, [], _, [], hW', trodAll_mk1 (shut_bool Tryd.underlying4 _), trodAll_cons_mk (Below.trod laidOut (by kernel_rfl) (of_decide_eq_true (by kernel_rfl)) k0 bel lt0) (trodAll_cons_mk (Below.trod laidOut (by kernel_rfl) (of_decide_eq_true (by kernel_rfl)) k1 bel lt1) (trodAll_cons_mk (shut_int Tryd.underlying3 wn) trodAll_mk0)), rfl, bel.frame _, fun h => by cases h⟩

theorem row_holds : Rows.DiskKeepsSaid :=
  OpenClaim.holds_of_wide 5 Tryd.f5 rfl rfl rfl rfl rfl rfl rfl ⟨rfl, rfl, rfl, rfl, rfl⟩ rfl rfl rfl rfl rfl (by kernel_rfl) Tryd.func5 (by kernel_rfl)
    (of_decide_eq_true (by kernel_rfl)) (by unfold Func.isWrapper; first | (rw [if_pos (by decide +kernel)]; kernel_rfl) | (rw [if_neg (by decide +kernel)]; exact ⟨rfl, rfl⟩))
    (fun os started H enc _ => lifted os started H enc)
end Go.Proofs.YtabeihkfjlmepaaDoor.diskKeeps
