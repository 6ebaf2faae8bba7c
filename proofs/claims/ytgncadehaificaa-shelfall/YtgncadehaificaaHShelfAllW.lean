/-
  Proved: for any shelf, any batch and any number of a series, ShelfAll returns true and leaves its arguments as they were: a batch is put wholly, or not at all.
-/
import Derived.Test.YtgncadehaificaaRows
import Derived.Deep.Cut
import Derived.Deep.CutRange
import Derived.Test.YtgncadehaificaaHShelved
import Derived.Test.YtgncadehaificaaP25
import Derived.Test.YtgncadehaificaaP09
namespace Go.Proofs.Ytgncadehaificaa.shelfAll
open Go.ChangeShapes Go.WideShapes Go.ChangeAt Go.RowKit
set_option linter.unusedVariables false

theorem ents_step {L : List En} {j : Nat} {x : En} {k : Int} (hx : L[j]? = some x) : entPts k (L.take (j + 1)) = if x.s = k then entPts k (L.take j) ++ [(x.t, x.v)] else entPts k (L.take j) := by
  unfold entPts
  rw [List.take_add_one, hx]
  by_cases h : x.s = k
  · rw [if_pos h]
    simp [h]
  · rw [if_neg h]
    simp [h]

set_option maxHeartbeats 1000000 in
set_option maxRecDepth 100000 in
theorem walk (w : World) (a0 : Option Addr) (cap0 : Nat) (l : List Lr) (s0 : SlR w a0 cap0 l) (r0 : cap0 * 48 ≤ 140737488351232) (a1 : Option Addr) (cap1 : Nat) (L : List En) (s1 : SlW En.cells w a1 cap1 L) (wf1 : ∀ x ∈ L, x.Wf) (r1 : cap1 * 24 ≤ 140737488351232) (a2 : Int) (w2 : (Lit.int .i64 a2).wf = true) :
    Calls Try.prog 5 #[.agg #[.slice a0 l.length cap0], .slice a1 L.length cap1, .int .i64 a2] w fun e w' => e = .returned (.bool true) ∧ Below w.heap.size w w' := by
  have hLn : L.length ≤ 140737488355328 := by have := s1.le; omega
  obtain ⟨k, hk, ek⟩ : ∃ k : Nat, k < 4 ∧ a2 % 4 = k := ⟨(a2 % 4).toNat, by omega, by omega⟩
  have c0 := fun W => at_any a2 4 W (by decide) (by decide)
  rw [ek] at c0
  obtain ⟨C, hC⟩ : ∃ C, C = l.map Lr.rw := ⟨_, rfl⟩
  have S0 : IsS w a0 cap0 C := by rw [hC]; exact IsS.of s0
  rw [show l.length = C.length by rw [hC, List.length_map]]
  clear hC s0 ek w2 wf1 r0 r1
  have c1 := fun W (h : IsS W a0 cap0 C) => all_is (k : Int) h
  have c2 := fun W (h : IsS W a0 cap0 C) (t : SlW En.cells W a1 cap1 L) => put_is L a1 cap1 h t hLn
  have sh := fun W => shelved_any W
  obtain ⟨n, hn⟩ : ∃ n, n = L.length := ⟨_, rfl⟩
  obtain ⟨cn, hcn⟩ : ∃ cn, cn = C.length := ⟨_, rfl⟩
  rw [← hn] at c2 hLn ⊢
  rw [← hcn] at c1 c2 ⊢
  replace hn := hide hn
  replace hcn := hide hcn
  have B0 := Blk.laid w [.slice a0 cn cap0] 24 _ rfl
  have bel : Below w.heap.size w (w.alloc (.cells #[.slice a0 cn cap0] 24)) := (Below.refl _ _).alloc (Nat.le_refl _) _
  have S1 := S0.alloc (.cells #[.slice a0 cn cap0] 24)
  have t1 := s1.alloc (.cells #[.slice a0 cn cap0] 24)
  by_cases hE : allE C k = 0
  · have hz : shelfE C = 0 := by
      unfold allE at hE
      split at hE
      · assumption
      · rename_i h0; exact absurd hE h0
    obtain ⟨A, hA⟩ : ∃ A, A = allL C k := ⟨_, rfl⟩
    have hA2 : A = allPts (C.getD k rw0) := by rw [hA]; unfold allL; rw [if_pos hE, Int.toNat_natCast]
    have hAl : A.length ≤ 40 := by
      obtain ⟨h4, hm⟩ := shelfE_mem hz
      rw [hA2]
      exact (checkE_zero (rowE_zero (hm _ (getD_mem (by omega)))).2.2).1
    rw [hE, ← hA] at c1
    have e2 : chE C (bputE C L) = bputE C L := by unfold chE; rw [if_pos hz]
    rw [e2] at c2
    obtain ⟨m, hm⟩ : ∃ m, m = A.length := ⟨_, rfl⟩
    rw [← hm] at c1 hAl
    replace hm := hide hm
    replace hA2 := hide hA2
    clear hA e2
    go_enter Try.func5, Try.ntmps5
    go_wp2_with fail
    generalize w.alloc _ = w1 at *
    go_at_call 28
    refine (c0 _).mono ?_
    rintro e wx ⟨rfl, rfl⟩
    have d0 : w1.cell? ⟨w.heap.size, 0, none⟩ = some (.slice a0 cn cap0) := B0.cell 0
    have l0 := B0.lt
    go_wp2_with fail
    go_at_call 10
    refine (c1 _ S1).mono ?_
    rintro e w3 ⟨a3, G3, rfl, o3, b3⟩
    replace B0 := B0.keep b3 B0.lt
    have o3' := ownDown o3 (show w.heap.size ≤ w1.heap.size from bel.size)
    replace bel := belowCall bel b3
    replace S1 := S1.call b3
    replace t1 := t1.call b3
    clear b3 o3 d0 l0
    go_wp2_with fail
    go_at_call 16
    refine (sh _).mono ?_
    rintro e w4 ⟨rfl, b4⟩
    replace B0 := B0.keep b4 B0.lt
    replace o3' := ownCall o3' b4
    replace bel := belowCall bel b4
    replace S1 := S1.call b4
    replace t1 := t1.call b4
    clear b4 sh
    have d0 : w4.cell? ⟨w.heap.size, 0, none⟩ = some (.slice a0 cn cap0) := B0.cell 0
    have l0 := B0.lt
    by_cases hP : bputE C L = 0
    · obtain ⟨p1, p2, p3⟩ := bput_zero hP
      have e3 : chL C (bputE C L) (bputL C L) = putsL C L := by unfold chL chE; rw [if_pos hz, if_pos hP, p3]
      have hT := puts_shelf L C hz p2
      have hN := puts_all L C (shelfE_zero hz).1 p2 k hk
      have eN : allE (putsL C L) k = 0 := by unfold allE; rw [if_pos hT]; unfold inI; simp; omega
      have lN : allL (putsL C L) k = A ++ entPts k L := by unfold allL; rw [if_pos eN, Int.toNat_natCast, hN, hA2.out]
      have hNl : (A ++ entPts k L).length ≤ 40 := by
        rw [hA2.out, ← hN]
        obtain ⟨h4, hm⟩ := shelfE_mem hT
        exact (checkE_zero (rowE_zero (hm _ (getD_mem (by omega)))).2.2).1
      rw [e3, hP] at c2
      have c3 := fun a G W (h : IsS W a G (putsL C L)) => all_is (k : Int) h
      rw [eN, lN] at c3
      obtain ⟨tn, htn⟩ : ∃ tn, tn = (putsL C L).length := ⟨_, rfl⟩
      obtain ⟨N, hNN⟩ : ∃ N, N = A ++ entPts k L := ⟨_, rfl⟩
      rw [← hNN] at c3 hNl
      obtain ⟨nn, hnn⟩ : ∃ nn, nn = N.length := ⟨_, rfl⟩
      rw [← htn, ← hnn] at c3
      unfold Makes at c2
      rw [← htn] at c2
      rw [← hnn] at hNl
      generalize putsL C L = T at *
      rw [← hn.out] at p1
      replace hNN := hide hNN
      replace hnn := hide hnn
      clear hN eN lN hT hP p2 p3 e3 htn
      go_wp2_with fail
      go_at_call 11
      refine (c2 _ S1 t1).mono ?_
      rintro e w5 ⟨a5, G5, rfl, s5, b5⟩
      replace o3' := ownCall o3' b5
      replace bel := belowCall bel b5
      replace t1 := t1.call b5
      clear b5 S1 B0 d0 l0
      go_wp2_with fail
      replace o3' := o3'.alloc (.cells #[.slice a5 tn G5] 24)
      replace bel := belowNew bel (.cells #[.slice a5 tn G5] 24)
      replace t1 := t1.alloc (.cells #[.slice a5 tn G5] 24)
      replace s5 := s5.alloc (.cells #[.slice a5 tn G5] 24)
      generalize w5.heap.size = g5 at *
      generalize w5.alloc _ = w6 at *
      go_at_call 10
      refine (c3 _ _ _ s5).mono ?_
      rintro e w7 ⟨a7, G7, rfl, o7, b7⟩
      have ap : Apart (.slice a7 nn G7) (.slice a3 m G3) := by
        intro g hg hg'
        have h1 := (o7.lt g hg).1
        have h2 := (o3'.lt g hg').2
        omega
      have o7' := ownDown o7 (show w.heap.size ≤ w6.heap.size from bel.size)
      replace o3' := ownCall o3' b7
      replace bel := belowCall bel b7
      replace t1 := t1.call b7
      clear b7 o7 s5 c2 c3 c1 c0
      go_wp2_with fail
      go_loopw [44, 7] (fun i o wr => ∃ (j q G : Nat) (a' : Option Addr) (O : List Pt), j ≤ n ∧ i = .int .i64 j ∧ o = .slice a' q G ∧ q ≤ 40 + j ∧ Hid (q = O.length) ∧ Hid (O = A ++ entPts k (L.take j)) ∧ wr.ownsRow w.heap.size 44 2 (.slice a' q G) q (cellsP O) ∧ wr.ownsRow w.heap.size 44 2 (.slice a7 nn G7) nn (cellsP N) ∧ Apart (.slice a7 nn G7) (.slice a' q G) ∧ Below w.heap.size w wr) (fun i _ _ => n - (intOf i).toNat)
      case atStart => exact ⟨0, m, G3, a3, A, by omega, rfl, rfl, by omega, hm, by simp [Hid, entPts], o3', o7', ap, bel⟩
      case round =>
        clear o3' o7' ap bel t1
        obtain ⟨j, q, G, a', O, hj, rfl, rfl, hq, eq, eO, own, ownN, ap, bel⟩ := hrel
        by_cases hlt : j < n
        · have t1 := s1.keep bel (Nat.le_refl _)
          obtain ⟨b, off, rfl, hbw⟩ := t1.where En.three (by decide) (by intro e; rw [hn.out, e] at hlt; simp at hlt)
          obtain ⟨x, hx⟩ : ∃ x, L[j]? = some x := ⟨_, List.getElem?_eq_getElem (by rw [← hn.out]; exact hlt)⟩
          have e0 := t1.cell En.three j 0 x _ hx rfl
          have e1 := t1.cell En.three j 1 x _ hx rfl
          have e2 := t1.cell En.three j 2 x _ hx rfl
          simp only [Nat.add_zero] at e0
          have st := ents_step (k := (k : Int)) hx
          obtain ⟨xs, xt, xv⟩ := x
          simp only at *
          have o2 := own.alloc (.cells #[.int .i64 xs, .int .i64 xt, .int .i64 xv] 49)
          have n2 := ownN.alloc (.cells #[.int .i64 xs, .int .i64 xt, .int .i64 xv] 49)
          have bel2 := belowNew bel (.cells #[.int .i64 xs, .int .i64 xt, .int .i64 xv] 49)
          by_cases hs : xs = k
          · subst hs
            rw [if_pos rfl] at st
            have eO2 : Hid (O ++ [(xt, xv)] = A ++ entPts k (L.take (j + 1))) := by
              rw [st, eO.out, List.append_assoc]
              exact hide rfl
            replace st := hide st
            have B12 := Blk.laid wr [.int .i64 k, .int .i64 xt, .int .i64 xv] 49 _ rfl
            clear hx t1
            go_upto_region 13 with fail
            generalize wr.heap.size = g12 at *
            generalize wr.alloc _ = w8 at *
            have v1 : w8.cell? ⟨g12, 1, none⟩ = some (.int .i64 xt) := B12.cell 1
            have v2 : w8.cell? ⟨g12, 2, none⟩ = some (.int .i64 xv) := B12.cell 2
            have hbz := bel2.size
            obtain ⟨i0, hi, hz0, hz1, hz2⟩ := info_parts infoPoint
            clear e0 e1 e2
            go_wp2_with (at_builtin; refine wpList_append_new w8 rfl (.tmp 52) (.tmp 58) 26 rfl w.heap.size 44 i0 _ 2 16 Try.underlying26 hi hz0 hz1 hz2 rfl (by decide) (.slice a' q G) q _ (by rfl) o2 1 #[.int .i64 xt, .int .i64 xv] 44 (by rfl) (by rfl) (by simp [Value.oneCell']) (by decide) (by unfold maxLen; omega) (by omega) hbz ?_)
            intro v9 w9 own9 grow9 went9
            have n9 := ownApart n2 grow9 ap
            have ap9 := ap.went (fun g hg => (n2.lt g hg).2) went9
            have bel9 := belowGrown bel2 o2 grow9 (Nat.le_refl _) hbz
            rw [show cellsP O ++ (#[Value.int .i64 xt, .int .i64 xv] : Array Value).toList = cellsP (O ++ [(xt, xv)]) by rw [cellsP_append]; rfl] at own9
            obtain ⟨a9, G9, rfl, _, _, _⟩ := SlP.ofOwn own9
            have eq9 : Hid (q + 1 = (O ++ [(xt, xv)]).length) := by rw [List.length_append, ← eq.out]; exact hide rfl
            go_wp2_with fail
            go_roundw
            case rel => exact ⟨j + 1, q + 1, G9, a9, _, by omega, by go_num, rfl, by omega, eq9, eO2, own9, n9, ap9, bel9⟩
            case measure => simp [intOf]; omega
          · rw [if_neg hs] at st
            have eO2 : Hid (O = A ++ entPts k (L.take (j + 1))) := by rw [st]; exact eO
            replace st := hide st
            clear hx t1
            go_wp2_with fail
            go_roundw
            case rel => exact ⟨j + 1, q, G, a', O, by omega, by go_num, rfl, by omega, eq, eO2, o2, n2, ap, bel2⟩
            case measure => simp [intOf]; omega
        · obtain rfl : j = n := by omega
          have eO' := eO.out
          rw [hn.out, List.take_length, ← hNN.out] at eO'
          subst eO'
          have eqn : q = nn := by rw [eq.out, hnn.out]
          subst eqn
          obtain ⟨x1, X1, y1, z1, _, _⟩ := SlP.ofOwn own
          obtain ⟨x2, X2, y2, z2, _, _⟩ := SlP.ofOwn ownN
          simp only [Value.slice.injEq, true_and] at y1 y2
          obtain ⟨rfl, rfl⟩ := y1
          obtain ⟨rfl, rfl⟩ := y2
          have cE := equalPt a7 a' G7 G O O wr z2 z1 (by rw [← hnn.out]; omega) (by rw [← hnn.out]; omega)
          rw [decide_eq_true (rfl : O = O), ← hnn.out] at cE
          clear own ownN z1 z2 eO eq ap
          go_wp2_with fail
          go_at_call 27
          refine cE.mono ?_
          rintro e w9 ⟨rfl, q9, rfl⟩
          go_wp2_with fail
          go_ret
          exact ⟨rfl, belowDrewN bel q9⟩
    · generalize bputE C L = PE at *
      generalize chL C PE (bputL C L) = T at *
      unfold Makes at c2
      generalize T.length = tn at *
      go_wp2_with fail
      go_at_call 11
      refine (c2 _ S1 t1).mono ?_
      rintro e w5 ⟨a5, G5, rfl, s5, b5⟩
      replace bel := belowCall bel b5
      go_wp2_with fail
      go_ret
      exact ⟨rfl, belowNew bel _⟩
  · generalize allE C k = EE at *
    generalize allL C k = AA at *
    generalize AA.length = an at *
    clear c2 hLn
    go_enter Try.func5, Try.ntmps5
    go_wp2_with fail
    generalize w.alloc _ = w1 at *
    go_at_call 28
    refine (c0 _).mono ?_
    rintro e wx ⟨rfl, rfl⟩
    have d0 : w1.cell? ⟨w.heap.size, 0, none⟩ = some (.slice a0 cn cap0) := B0.cell 0
    have l0 := B0.lt
    go_wp2_with fail
    go_at_call 10
    refine (c1 _ S1).mono ?_
    rintro e w3 ⟨a3, G3, rfl, o3, b3⟩
    replace bel := belowCall bel b3
    clear b3 o3 d0 l0
    go_wp2_with fail
    go_at_call 16
    refine (sh _).mono ?_
    rintro e w4 ⟨rfl, b4⟩
    replace bel := belowCall bel b4
    clear b4
    go_wp2_with fail
    go_at_call 16
    refine (sh _).mono ?_
    rintro e w5 ⟨rfl, b5⟩
    replace bel := belowCall bel b5
    go_wp2_with fail
    go_ret
    exact ⟨rfl, bel⟩

set_option maxRecDepth 100000 in
theorem lifted (os : Os) (started : os.Started) (H : Type) (enc : TypeId × Value → H) :
    ReturnsInHanded {} Try.checked os 5 .any (Rows.shelfAllSpec.pre6 enc Try.prog Try.f5 Rows.shelfAllRow.domain false) (Rows.shelfAllSpec.post enc Try.prog Try.f5 false true false false) := by
  refine returnsInHanded_of_change_sized (C := Try.checked) own started (by kernel_rfl) Try.func5
    (ChangeSpec.witness6 (enc := enc) (C := Try.checked) false ⟨#[], #[.agg #[.slice none 0 0], .slice none 0 0, .int .i64 0], []⟩ 8 (by kernel_rfl) (by kernel_rfl) (by kernel_rfl) (by kernel_rfl)) ?_
  intro W base args ds gs before hval0 hW hcnd hsz0 _
  have hsz : (DataW.weightsEach Try.prog (Try.f5.params.toList ++ Rows.shelfAllSpec.plain.varTypes Try.prog) (ds ++ gs)).all (· ≤ reachBytes) = true := hsz0
  have hval : ∀ (j : Nat) t v, Try.f5.params[j]? = some t → args[j]? = some v → Value.okWide Try.prog W .any base t v := hval0
  have hW' := hW
  obtain ⟨p, q, hA0, hV, rfl, hfz, hnd⟩ := hW
  have hA : DataW.TrodAll enc Try.prog W 0 (fun _ => true) true Try.f5.params.toList args.toList ds p := hA0
  rw [Try.params5] at hA hval hsz
  obtain ⟨v0, vs0, d0, ds0, p0, q0, hargs, rfl, rfl, h0, r0⟩ := trodAll_cons hA
  obtain ⟨v1, vs1, d1, ds1, p1, q1, rfl, rfl, rfl, h1, r1⟩ := trodAll_cons r0
  obtain ⟨v2, vs2, d2, ds2, p2, q2, rfl, rfl, rfl, h2, r2⟩ := trodAll_cons r1
  obtain ⟨rfl, rfl, rfl⟩ := trodAll_nil r2
  obtain rfl : args = #[v0, v1, v2] := by cases args; simp_all
  obtain ⟨rfl, rfl⟩ := trodVars_none hV
  have k0 := h0
  have lt0 : ∀ x ∈ p0, x.block < W.heap.size := by obtain ⟨m, hm⟩ := k0; exact DataW.trod_lt m _ _ _ hm
  obtain ⟨l0, a0, cap0, rfl, s0, reach0⟩ := open_shelf (hval 0 24 v0 rfl rfl) h0 (light_of (j := 0) hsz rfl rfl)
  obtain ⟨a1, len1, cap1, rfl⟩ := okWide_slice Try.underlying25 (hval 1 25 v1 rfl rfl)
  have k1 := h1
  have lt1 : ∀ x ∈ p1, x.block < W.heap.size := by obtain ⟨m, hm⟩ := k1; exact DataW.trod_lt m _ _ _ hm
  obtain ⟨l1, rfl, s1, wf1, reach1⟩ := open_entries h1 (light_of (j := 1) hsz rfl rfl)
  obtain ⟨a2, rfl, rfl, rfl, w2⟩ := open_int Try.underlying3 (hval 2 3 v2 rfl rfl) h2
  clear hA0 hval0 hsz0
  refine (walk W a0 cap0 l0 s0 reach0 a1 cap1 l1 s1 wf1 reach1 a2 w2).mono fun e W' ⟨he, bel⟩ => ?_
  subst he
  exact ⟨_, rfl, _, _, _, [], _, [], hW', trodAll_mk1 (shut_bool Try.underlying4 _), (trodAll_cons_mk (Below.trod laidOut (by kernel_rfl) (of_decide_eq_true (by kernel_rfl)) k0 bel lt0) (trodAll_cons_mk (Below.trod laidOut (by kernel_rfl) (of_decide_eq_true (by kernel_rfl)) k1 bel lt1) (trodAll_cons_mk (shut_int Try.underlying3 w2) trodAll_mk0))), rfl, bel.frame _, fun h => by cases h⟩

theorem over : Rows.shelfAllRow.holds Try.pinned (OpenSpec.ofChange Rows.shelfAllSpec) :=
  OpenClaim.holds_of_wide 5 Try.f5 rfl rfl rfl rfl rfl rfl rfl ⟨rfl, rfl, rfl, rfl, rfl⟩ rfl rfl rfl rfl rfl (by kernel_rfl) Try.func5 (by kernel_rfl)
    (of_decide_eq_true (by kernel_rfl)) (by unfold Func.isWrapper; first | (rw [if_pos (by decide +kernel)]; kernel_rfl) | (rw [if_neg (by decide +kernel)]; exact ⟨rfl, rfl⟩))
    (fun os started H enc _ => lifted os started H enc)
end Go.Proofs.Ytgncadehaificaa.shelfAll

namespace Go.Proofs.Ytgncadehaificaa
theorem shelfAll_holds : Rows.ShelfAllSaid := shelfAll.over
#print axioms shelfAll_holds
end Go.Proofs.Ytgncadehaificaa
