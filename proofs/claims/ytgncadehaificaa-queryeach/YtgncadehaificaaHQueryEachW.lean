/-
  Proved: for any shelf and any number of a series, QueryEach returns true and leaves its arguments as they were: each point is found by its own time, alone, and as a bucket as wide as one it is its own sum.
-/
import Derived.Test.YtgncadehaificaaRows
import Derived.Deep.RegionHeld3
import Derived.Deep.Cut
import Derived.Deep.CutRange
import Derived.Test.YtgncadehaificaaP32
import Derived.Test.YtgncadehaificaaHAsked
import Derived.Test.YtgncadehaificaaP06
import Derived.Test.YtgncadehaificaaP34
namespace Go.Proofs.Ytgncadehaificaa.queryEach
open Go.ChangeShapes Go.WideShapes Go.ChangeAt Go.RowKit
set_option linter.unusedVariables false

set_option maxHeartbeats 1000000 in
set_option maxRecDepth 100000 in
theorem walkB (ask : ∀ w : World, Calls Try.prog 32 #[] w fun e w' => e = .returned (.bool true) ∧ Below w.heap.size w w') (w : World) (a0 : Option Addr) (cap0 cn : Nat) (C : List Rw) (hcn : Hid (cn = C.length)) (S0 : IsS w a0 cap0 C) (s : Int) (k : Nat) (ek : s % 4 = k) (hE : allE C k ≠ 0) :
    Calls Try.prog 9 #[.agg #[.slice a0 cn cap0], .int .i64 s] w fun e w' => e = .returned (.bool true) ∧ Below w.heap.size w w' := by
  have c0 := fun W => at_any s 4 W (by decide) (by decide)
  rw [ek] at c0
  have c1 := fun W (h : IsS W a0 cap0 C) => range_is (k : Int) 0 100001 h hcn.out
  generalize allE C k = EE at *
  generalize rngL (allL C k) 0 100001 = A at *
  generalize A.length = n at *
  have B0 := Blk.laid w [.slice a0 cn cap0] 24 _ rfl
  have bel : Below w.heap.size w (w.alloc (.cells #[.slice a0 cn cap0] 24)) := (Below.refl _ _).alloc (Nat.le_refl _) _
  have S1 := S0.alloc (.cells #[.slice a0 cn cap0] 24)
  go_enter Try.func9, Try.ntmps9
  go_wp2_with fail
  generalize w.alloc _ = w1 at *
  go_at_call 28
  refine (c0 _).mono ?_
  rintro e wx ⟨rfl, rfl⟩
  have d0 : w1.cell? ⟨w.heap.size, 0, none⟩ = some (.slice a0 cn cap0) := B0.cell 0
  have l0 := B0.lt
  go_wp2_with fail
  go_at_call 29
  refine (c1 _ S1).mono ?_
  rintro e w3 ⟨a3, G3, rfl, o3, b3⟩
  replace bel := belowCall bel b3
  clear b3 d0 l0
  go_wp2_with fail
  go_at_call 32
  refine (ask _).mono ?_
  rintro e w5 ⟨rfl, b5⟩
  replace bel := belowCall bel b5
  clear b5
  go_wp2_with fail
  go_at_call 32
  refine (ask _).mono ?_
  rintro e w6 ⟨rfl, b6⟩
  replace bel := belowCall bel b6
  go_wp2_with fail
  go_ret
  exact ⟨rfl, bel⟩

set_option maxHeartbeats 2000000 in
set_option maxRecDepth 100000 in
theorem walkG (ask : ∀ w : World, Calls Try.prog 32 #[] w fun e w' => e = .returned (.bool true) ∧ Below w.heap.size w w') (w : World) (a0 : Option Addr) (cap0 cn : Nat) (C : List Rw) (hcn : Hid (cn = C.length)) (S0 : IsS w a0 cap0 C) (s : Int) (k : Nat) (ek : s % 4 = k) (hE : allE C k = 0) :
    Calls Try.prog 9 #[.agg #[.slice a0 cn cap0], .int .i64 s] w fun e w' => e = .returned (.bool true) ∧ Below w.heap.size w w' := by
  have c0 := fun W => at_any s 4 W (by decide) (by decide)
  rw [ek] at c0
  have c1 := fun W (h : IsS W a0 cap0 C) => range_is (k : Int) 0 100001 h hcn.out
  have hl : (rngL (allL C k) 0 100001).length ≤ 40 := Nat.le_trans (rng_len _ _ _) (allL_len C k)
  have each : ∀ p ∈ rngL (allL C k) 0 100001, 0 ≤ p.1 ∧ p.1 ≤ 100000 ∧ rngL (allL C k) p.1 (p.1 + 1) = [p] ∧ bucE C k p.1 (p.1 + 1) 1 = 0 ∧ bucL C k p.1 (p.1 + 1) 1 = [⟨p.1, sumS [p]⟩] := fun p hp => by
    obtain ⟨h1, h2, h3⟩ := rng_mem hp
    obtain ⟨z1, z2, z3⟩ := each_one hE p h1 h2 (by omega)
    exact ⟨h2, by omega, z1, z2, z3⟩
  have c2 := fun (p : Pt) W (h : IsS W a0 cap0 C) => range_is (k : Int) p.1 (p.1 + 1) h hcn.out
  have c3 := fun (p : Pt) W (h : IsS W a0 cap0 C) => buckets_is (k : Int) p.1 (p.1 + 1) 1 h hcn.out
  rw [hE] at c1
  simp only [hE] at c2
  obtain ⟨A, hA⟩ : ∃ A, A = rngL (allL C k) 0 100001 := ⟨_, rfl⟩
  rw [← hA] at c1 hl each
  obtain ⟨n, hn⟩ : ∃ n, n = A.length := ⟨_, rfl⟩
  rw [← hn] at c1 hl
  replace hn := hide hn
  replace each := hide each
  have B0 := Blk.laid w [.slice a0 cn cap0] 24 _ rfl
  have bel : Below w.heap.size w (w.alloc (.cells #[.slice a0 cn cap0] 24)) := (Below.refl _ _).alloc (Nat.le_refl _) _
  have S1 := S0.alloc (.cells #[.slice a0 cn cap0] 24)
  clear hA hE ek
  go_enter Try.func9, Try.ntmps9
  go_wp2_with fail
  generalize w.alloc _ = w1 at *
  go_at_call 28
  refine (c0 _).mono ?_
  rintro e wx ⟨rfl, rfl⟩
  have d0 : w1.cell? ⟨w.heap.size, 0, none⟩ = some (.slice a0 cn cap0) := B0.cell 0
  have l0 := B0.lt
  go_wp2_with fail
  go_at_call 29
  refine (c1 _ S1).mono ?_
  rintro e w3 ⟨a3, G3, rfl, o3, b3⟩
  replace B0 := B0.keep b3 B0.lt
  replace bel := belowCall bel b3
  have PA := pts_own o3
  clear b3 d0 l0 o3 S1
  go_wp2_with fail
  go_at_call 32
  refine (ask _).mono ?_
  rintro e w5 ⟨rfl, b5⟩
  replace B0 := B0.keep b5 B0.lt
  replace bel := belowCall bel b5
  replace PA := PA.call b5
  clear b5 c0 c1
  go_wp2_with fail
  go_loopw [30] (fun i wr => ∃ (j : Nat), j ≤ n ∧ i = .int .i64 j ∧ Below w5.heap.size w5 wr) (fun i _ => n - (intOf i).toNat)
  case atStart => exact ⟨0, by omega, rfl, Below.refl _ _⟩
  case round =>
    obtain ⟨j, hj, rfl, bel2⟩ := hrel
    have belR : Below w.heap.size w wr := bel.trans (bel2.mono bel.size)
    by_cases hlt : j < n
    · have hjA : j < A.length := by rw [← hn.out]; exact hlt
      have PB := PA.keep bel2 (Nat.le_refl _)
      obtain ⟨b, off, rfl, hbw⟩ := PB.where (by intro e; rw [e] at hjA; simp at hjA)
      obtain ⟨x, y, e0, e1, hx, _⟩ := PB.pt j hjA
      obtain ⟨u1, u2, u3, u4, u5⟩ := each.out (x, y) (List.mem_of_getElem? hx)
      simp only at u1 u2 u3 u4 u5
      have c4 := fun W h => c2 (x, y) W h
      have c5 := fun W h => c3 (x, y) W h
      simp only [u3] at c4
      simp only [u4, u5] at c5
      simp only [List.length_cons, List.length_nil, Nat.zero_add] at c4 c5
      have B1 := B0.keep bel2 B0.lt
      have S2 := S0.keep belR (Nat.le_refl _)
      have BP := Blk.laid wr [.int .i64 x, .int .i64 y] 44 _ rfl
      replace B1 := B1.alc (.cells #[.int .i64 x, .int .i64 y] 44)
      replace S2 := S2.alloc (.cells #[.int .i64 x, .int .i64 y] 44)
      have belP := belowNew bel2 (.cells #[.int .i64 x, .int .i64 y] 44)
      clear hx hjA u3 u4 u5 PB
      have hx1 : x + 1 ≤ 9223372036854775807 := by omega
      go_upto_region 8 with fail
      generalize wr.heap.size = g8 at *
      generalize wr.alloc _ = w6 at *
      have d0 : w6.cell? ⟨w.heap.size, 0, none⟩ = some (.slice a0 cn cap0) := B1.cell 0
      have l0 := B1.lt
      have p0 : w6.cell? ⟨g8, 0, none⟩ = some (.int .i64 x) := BP.cell 0
      have lP := BP.lt
      clear e0 e1
      go_wp2_with fail
      go_at_call 29
      refine (c4 _ S2).mono ?_
      rintro e w7 ⟨a7, G7, rfl, o7, b7⟩
      replace B1 := B1.keep b7 B1.lt
      replace BP := BP.keep b7 BP.lt
      replace S2 := S2.call b7
      replace belP := belowCall belP b7
      have P7 := pts_own o7
      clear d0 l0 p0 lP b7 o7
      have d0 : w7.cell? ⟨w.heap.size, 0, none⟩ = some (.slice a0 cn cap0) := B1.cell 0
      have l0 := B1.lt
      have p0 : w7.cell? ⟨g8, 0, none⟩ = some (.int .i64 x) := BP.cell 0
      have lP := BP.lt
      go_wp2_with fail
      go_at_call 30
      refine (c5 _ S2).mono ?_
      rintro e w8 ⟨a8, G8, rfl, o8, b8⟩
      replace BP := BP.keep b8 BP.lt
      replace belP := belowCall belP b8
      replace P7 := P7.call b8
      have Q8 := bus_own o8
      clear d0 l0 p0 lP b8 o8 B1 S2 c4 c5
      have p0 : w8.cell? ⟨g8, 0, none⟩ = some (.int .i64 x) := BP.cell 0
      have p1 : w8.cell? ⟨g8, 1, none⟩ = some (.int .i64 y) := BP.cell 1
      have lP := BP.lt
      obtain ⟨X, hX⟩ : ∃ X, X = sumS [(x, y)] := ⟨_, rfl⟩
      rw [← hX] at Q8
      have K0 : Below w8.heap.size w8 w8.drew := belowDrew (Below.refl _ _)
      have K1 := belowDrew (belowNew (Below.refl w8.heap.size w8) (.cells #[.int .i64 x, .int .i64 y] 44))
      have over : ∀ {f : Nat} {args : Array Value} {v : Value} {W : World}, Below w8.heap.size w8 W → Calls Try.prog f args W (fun e w' => e = .returned v ∧ Below W.heap.size W w') → Calls Try.prog f args W (fun e w' => e = .returned v ∧ w'.cell? ⟨g8, 0, none⟩ = some (.int .i64 x) ∧ w'.cell? ⟨g8, 1, none⟩ = some (.int .i64 y) ∧ Below w8.heap.size w8 w' ∧ Below w8.heap.size w8 (w'.alloc (.cells #[.int .i64 x, .int .i64 X.n, .int .i64 X.lo, .int .i64 X.hi, .int .i64 X.tot] 63))) := by
        intro f args v W h c
        refine c.mono ?_
        rintro e w' ⟨he, hb⟩
        have hb' := belowCall h hb
        exact ⟨he, (BP.keep hb' BP.lt).cell 0, (BP.keep hb' BP.lt).cell 1, hb', belowNew hb' _⟩
      have cP : Calls Try.prog 27 #[.slice a7 1 G7, .slice (some ⟨w8.heap.size, 0, none⟩) 1 1] (w8.alloc (.cells #[.int .i64 x, .int .i64 y] 44)).drew fun e w' => e = .returned (.bool true) ∧ Below (w8.alloc (.cells #[.int .i64 x, .int .i64 y] 44)).drew.heap.size (w8.alloc (.cells #[.int .i64 x, .int .i64 y] 44)).drew w' := by
        have p := equalPt a7 (some ⟨w8.heap.size, 0, none⟩) G7 1 [(x, y)] [(x, y)] _ (P7.keep K1 (Nat.le_refl _)) ((SlP.laid w8 [(x, y)] #[.int .i64 x, .int .i64 y] rfl 44 _ rfl 1 rfl (by decide)).drewS) (by simp) (by simp)
        rw [decide_eq_true (rfl : [(x, y)] = [(x, y)])] at p
        refine p.mono ?_
        rintro e w' ⟨he, q, rfl⟩
        exact ⟨he, belowDrewN (Below.refl _ _) q⟩
      have cO : ∀ W, Below w8.heap.size w8 W → Calls Try.prog 39 #[.slice a7 1 G7] W fun e w' => e = .returned (.agg #[.int .i64 X.n, .int .i64 X.lo, .int .i64 X.hi, .int .i64 X.tot]) ∧ Below W.heap.size W w' := by
        intro W h
        have p := of_any a7 G7 [(x, y)] W (P7.keep h (Nat.le_refl _))
        rw [← hX] at p
        exact p
      have cB : ∀ W : World, Below w8.heap.size w8 (W.alloc (.cells #[.int .i64 x, .int .i64 X.n, .int .i64 X.lo, .int .i64 X.hi, .int .i64 X.tot] 63)) → Calls Try.prog 35 #[.slice a8 1 G8, .slice (some ⟨W.heap.size, 0, none⟩) 1 1] (W.alloc (.cells #[.int .i64 x, .int .i64 X.n, .int .i64 X.lo, .int .i64 X.hi, .int .i64 X.tot] 63)) fun e w' => e = .returned (.bool true) ∧ Below (W.alloc (.cells #[.int .i64 x, .int .i64 X.n, .int .i64 X.lo, .int .i64 X.hi, .int .i64 X.tot] 63)).heap.size (W.alloc (.cells #[.int .i64 x, .int .i64 X.n, .int .i64 X.lo, .int .i64 X.hi, .int .i64 X.tot] 63)) w' := by
        intro W h
        have r := Row.laid W ([(⟨x, X⟩ : Bu)].flatMap bc) 63 _ rfl
        exact equalBu a8 (some ⟨W.heap.size, 0, none⟩) G8 1 1 [⟨x, X⟩] _ (Q8.keep h (Nat.le_refl _)) ⟨r, by simp, by decide, fun e => by cases e⟩ rfl (by decide)
      replace hX := hide hX
      clear P7 Q8
      go_wp2_with fail
      go_region_held3 (fun w' => w'.cell? ⟨g8, 0, none⟩ = some (.int .i64 x) ∧ w'.cell? ⟨g8, 1, none⟩ = some (.int .i64 y) ∧ Below w8.heap.size w8 w') (go_keep)
        (first
          | (go_at_call 27; refine (over K1 cP).mono ?_; rintro e wA ⟨rfl, z0, z1, z2, z3⟩)
          | (go_at_call 39; refine (over ?_ (cO _ ?_)).mono ?_; (simp [*]); (simp [*]); rintro e wB ⟨rfl, z0, z1, z2, zB⟩)
          | (go_at_call 35; refine (over zB (cB _ zB)).mono ?_; rintro e wC ⟨rfl, z0, z1, z2, z3⟩))
      all_goals go_wp2_with fail
      all_goals go_roundw
      case rel => exact ⟨j + 1, by omega, by go_num, belP.trans (z2.mono belP.size)⟩
      case measure => simp [intOf]; omega
    · obtain rfl : j = n := by omega
      go_wp2_with fail
      go_ret
      exact ⟨rfl, belR⟩

theorem walk (w : World) (a0 : Option Addr) (cap0 : Nat) (l : List Lr) (s0 : SlR w a0 cap0 l) (r0 : cap0 * 48 ≤ 140737488351232) (s : Int) (ws : (Lit.int .i64 s).wf = true) :
    Calls Try.prog 9 #[.agg #[.slice a0 l.length cap0], .int .i64 s] w fun e w' => e = .returned (.bool true) ∧ Below w.heap.size w w' := by
  obtain ⟨k, hk, ek⟩ : ∃ k : Nat, k < 4 ∧ s % 4 = k := ⟨(s % 4).toNat, by omega, by omega⟩
  have S0 := IsS.of s0
  have hcn : l.length = (l.map Lr.rw).length := by rw [List.length_map]
  by_cases hE : allE (l.map Lr.rw) k = 0
  · exact walkG asked_any w a0 cap0 l.length _ hcn S0 s k ek hE
  · exact walkB asked_any w a0 cap0 l.length _ hcn S0 s k ek hE

set_option maxRecDepth 100000 in
theorem lifted (os : Os) (started : os.Started) (H : Type) (enc : TypeId × Value → H) :
    ReturnsInHanded {} Try.checked os 9 .any (Rows.queryEachSpec.pre6 enc Try.prog Try.f9 Rows.queryEachRow.domain false) (Rows.queryEachSpec.post enc Try.prog Try.f9 false true false false) := by
  refine returnsInHanded_of_change_sized (C := Try.checked) own started (by kernel_rfl) Try.func9
    (ChangeSpec.witness6 (enc := enc) (C := Try.checked) false ⟨#[], #[.agg #[.slice none 0 0], .int .i64 0], []⟩ 8 (by kernel_rfl) (by kernel_rfl) (by kernel_rfl) (by kernel_rfl)) ?_
  intro W base args ds gs before hval0 hW hcnd hsz0 _
  have hsz : (DataW.weightsEach Try.prog (Try.f9.params.toList ++ Rows.queryEachSpec.plain.varTypes Try.prog) (ds ++ gs)).all (· ≤ reachBytes) = true := hsz0
  have hval : ∀ (j : Nat) t v, Try.f9.params[j]? = some t → args[j]? = some v → Value.okWide Try.prog W .any base t v := hval0
  have hW' := hW
  obtain ⟨p, q, hA0, hV, rfl, hfz, hnd⟩ := hW
  have hA : DataW.TrodAll enc Try.prog W 0 (fun _ => true) true Try.f9.params.toList args.toList ds p := hA0
  rw [Try.params9] at hA hval hsz
  obtain ⟨v0, vs0, d0, ds0, p0, q0, hargs, rfl, rfl, h0, r0⟩ := trodAll_cons hA
  obtain ⟨v1, vs1, d1, ds1, p1, q1, rfl, rfl, rfl, h1, r1⟩ := trodAll_cons r0
  obtain ⟨rfl, rfl, rfl⟩ := trodAll_nil r1
  obtain rfl : args = #[v0, v1] := by cases args; simp_all
  obtain ⟨rfl, rfl⟩ := trodVars_none hV
  have k0 := h0
  have lt0 : ∀ x ∈ p0, x.block < W.heap.size := by obtain ⟨m, hm⟩ := k0; exact DataW.trod_lt m _ _ _ hm
  obtain ⟨l0, a0, cap0, rfl, s0, reach0⟩ := open_shelf (hval 0 24 v0 rfl rfl) h0 (light_of (j := 0) hsz rfl rfl)
  obtain ⟨a1, rfl, rfl, rfl, w1⟩ := open_int Try.underlying3 (hval 1 3 v1 rfl rfl) h1
  clear hA0 hval0 hsz0
  refine (walk W a0 cap0 l0 s0 reach0 a1 w1).mono fun e W' ⟨he, bel⟩ => ?_
  subst he
  exact ⟨_, rfl, _, _, _, [], _, [], hW', trodAll_mk1 (shut_bool Try.underlying4 _), (trodAll_cons_mk (Below.trod laidOut (by kernel_rfl) (of_decide_eq_true (by kernel_rfl)) k0 bel lt0) (trodAll_cons_mk (shut_int Try.underlying3 w1) trodAll_mk0)), rfl, bel.frame _, fun h => by cases h⟩

theorem over : Rows.queryEachRow.holds Try.pinned (OpenSpec.ofChange Rows.queryEachSpec) :=
  OpenClaim.holds_of_wide 9 Try.f9 rfl rfl rfl rfl rfl rfl rfl ⟨rfl, rfl, rfl, rfl, rfl⟩ rfl rfl rfl rfl rfl (by kernel_rfl) Try.func9 (by kernel_rfl)
    (of_decide_eq_true (by kernel_rfl)) (by unfold Func.isWrapper; first | (rw [if_pos (by decide +kernel)]; kernel_rfl) | (rw [if_neg (by decide +kernel)]; exact ⟨rfl, rfl⟩))
    (fun os started H enc _ => lifted os started H enc)
end Go.Proofs.Ytgncadehaificaa.queryEach

namespace Go.Proofs.Ytgncadehaificaa
theorem queryEach_holds : Rows.QueryEachSaid := queryEach.over
#print axioms queryEach_holds
end Go.Proofs.Ytgncadehaificaa
