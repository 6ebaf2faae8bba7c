/-
  Proved: for all four numbers LineSteady returns true: points of which each comes as long behind the one ahead as that did, with the same value, take 8 bits each, from the third one on.
-/
import Derived.Test.YthfcpnelfcehfabRows
import Derived.Test.YthfcpnelfcehfabLined
import Derived.Test.YthfcpnelfcehfabLineMore
import Derived.Test.YthfcpnelfcehfabAt
namespace Go.Proofs.Ythfcpnelfcehfab.lineSteady
open Go.ChangeShapes Go.WideShapes Go.ChangeAt Go.RowKit
set_option linter.unusedVariables false

set_option maxHeartbeats 4000000 in
set_option maxRecDepth 100000 in
theorem walk (w : World) (fr : Int) (w0 : (Lit.int .i64 fr).wf = true) (step : Int) (w1 : (Lit.int .i64 step).wf = true) (va : Int) (w2 : (Lit.int .i64 va).wf = true) (n : Int) (w3 : (Lit.int .i64 n).wf = true) :
    Calls Try.prog 4 #[.int .i64 fr, .int .i64 step, .int .i64 va, .int .i64 n] w fun e w' => e = .returned (.bool true) ∧ Below w.heap.size w w' := by
  clear w0 w1 w2 w3
  have A1 := fun W => at_any step 1000 W (by omega) (by omega)
  have s0 := Int.emod_nonneg step (show (1000 : Int) ≠ 0 by omega)
  have s1 := Int.emod_lt_of_pos step (show (0 : Int) < 1000 by omega)
  generalize step % 1000 = st at *
  have A2 := fun W => at_any n 39 W (by omega) (by omega)
  have n0 := Int.emod_nonneg n (show (39 : Int) ≠ 0 by omega)
  have n1 := Int.emod_lt_of_pos n (show (0 : Int) < 39 by omega)
  obtain ⟨M, hM⟩ := Int.eq_ofNat_of_zero_le n0
  rw [hM] at A2 n1
  clear n0 hM
  have A3 : ∀ W z, z = 100000 - (1 + st) * 40 → Calls Try.prog 11 #[.int .i64 fr, .int .i64 z] W fun e w' => e = .returned (.int .i64 (fr % (100000 - (1 + st) * 40))) ∧ W = w' := by
    rintro W z rfl
    exact at_any fr _ W (by omega) (by omega)
  have f0 := Int.emod_nonneg fr (show 100000 - (1 + st) * 40 ≠ 0 by omega)
  have f1 := Int.emod_lt_of_pos fr (show (0 : Int) < 100000 - (1 + st) * 40 by omega)
  generalize fr % (100000 - (1 + st) * 40) = f at *
  have A4 := fun W => at_any va 1000000 W (by omega) (by omega)
  have v0 := Int.emod_nonneg va (show (1000000 : Int) ≠ 0 by omega)
  have v1 := Int.emod_lt_of_pos va (show (0 : Int) < 1000000 by omega)
  generalize va % 1000000 = v at *
  have hbig : f + (1 + st) * ((M + 2 : Nat) : Int) ≤ 100000 := by
    have : (1 + st) * ((M + 2 : Nat) : Int) ≤ (1 + st) * 40 := Int.mul_le_mul_of_nonneg_left (by omega) (by omega)
    omega
  obtain ⟨q1, q2, q3⟩ := steady_bits M f0 (show 1 ≤ 1 + st by omega) (by omega) hbig (by omega) (show -1000000 ≤ v ∧ v ≤ 1000000 by omega)
  have hL := steady_length (M + 2) f (1 + st) v
  have cP : ∀ a c W, SlP W a c (steady f (1 + st) v (M + 2)) → Calls Try.prog 6 #[.slice a (M + 2) c] W fun e w' => ∃ a' G, e = .returned (.tuple #[.slice a' (packL (steady f (1 + st) v (M + 2))).length G, .int .i64 0]) ∧ Below W.heap.size W w' := by
    intro a c W h
    have p := pack_any a c _ W h
    rw [q1, hL] at p
    refine p.mono ?_
    rintro e w' ⟨a', G, he, -, hb⟩
    exact ⟨a', G, he, hb⟩
  have cQ : ∀ a c W, SlP W a c (steady f (1 + st) v (M + 2)) → Calls Try.prog 6 #[.slice a 2 c] W fun e w' => ∃ a' G, e = .returned (.tuple #[.slice a' (packL ((steady f (1 + st) v (M + 2)).take 2)).length G, .int .i64 0]) ∧ Below W.heap.size W w' := by
    intro a c W h
    have p := pack_any a c _ W (h.front 2)
    rw [q2, List.length_take, hL, Nat.min_eq_left (by omega)] at p
    refine p.mono ?_
    rintro e w' ⟨a', G, he, -, hb⟩
    exact ⟨a', G, he, hb⟩
  have hp1 := packL_length (steady f (1 + st) v (M + 2))
  have hp2 := packL_length ((steady f (1 + st) v (M + 2)).take 2)
  generalize (packL (steady f (1 + st) v (M + 2))).length = P1 at *
  generalize (packL ((steady f (1 + st) v (M + 2)).take 2)).length = P2 at *
  have hq3 : (P1 : Int) = (P2 : Int) + 8 * (M : Int) := by omega
  have HB := hide hbig
  have HQ := hide hq3
  clear q1 q2 q3 hL hbig hq3
  obtain ⟨i0, hi, hz0, hz1, hz2⟩ := info_parts infoPt
  go_enter Try.func4, Try.ntmps4
  go_wp2_with fail
  go_at_call 11
  refine (A1 _).mono ?_
  rintro e w1 ⟨rfl, rfl⟩
  go_wp2_with fail
  go_at_call 11
  refine (A2 _).mono ?_
  rintro e w1 ⟨rfl, rfl⟩
  go_wp2_with fail
  go_at_call 11
  refine (A3 _ _ (by omega)).mono ?_
  rintro e w1 ⟨rfl, rfl⟩
  go_wp2_with fail
  go_at_call 11
  refine (A4 _).mono ?_
  rintro e w1 ⟨rfl, rfl⟩
  clear A1 A2 A3 A4
  go_wp2_with fail
  go_loopw [9, 29] (fun o i wr => ∃ k : Nat, k ≤ M + 2 ∧ i = .int .i64 k ∧ wr.ownsRow w.heap.size 32 2 o k (cellsP (steady f (1 + st) v k)) ∧ Below w.heap.size w wr) (fun _ i _ => M + 2 - (intOf i).toNat)
  case atStart => exact ⟨0, by omega, rfl, ⟨rfl, .inl ⟨rfl, rfl⟩⟩, Below.refl _ _⟩
  case round =>
    obtain ⟨k, hk, rfl, own, bel⟩ := hrel
    by_cases hlt : k < M + 2
    · have hlt' : (k : Int) < (M : Int) + 2 := by omega
      have m1 : 0 ≤ (k : Int) * (1 + st) := Int.mul_nonneg (by omega) (by omega)
      have m2 : (k : Int) * (1 + st) ≤ 40 * (1 + st) := Int.mul_le_mul_of_nonneg_right (by omega) (by omega)
      go_wp2_with (at_builtin; refine wpList_append_new _ rfl (.tmp 32) (.tmp 40) 22 rfl w.heap.size 32 i0 _ 2 16 Try.underlying22 hi hz0 hz1 hz2 rfl (by decide) _ k _ rfl own 1 _ _ rfl rfl (by simp [Value.oneCell']) (by decide) (by unfold maxLen; omega) (by omega) bel.size ?_)
      intro v6 w6 own6 grow6 went6
      have own7 : w6.ownsRow w.heap.size 32 2 v6 (k + 1) (cellsP (steady f (1 + st) v (k + 1))) := by
        rw [steady_snoc, cellsP_append]; exact own6
      have bel6 := belowGrown bel own grow6 (Nat.le_refl _) bel.size
      clear own6 grow6 went6 own bel
      go_wp2_with fail
      go_roundw
      case rel => exact ⟨k + 1, by omega, by go_num, own7, bel6⟩
      case measure => simp [intOf]; omega
    · obtain rfl : k = M + 2 := by omega
      obtain ⟨a6, c6, rfl, sp6, hl6, -⟩ := SlP.ofOwn own
      have hc6 : M + 2 ≤ c6 := by have := sp6.le; omega
      have hm6 := sp6.max
      clear hl6 own
      generalize steady f (1 + st) v (M + 2) = L at *
      go_wp2_with fail
      go_at_call 6
      refine (cP _ _ _ sp6).mono ?_
      rintro e w7 ⟨a7, G7, rfl, b7⟩
      have sp7 := sp6.call b7
      have bel7 := belowCall bel b7
      clear b7 cP sp6 bel
      go_wp2_with fail
      go_at_call 6
      refine (cQ _ _ _ sp7).mono ?_
      rintro e w8 ⟨a8, G8, rfl, b8⟩
      have bel8 := belowCall bel7 b8
      clear b8 cQ sp7 bel7
      have hq : (P1 : Int) = (P2 : Int) + 8 * (M : Int) := HQ.out
      go_wp2_with fail
      go_at_call 7
      refine (lined_any _).mono ?_
      rintro e w9 ⟨rfl, b9⟩
      go_wp2_with fail
      go_ret
      exact ⟨by simp, belowCall bel8 b9⟩

set_option maxRecDepth 100000 in
theorem lifted (os : Os) (started : os.Started) (H : Type) (enc : TypeId × Value → H) :
    ReturnsInHanded {} Try.checked os 4 .any (Rows.lineSteadySpec.pre6 enc Try.prog Try.f4 Rows.lineSteadyRow.domain false) (Rows.lineSteadySpec.post enc Try.prog Try.f4 false true false false) := by
  refine returnsInHanded_of_change_sized (C := Try.checked) own started (by kernel_rfl) Try.func4
    (ChangeSpec.witness6 (enc := enc) (C := Try.checked) false ⟨#[], #[.int .i64 0, .int .i64 0, .int .i64 0, .int .i64 0], []⟩ 8 (by kernel_rfl) (by kernel_rfl) (by kernel_rfl) (by kernel_rfl)) ?_
  intro W base args ds gs before hval0 hW hcnd hsz0 _
  have hsz : (DataW.weightsEach Try.prog (Try.f4.params.toList ++ Rows.lineSteadySpec.plain.varTypes Try.prog) (ds ++ gs)).all (· ≤ reachBytes) = true := hsz0
  have hval : ∀ (j : Nat) t v, Try.f4.params[j]? = some t → args[j]? = some v → Value.okWide Try.prog W .any base t v := hval0
  have hW' := hW
  obtain ⟨p, q, hA0, hV, rfl, hfz, hnd⟩ := hW
  have hA : DataW.TrodAll enc Try.prog W 0 (fun _ => true) true Try.f4.params.toList args.toList ds p := hA0
  rw [Try.params4] at hA hval hsz
  obtain ⟨v0, vs0, d0, ds0, p0, q0, hargs, rfl, rfl, h0, r0⟩ := trodAll_cons hA
  obtain ⟨v1, vs1, d1, ds1, p1, q1, rfl, rfl, rfl, h1, r1⟩ := trodAll_cons r0
  obtain ⟨v2, vs2, d2, ds2, p2, q2, rfl, rfl, rfl, h2, r2⟩ := trodAll_cons r1
  obtain ⟨v3, vs3, d3, ds3, p3, q3, rfl, rfl, rfl, h3, r3⟩ := trodAll_cons r2
  obtain ⟨rfl, rfl, rfl⟩ := trodAll_nil r3
  obtain rfl : args = #[v0, v1, v2, v3] := by cases args; simp_all
  obtain ⟨rfl, rfl⟩ := trodVars_none hV
  obtain ⟨a0, rfl, rfl, rfl, w0⟩ := open_int Try.underlying3 (hval 0 3 v0 rfl rfl) h0
  obtain ⟨a1, rfl, rfl, rfl, w1⟩ := open_int Try.underlying3 (hval 1 3 v1 rfl rfl) h1
  obtain ⟨a2, rfl, rfl, rfl, w2⟩ := open_int Try.underlying3 (hval 2 3 v2 rfl rfl) h2
  obtain ⟨a3, rfl, rfl, rfl, w3⟩ := open_int Try.underlying3 (hval 3 3 v3 rfl rfl) h3
  clear hA0 hval0 hsz0
  refine (walk W a0 w0 a1 w1 a2 w2 a3 w3).mono fun e W' ⟨he, bel⟩ => ?_
  subst he
  exact ⟨_, rfl, _, _, _, [], _, [], hW', trodAll_mk1 (shut_bool Try.underlying4 _), (trodAll_cons_mk (shut_int Try.underlying3 w0) (trodAll_cons_mk (shut_int Try.underlying3 w1) (trodAll_cons_mk (shut_int Try.underlying3 w2) (trodAll_cons_mk (shut_int Try.underlying3 w3) trodAll_mk0)))), rfl, bel.frame _, fun h => by cases h⟩

theorem over : Rows.lineSteadyRow.holds Try.pinned (OpenSpec.ofChange Rows.lineSteadySpec) :=
  OpenClaim.holds_of_wide 4 Try.f4 rfl rfl rfl rfl rfl rfl rfl ⟨rfl, rfl, rfl, rfl, rfl⟩ rfl rfl rfl rfl rfl (by kernel_rfl) Try.func4 (by kernel_rfl)
    (of_decide_eq_true (by kernel_rfl)) (by unfold Func.isWrapper; first | (rw [if_pos (by decide +kernel)]; kernel_rfl) | (rw [if_neg (by decide +kernel)]; exact ⟨rfl, rfl⟩))
    (fun os started H enc _ => lifted os started H enc)
end Go.Proofs.Ythfcpnelfcehfab.lineSteady

namespace Go.Proofs.Ythfcpnelfcehfab
theorem lineSteady_holds : Rows.LineSteadySaid := lineSteady.over
#print axioms lineSteady_holds
end Go.Proofs.Ythfcpnelfcehfab
