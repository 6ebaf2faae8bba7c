/-
  Proved: for every list of bits and every number, ZigSays returns true and leaves its arguments as they were: Put and Take of package zig answer as the document says, errors too.
-/
import Derived.Test.YtabjeioaphmpjaaRows
import Derived.Test.YtabjeioaphmpjaaArgs
import Derived.Test.YtabjeioaphmpjaaFolded
namespace Go.Proofs.Ytabjeioaphmpjaa.zigSays
open Go.ChangeShapes Go.WideShapes Go.ChangeAt Go.RowKit
set_option linter.unusedVariables false

set_option maxHeartbeats 2000000 in
set_option maxRecDepth 100000 in
theorem walk (w : World) (a0 : Option Addr) (cap0 : Nat) (l : List Bool) (s0 : Sl w a0 cap0 (l.map Value.bool)) (hreach : cap0 * 1 ≤ 140737488351232) (n : Int) (wn : (Lit.int .i64 n).wf = true) :
    Calls Try.prog 6 #[.slice a0 l.length cap0, .int .i64 n] w fun e w' => e = .returned (.bool true) ∧ Below w.heap.size w w' := by
  have hl : l.length ≤ 140737488351232 := by have := s0.le; rw [List.length_map] at this; omega
  have hP := zigL_length l n
  have hT := zigR_length l
  clear wn hreach
  have c1 := fun W h => zput_any a0 cap0 l n W h (by omega)
  have c2 := fun W h => ztake_any a0 cap0 l W h (by omega)
  have c3 := fun W h => coded_any a0 cap0 l n W h (by omega)
  have c4 := fun W h => decoded_any a0 cap0 l W h
  generalize hp : zigL l n = P at *
  generalize zigE n = pe at *
  generalize ht : zigR l = T at *
  generalize zigF l = te at *
  generalize zigN l = tn at *
  clear hp ht
  go_enter Try.func6, Try.ntmps6
  go_wp2_with fail
  refine (c1 _ s0).mono ?_
  rintro e w1 ⟨a1, G1, rfl, s1, b1⟩
  have B1 := b1
  have s0 := s0.call b1
  clear b1 c1
  go_wp2_with fail
  refine (c2 _ s0).mono ?_
  rintro e w2 ⟨a2, G2, rfl, s2, b2⟩
  have B1 := belowCall B1 b2
  have s0 := s0.call b2
  have s1 := s1.call b2
  clear b2 c2
  go_wp2_with fail
  refine (c3 _ s0).mono ?_
  rintro e w3 ⟨a3, G3, rfl, s3, b3⟩
  have B1 := belowCall B1 b3
  have s0 := s0.call b3
  have s1 := s1.call b3
  have s2 := s2.call b3
  clear b3 c3
  go_wp2_with fail
  refine (c4 _ s0).mono ?_
  rintro e w4 ⟨a4, G4, rfl, s4, b4⟩
  have B1 := belowCall B1 b4
  have s1 := s1.call b4
  have s2 := s2.call b4
  have s3 := s3.call b4
  clear b4 c4 s0
  go_wp2_with fail
  refine (folded_any _).mono ?_
  rintro e w5 ⟨rfl, b5⟩
  have B1 := belowCall B1 b5
  have s1 := s1.call b5
  have s2 := s2.call b5
  have s3 := s3.call b5
  have s4 := s4.call b5
  clear b5
  go_wp2_with fail
  refine (equalBool _ _ _ _ P P _ s1.row s3.row (by omega) (by omega)).mono ?_
  rintro e w6 ⟨rfl, q, rfl⟩
  have s2 := s2.drewN q
  have s4 := s4.drewN q
  clear s1 s3
  go_wp2_with fail
  refine (equalBool _ _ _ _ T T _ s2.row s4.row (by omega) (by omega)).mono ?_
  rintro e w7 ⟨rfl, q', rfl⟩
  clear s2 s4
  go_wp2_with fail
  go_ret
  exact ⟨by simp, belowDrewN B1 _⟩

set_option maxRecDepth 100000 in
theorem lifted (os : Os) (started : os.Started) (H : Type) (enc : TypeId × Value → H) :
    ReturnsInHanded {} Try.checked os 6 .any (Rows.zigSaysSpec.pre6 enc Try.prog Try.f6 Rows.zigSaysRow.domain false) (Rows.zigSaysSpec.post enc Try.prog Try.f6 false true false false) := by
  refine returnsInHanded_of_change_sized (C := Try.checked) own started (by kernel_rfl) Try.func6
    (ChangeSpec.witness6 (enc := enc) (C := Try.checked) false ⟨#[], #[.slice none 0 0, .int .i64 0], []⟩ 8 (by kernel_rfl) (by kernel_rfl) (by kernel_rfl) (by kernel_rfl)) ?_
  intro W base args ds gs before hval0 hW hcnd hsz0 _
  have hsz : (DataW.weightsEach Try.prog (Try.f6.params.toList ++ Rows.zigSaysSpec.plain.varTypes Try.prog) (ds ++ gs)).all (· ≤ reachBytes) = true := hsz0
  have hval : ∀ (j : Nat) t v, Try.f6.params[j]? = some t → args[j]? = some v → Value.okWide Try.prog W .any base t v := hval0
  have hW' := hW
  obtain ⟨p, q, hA0, hV, rfl, hfz, hnd⟩ := hW
  have hA : DataW.TrodAll enc Try.prog W 0 (fun _ => true) true Try.f6.params.toList args.toList ds p := hA0
  rw [Try.params6] at hA hval hsz
  obtain ⟨v0, vs0, d0, ds0, p0, q0, hargs, rfl, rfl, h0, r0⟩ := trodAll_cons hA
  obtain ⟨v1, vs1, d1, ds1, p1, q1, rfl, rfl, rfl, h1, r1⟩ := trodAll_cons r0
  obtain ⟨rfl, rfl, rfl⟩ := trodAll_nil r1
  obtain rfl : args = #[v0, v1] := by cases args; simp_all
  obtain ⟨rfl, rfl⟩ := trodVars_none hV
  obtain ⟨a0, len0, cap0, rfl⟩ := okWide_slice Try.underlying27 (hval 0 27 v0 rfl rfl)
  have k0 := h0
  have lt0 : ∀ x ∈ p0, x.block < W.heap.size := by obtain ⟨m, hm⟩ := k0; exact DataW.trod_lt m _ _ _ hm
  obtain ⟨l0, rfl, s0, dd0⟩ := open_bools Try.underlying27 Try.underlying4 (by kernel_rfl) h0
  have reach0 := reach_of (j := 0) (bytes := 1) hsz rfl rfl Try.underlying27 (by kernel_rfl) dd0
  obtain ⟨a1, rfl, rfl, rfl, w1⟩ := open_int Try.underlying3 (hval 1 3 v1 rfl rfl) h1
  clear hA0 hval0 hsz0
  refine (walk W a0 cap0 l0 s0 reach0 a1 w1).mono fun e W' ⟨he, bel⟩ => ?_
  subst he
  exact ⟨_, rfl, _, _, _, [], _, [], hW', trodAll_mk1 (shut_bool Try.underlying4 _), (trodAll_cons_mk (Below.trod laidOut (by kernel_rfl) (of_decide_eq_true (by kernel_rfl)) k0 bel lt0) (trodAll_cons_mk (shut_int Try.underlying3 w1) trodAll_mk0)), rfl, bel.frame _, fun h => by cases h⟩

theorem over : Rows.zigSaysRow.holds Try.pinned (OpenSpec.ofChange Rows.zigSaysSpec) :=
  OpenClaim.holds_of_wide 6 Try.f6 rfl rfl rfl rfl rfl rfl rfl ⟨rfl, rfl, rfl, rfl, rfl⟩ rfl rfl rfl rfl rfl (by kernel_rfl) Try.func6 (by kernel_rfl)
    (of_decide_eq_true (by kernel_rfl)) (by unfold Func.isWrapper; first | (rw [if_pos (by decide +kernel)]; kernel_rfl) | (rw [if_neg (by decide +kernel)]; exact ⟨rfl, rfl⟩))
    (fun os started H enc _ => lifted os started H enc)
end Go.Proofs.Ytabjeioaphmpjaa.zigSays

namespace Go.Proofs.Ytabjeioaphmpjaa
theorem zigSays_holds : Rows.ZigSaysSaid := zigSays.over
#print axioms zigSays_holds
end Go.Proofs.Ytabjeioaphmpjaa
