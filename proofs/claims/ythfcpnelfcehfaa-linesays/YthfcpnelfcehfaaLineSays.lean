/-
  Proved: for all points, all bits and every number, LineSays returns true and leaves its arguments as they were: Check, Pack and Unpack of package line answer as the document says, errors too.
-/
import Derived.Test.YthfcpnelfcehfaaRows
import Derived.Test.YthfcpnelfcehfaaLined
import Derived.Test.YthfcpnelfcehfaaRefUnpack
import Derived.Test.YthfcpnelfcehfaaEqual
namespace Go.Proofs.Ythfcpnelfcehfaa.lineSays
open Go.ChangeShapes Go.WideShapes Go.ChangeAt Go.RowKit
set_option linter.unusedVariables false

set_option maxHeartbeats 2000000 in
set_option maxRecDepth 100000 in
theorem walk (w : World) (a0 : Option Addr) (cap0 : Nat) (l : List Pt) (s0 : SlP w a0 cap0 l) (hreach : cap0 * 16 ≤ 140737488351232) (wf : ∀ p ∈ l, (Lit.int .i64 p.1).wf = true ∧ (Lit.int .i64 p.2).wf = true) (ab : Option Addr) (capb : Nat) (b : List Bool) (sb : Sl w ab capb (b.map Value.bool)) (hreachb : capb * 1 ≤ 140737488351232) (n : Int) (wn : (Lit.int .i64 n).wf = true) :
    Calls Try.prog 8 #[.slice a0 l.length cap0, .slice ab b.length capb, .int .i64 n] w fun e w' => e = .returned (.bool true) ∧ Below w.heap.size w w' := by
  have hl : b.length ≤ 140737488351232 := by have := sb.le; rw [List.length_map] at this; omega
  have hP := packL_length l
  have hU := unpL_length b n
  clear wn hreach hreachb wf
  have c1 := fun W h => pack_any a0 cap0 l W h
  have c2 := fun W h => unpack_any ab capb b n W h (by omega)
  have c3 := fun W h => refPack_any a0 cap0 l W h
  have c4 := fun W h => refUnpack_any ab capb b n W h
  have c5 := fun W h => check_any a0 cap0 l W h
  have c6 := fun W h => refCheck_any a0 cap0 l W h
  generalize packL l = P at *
  generalize checkE l = pe at *
  generalize unpL b n = U at *
  generalize unpE b n = ue at *
  go_enter Try.func8, Try.ntmps8
  go_wp2_with fail
  go_at_call 23
  refine (c1 _ s0).mono ?_
  rintro e w1 ⟨a1, G1, rfl, s1, b1⟩
  have B1 := b1
  have s0 := s0.call b1
  have sb := sb.call b1
  clear b1 c1
  go_wp2_with fail
  go_at_call 24
  refine (c2 _ sb).mono ?_
  rintro e w2 ⟨a2, G2, rfl, s2, b2⟩
  have B1 := belowCall B1 b2
  have s0 := s0.call b2
  have sb := sb.call b2
  have s1 := s1.call b2
  clear b2 c2
  go_wp2_with fail
  go_at_call 25
  refine (c3 _ s0).mono ?_
  rintro e w3 ⟨a3, G3, rfl, s3, b3⟩
  have B1 := belowCall B1 b3
  have s0 := s0.call b3
  have sb := sb.call b3
  have s1 := s1.call b3
  have s2 := s2.call b3
  clear b3 c3
  go_wp2_with fail
  go_at_call 26
  refine (c4 _ sb).mono ?_
  rintro e w4 ⟨a4, G4, rfl, s4, b4⟩
  have B1 := belowCall B1 b4
  have s0 := s0.call b4
  have s1 := s1.call b4
  have s2 := s2.call b4
  have s3 := s3.call b4
  clear b4 c4 sb
  go_wp2_with fail
  go_at_call 27
  refine (lined_any _).mono ?_
  rintro e w5 ⟨rfl, b5⟩
  have B1 := belowCall B1 b5
  have s0 := s0.call b5
  have s1 := s1.call b5
  have s2 := s2.call b5
  have s3 := s3.call b5
  have s4 := s4.call b5
  clear b5
  go_wp2_with fail
  go_at_call 28
  refine (c5 _ s0).mono ?_
  rintro e w6 ⟨rfl, b6⟩
  have B1 := belowCall B1 b6
  have s0 := s0.call b6
  have s1 := s1.call b6
  have s2 := s2.call b6
  have s3 := s3.call b6
  have s4 := s4.call b6
  clear b6 c5
  go_wp2_with fail
  go_at_call 29
  refine (c6 _ s0).mono ?_
  rintro e w7 ⟨rfl, b7⟩
  have B1 := belowCall B1 b7
  have s1 := s1.call b7
  have s2 := s2.call b7
  have s3 := s3.call b7
  have s4 := s4.call b7
  clear b7 c6 s0
  go_wp2_with fail
  go_at_call 15
  refine (equalBool _ _ _ _ P P _ s1.row s3.row (by omega) (by omega)).mono ?_
  rintro e w8 ⟨rfl, q, rfl⟩
  have s2 := s2.drewN q
  have s4 := s4.drewN q
  clear s1 s3
  go_wp2_with fail
  go_at_call 30
  refine (equalPt _ _ _ _ U U _ s2 s4 (by omega) (by omega)).mono ?_
  rintro e w9 ⟨rfl, q2, rfl⟩
  go_wp2_with fail
  go_ret
  exact ⟨by simp, belowDrewN B1 _⟩

set_option maxRecDepth 100000 in
theorem lifted (os : Os) (started : os.Started) (H : Type) (enc : TypeId × Value → H) :
    ReturnsInHanded {} Try.checked os 8 .any (Rows.lineSaysSpec.pre6 enc Try.prog Try.f8 Rows.lineSaysRow.domain false) (Rows.lineSaysSpec.post enc Try.prog Try.f8 false true false false) := by
  refine returnsInHanded_of_change_sized (C := Try.checked) own started (by kernel_rfl) Try.func8
    (ChangeSpec.witness6 (enc := enc) (C := Try.checked) false ⟨#[], #[.slice none 0 0, .slice none 0 0, .int .i64 0], []⟩ 8 (by kernel_rfl) (by kernel_rfl) (by kernel_rfl) (by kernel_rfl)) ?_
  intro W base args ds gs before hval0 hW hcnd hsz0 _
  have hsz : (DataW.weightsEach Try.prog (Try.f8.params.toList ++ Rows.lineSaysSpec.plain.varTypes Try.prog) (ds ++ gs)).all (· ≤ reachBytes) = true := hsz0
  have hval : ∀ (j : Nat) t v, Try.f8.params[j]? = some t → args[j]? = some v → Value.okWide Try.prog W .any base t v := hval0
  have hW' := hW
  obtain ⟨p, q, hA0, hV, rfl, hfz, hnd⟩ := hW
  have hA : DataW.TrodAll enc Try.prog W 0 (fun _ => true) true Try.f8.params.toList args.toList ds p := hA0
  rw [Try.params8] at hA hval hsz
  obtain ⟨v0, vs0, d0, ds0, p0, q0, hargs, rfl, rfl, h0, r0⟩ := trodAll_cons hA
  obtain ⟨v1, vs1, d1, ds1, p1, q1, rfl, rfl, rfl, h1, r1⟩ := trodAll_cons r0
  obtain ⟨v2, vs2, d2, ds2, p2, q2, rfl, rfl, rfl, h2, r2⟩ := trodAll_cons r1
  obtain ⟨rfl, rfl, rfl⟩ := trodAll_nil r2
  obtain rfl : args = #[v0, v1, v2] := by cases args; simp_all
  obtain ⟨rfl, rfl⟩ := trodVars_none hV
  obtain ⟨a0, len0, cap0, rfl⟩ := okWide_slice Try.underlying41 (hval 0 41 v0 rfl rfl)
  have k0 := h0
  have lt0 : ∀ x ∈ p0, x.block < W.heap.size := by obtain ⟨m, hm⟩ := k0; exact DataW.trod_lt m _ _ _ hm
  obtain ⟨l0, rfl, s0, wf0, dd0⟩ := open_points Try.underlying41 Try.underlying48 (by kernel_rfl) rfl rfl (by kernel_rfl) (by kernel_rfl) Try.underlying3 Try.underlying3 h0
  have reach0 := reach_of (j := 0) (bytes := 16) hsz rfl rfl Try.underlying41 (by kernel_rfl) dd0
  obtain ⟨a1, len1, cap1, rfl⟩ := okWide_slice Try.underlying27 (hval 1 27 v1 rfl rfl)
  have k1 := h1
  have lt1 : ∀ x ∈ p1, x.block < W.heap.size := by obtain ⟨m, hm⟩ := k1; exact DataW.trod_lt m _ _ _ hm
  obtain ⟨l1, rfl, s1, dd1⟩ := open_bools Try.underlying27 Try.underlying4 (by kernel_rfl) h1
  have reach1 := reach_of (j := 1) (bytes := 1) hsz rfl rfl Try.underlying27 (by kernel_rfl) dd1
  obtain ⟨a2, rfl, rfl, rfl, w2⟩ := open_int Try.underlying3 (hval 2 3 v2 rfl rfl) h2
  clear hA0 hval0 hsz0
  refine (walk W a0 cap0 l0 s0 reach0 wf0 a1 cap1 l1 s1 reach1 a2 w2).mono fun e W' ⟨he, bel⟩ => ?_
  subst he
  exact ⟨_, rfl, _, _, _, [], _, [], hW', trodAll_mk1 (shut_bool Try.underlying4 _), (trodAll_cons_mk (Below.trod laidOut (by kernel_rfl) (of_decide_eq_true (by kernel_rfl)) k0 bel lt0) (trodAll_cons_mk (Below.trod laidOut (by kernel_rfl) (of_decide_eq_true (by kernel_rfl)) k1 bel lt1) (trodAll_cons_mk (shut_int Try.underlying3 w2) trodAll_mk0))), rfl, bel.frame _, fun h => by cases h⟩

theorem over : Rows.lineSaysRow.holds Try.pinned (OpenSpec.ofChange Rows.lineSaysSpec) :=
  OpenClaim.holds_of_wide 8 Try.f8 rfl rfl rfl rfl rfl rfl rfl ⟨rfl, rfl, rfl, rfl, rfl⟩ rfl rfl rfl rfl rfl (by kernel_rfl) Try.func8 (by kernel_rfl)
    (of_decide_eq_true (by kernel_rfl)) (by unfold Func.isWrapper; first | (rw [if_pos (by decide +kernel)]; kernel_rfl) | (rw [if_neg (by decide +kernel)]; exact ⟨rfl, rfl⟩))
    (fun os started H enc _ => lifted os started H enc)
end Go.Proofs.Ythfcpnelfcehfaa.lineSays

namespace Go.Proofs.Ythfcpnelfcehfaa
theorem lineSays_holds : Rows.LineSaysSaid := lineSays.over
#print axioms lineSays_holds
end Go.Proofs.Ythfcpnelfcehfaa
