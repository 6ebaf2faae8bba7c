/-
  Proved: for every list of bits, every number and every width, BitsSay returns true and leaves its arguments as they were: Put and Take answer as the document says, errors too.
-/
import Derived.Test.YtjcbahbdbnpdeaaRows
import Derived.Test.YtjcbahbdbnpdeaaArgs
import Derived.Test.YtjcbahbdbnpdeaaWritten
namespace Go.Proofs.Ytjcbahbdbnpdeaa.bitsSay
open Go.ChangeShapes Go.WideShapes Go.ChangeAt Go.RowKit
set_option linter.unusedVariables false

set_option maxHeartbeats 2000000 in
set_option maxRecDepth 100000 in
theorem walk (w : World) (a0 : Option Addr) (cap0 : Nat) (l : List Bool) (s0 : Sl w a0 cap0 (l.map Value.bool)) (hreach : cap0 * 1 ≤ 140737488351232) (n : Int) (wn : (Lit.int .i64 n).wf = true) (width : Int) (ww : (Lit.int .i64 width).wf = true) :
    Calls Try.prog 4 #[.slice a0 l.length cap0, .int .i64 n, .int .i64 width] w fun e w' => e = .returned (.bool true) ∧ Below w.heap.size w w' := by
  have hl : l.length ≤ 140737488351232 := by have := s0.le; rw [List.length_map] at this; omega
  have hP := putL_length l n width hl
  have hT := takeL_length l width (by omega)
  clear wn ww hreach
  have c1 := fun W h => put_any a0 cap0 l n width W h hl
  have c2 := fun W h => take_any a0 cap0 l width W h (by omega)
  have c3 := fun W h => ref_put_any a0 cap0 l n width W h hl
  have c4 := fun W h => ref_take_any a0 cap0 l width W h
  generalize hp : putL l n width = P at *
  generalize putE n width = pe at *
  generalize ht : takeL l width = T at *
  generalize takeE l width = te at *
  generalize takeN l width = tn at *
  clear hp ht
  go_enter Try.func4, Try.ntmps4
  go_wp2_with fail
  refine (c1 _ s0).mono ?_
  rintro e w1 ⟨a1, G1, rfl, s1, b1⟩
  have B1 := b1
  have s0 := s0.call b1
  clear b1 c1
  go_wp2_with fail
  refine (c2 _ s0).mono ?_
  rintro e w2 ⟨a2, G2, rfl, s2, b2⟩
  have B1 := belowCall B1 b2
  have s0 := s0.call b2
  have s1 := s1.call b2
  clear b2 c2
  go_wp2_with fail
  refine (c3 _ s0).mono ?_
  rintro e w3 ⟨a3, G3, rfl, s3, b3⟩
  have B1 := belowCall B1 b3
  have s0 := s0.call b3
  have s1 := s1.call b3
  have s2 := s2.call b3
  clear b3 c3
  go_wp2_with fail
  refine (c4 _ s0).mono ?_
  rintro e w4 ⟨a4, G4, rfl, s4, b4⟩
  have B1 := belowCall B1 b4
  have s1 := s1.call b4
  have s2 := s2.call b4
  have s3 := s3.call b4
  clear b4 c4 s0
  go_wp2_with fail
  refine (written_any _).mono ?_
  rintro e w5 ⟨rfl, b5⟩
  have B1 := belowCall B1 b5
  have s1 := s1.call b5
  have s2 := s2.call b5
  have s3 := s3.call b5
  have s4 := s4.call b5
  clear b5
  go_wp2_with fail
  refine (equalBool _ _ _ _ P P _ s1.row s3.row (by omega) (by omega)).mono ?_
  rintro e w6 ⟨rfl, q, rfl⟩
  have s2 := s2.drewN q
  have s4 := s4.drewN q
  clear s1 s3
  go_wp2_with fail
  refine (equalBool _ _ _ _ T T _ s2.row s4.row (by omega) (by omega)).mono ?_
  rintro e w7 ⟨rfl, q', rfl⟩
  clear s2 s4
  go_wp2_with fail
  go_ret
  exact ⟨by simp, belowDrewN B1 _⟩

set_option maxRecDepth 100000 in
theorem lifted (os : Os) (started : os.Started) (H : Type) (enc : TypeId × Value → H) :
    ReturnsInHanded {} Try.checked os 4 .any (Rows.bitsSaySpec.pre6 enc Try.prog Try.f4 Rows.bitsSayRow.domain false) (Rows.bitsSaySpec.post enc Try.prog Try.f4 false true false false) := by
  refine returnsInHanded_of_change_sized (C := Try.checked) own started (by kernel_rfl) Try.func4
    (ChangeSpec.witness6 (enc := enc) (C := Try.checked) false ⟨#[], #[.slice none 0 0, .int .i64 0, .int .i64 0], []⟩ 8 (by kernel_rfl) (by kernel_rfl) (by kernel_rfl) (by kernel_rfl)) ?_
  intro W base args ds gs before hval0 hW hcnd hsz0 _
  have hsz : (DataW.weightsEach Try.prog (Try.f4.params.toList ++ Rows.bitsSaySpec.plain.varTypes Try.prog) (ds ++ gs)).all (· ≤ reachBytes) = true := hsz0
  have hval : ∀ (j : Nat) t v, Try.f4.params[j]? = some t → args[j]? = some v → Value.okWide Try.prog W .any base t v := hval0
  have hW' := hW
  obtain ⟨p, q, hA0, hV, rfl, hfz, hnd⟩ := hW
  have hA : DataW.TrodAll enc Try.prog W 0 (fun _ => true) true Try.f4.params.toList args.toList ds p := hA0
  rw [Try.params4] at hA hval hsz
  obtain ⟨v0, vs0, d0, ds0, p0, q0, hargs, rfl, rfl, h0, r0⟩ := trodAll_cons hA
  obtain ⟨v1, vs1, d1, ds1, p1, q1, rfl, rfl, rfl, h1, r1⟩ := trodAll_cons r0
  obtain ⟨v2, vs2, d2, ds2, p2, q2, rfl, rfl, rfl, h2, r2⟩ := trodAll_cons r1
  obtain ⟨rfl, rfl, rfl⟩ := trodAll_nil r2
  obtain rfl : args = #[v0, v1, v2] := by cases args; simp_all
  obtain ⟨rfl, rfl⟩ := trodVars_none hV
  obtain ⟨a0, len0, cap0, rfl⟩ := okWide_slice Try.underlying27 (hval 0 27 v0 rfl rfl)
  have k0 := h0
  have lt0 : ∀ x ∈ p0, x.block < W.heap.size := by obtain ⟨m, hm⟩ := k0; exact DataW.trod_lt m _ _ _ hm
  obtain ⟨l0, rfl, s0, dd0⟩ := open_bools Try.underlying27 Try.underlying4 (by kernel_rfl) h0
  have reach0 := reach_of (j := 0) (bytes := 1) hsz rfl rfl Try.underlying27 (by kernel_rfl) dd0
  obtain ⟨a1, rfl, rfl, rfl, w1⟩ := open_int Try.underlying3 (hval 1 3 v1 rfl rfl) h1
  obtain ⟨a2, rfl, rfl, rfl, w2⟩ := open_int Try.underlying3 (hval 2 3 v2 rfl rfl) h2
  clear hA0 hval0 hsz0
  refine (walk W a0 cap0 l0 s0 reach0 a1 w1 a2 w2).mono fun e W' ⟨he, bel⟩ => ?_
  subst he
  exact ⟨_, rfl, _, _, _, [], _, [], hW', trodAll_mk1 (shut_bool Try.underlying4 _), (trodAll_cons_mk (Below.trod laidOut (by kernel_rfl) (of_decide_eq_true (by kernel_rfl)) k0 bel lt0) (trodAll_cons_mk (shut_int Try.underlying3 w1) (trodAll_cons_mk (shut_int Try.underlying3 w2) trodAll_mk0))), rfl, bel.frame _, fun h => by cases h⟩

theorem over : Rows.bitsSayRow.holds Try.pinned (OpenSpec.ofChange Rows.bitsSaySpec) :=
  OpenClaim.holds_of_wide 4 Try.f4 rfl rfl rfl rfl rfl rfl rfl ⟨rfl, rfl, rfl, rfl, rfl⟩ rfl rfl rfl rfl rfl (by kernel_rfl) Try.func4 (by kernel_rfl)
    (of_decide_eq_true (by kernel_rfl)) (by unfold Func.isWrapper; first | (rw [if_pos (by decide +kernel)]; kernel_rfl) | (rw [if_neg (by decide +kernel)]; exact ⟨rfl, rfl⟩))
    (fun os started H enc _ => lifted os started H enc)
end Go.Proofs.Ytjcbahbdbnpdeaa.bitsSay

namespace Go.Proofs.Ytjcbahbdbnpdeaa
theorem bitsSay_holds : Rows.BitsSaySaid := bitsSay.over
#print axioms bitsSay_holds
end Go.Proofs.Ytjcbahbdbnpdeaa
