/-
  Proved: for all points and every number, LineBegins returns true and leaves its arguments as they were: the first points are packed as the beginning of all; each more takes 8 bits at least, and 64 at most.
-/
import Derived.Test.YthfcpnelfcehfabRows
import Derived.Test.YthfcpnelfcehfabLined
import Derived.Test.YthfcpnelfcehfabLineMore
import Derived.Test.YthfcpnelfcehfabEqual
import Derived.Test.YthfcpnelfcehfabAt
namespace Go.Proofs.Ythfcpnelfcehfab.lineBegins
open Go.ChangeShapes Go.WideShapes Go.ChangeAt Go.RowKit
set_option linter.unusedVariables false

theorem front {w : World} {ao : Option Addr} {cap : Nat} {Y c : List Bool} (h : Sl w ao cap ((Y ++ c).map Value.bool)) : Sl w ao cap (Y.map Value.bool) := by
  have hle := h.le
  rw [List.length_map, List.length_append] at hle
  refine ⟨?_, by rw [List.length_map]; omega, h.max, h.nil⟩
  rcases h.row with h0 | ⟨b, off, e, hb, hc⟩
  · left
    rw [List.map_append] at h0
    exact (List.append_eq_nil_iff.1 h0).1
  · refine .inr ⟨b, off, e, hb, fun i v hv => hc i v ?_⟩
    rw [List.map_append, List.getElem?_append_left (List.getElem?_eq_some_iff.1 hv).1]
    exact hv

set_option maxHeartbeats 4000000 in
set_option maxRecDepth 100000 in
theorem walk (w : World) (a0 : Option Addr) (cap0 : Nat) (l : List Pt) (s0 : SlP w a0 cap0 l) (hreach : cap0 * 16 ≤ 140737488351232) (wf : ∀ p ∈ l, (Lit.int .i64 p.1).wf = true ∧ (Lit.int .i64 p.2).wf = true) (k : Int) (wk : (Lit.int .i64 k).wf = true) :
    Calls Try.prog 5 #[.slice a0 l.length cap0, .int .i64 k] w fun e w' => e = .returned (.bool true) ∧ Below w.heap.size w w' := by
  have hP := packL_length l
  clear wk hreach wf
  have c1 := fun W h => pack_any a0 cap0 l W h
  by_cases hc : checkE l = 0
  · have h40 := (checkE_zero hc).1
    rw [hc] at c1
    have hk0 := Int.emod_nonneg k (show (l.length : Int) + 1 ≠ 0 by omega)
    have hk1 := Int.emod_lt_of_pos k (show 0 < (l.length : Int) + 1 by omega)
    have c2 := fun W => at_any k ((l.length : Int) + 1) W (by omega) (by omega)
    obtain ⟨K, hK⟩ := Int.eq_ofNat_of_zero_le hk0
    rw [hK] at hk1 c2
    clear hk0 hK
    have hKl : K ≤ l.length := by omega
    obtain ⟨c, hcat, hc8, hc64⟩ := begins hc K
    have c3 : ∀ W, SlP W a0 cap0 l → Calls Try.prog 6 #[.slice a0 K cap0] W fun e w' => ∃ a' G, e = .returned (.tuple #[.slice a' (packL (l.take K)).length G, .int .i64 0]) ∧ Sl w' a' G ((packL (l.take K)).map Value.bool) ∧ Below W.heap.size W w' := by
      intro W h
      have p := pack_any a0 cap0 (l.take K) W (h.front K)
      rw [check_take hc K, List.length_take, Nat.min_eq_left hKl] at p
      exact p
    have hYP : (packL l).length = (packL (l.take K)).length + c.length := by rw [hcat, List.length_append]
    have e1 : ∀ W a a' G G', Sl W a G ((packL l).map Value.bool) → Sl W a' G' ((packL (l.take K)).map Value.bool) → Calls Try.prog 10 #[.slice a (packL (l.take K)).length G, .slice a' (packL (l.take K)).length G'] W fun e w' => e = .returned (.bool true) ∧ ∃ q, w' = W.drewN q := by
      intro W a a' G G' h h'
      rw [hcat] at h
      have p := equalBool a a' G G' (packL (l.take K)) (packL (l.take K)) W (front h).row h'.row (by omega) (by omega)
      rw [decide_eq_true (rfl : packL (l.take K) = packL (l.take K))] at p
      exact p
    generalize packL l = P at *
    generalize packL (l.take K) = Y at *
    have hY1 : (Y.length : Int) ≤ (P.length : Int) := by omega
    have hY2 : (Y.length : Int) + 8 * ((l.length : Int) - (K : Int)) ≤ (P.length : Int) := by omega
    have hY3 : (P.length : Int) ≤ (Y.length : Int) + 64 * ((l.length : Int) - (K : Int)) := by omega
    have hKc : K ≤ cap0 := by have := s0.le; omega
    have hmx := s0.max
    clear hcat hc8 hc64 hc
    have HH := hide hYP
    clear hYP
    go_enter Try.func5, Try.ntmps5
    go_wp2_with fail
    go_at_call 6
    refine (c1 _ s0).mono ?_
    rintro e w1 ⟨a1, G1, rfl, s1, b1⟩
    have B1 := b1
    have s0 := s0.call b1
    clear b1 c1
    go_wp2_with fail
    go_at_call 7
    refine (lined_any _).mono ?_
    rintro e w2 ⟨rfl, b2⟩
    have B1 := belowCall B1 b2
    have s0 := s0.call b2
    have s1 := s1.call b2
    clear b2
    go_wp2_with fail
    go_at_call 11
    refine (c2 _).mono ?_
    rintro e w3 ⟨rfl, rfl⟩
    go_wp2_with fail
    go_at_call 6
    refine (c3 _ s0).mono ?_
    rintro e w4 ⟨a4, G4, rfl, s4, b4⟩
    have B1 := belowCall B1 b4
    have s1 := s1.call b4
    clear b4 c3 s0
    have hYG : Y.length ≤ G1 := by have := s1.le; rw [List.length_map] at this; omega
    have hG1 := s1.max
    go_wp2_with fail
    go_at_call 10
    refine (e1 _ _ _ _ _ s1 s4).mono ?_
    rintro e w5 ⟨rfl, q, rfl⟩
    go_wp2_with fail
    go_ret
    exact ⟨rfl, belowDrewN B1 _⟩
  · generalize packL l = P at *
    generalize checkE l = pe at *
    go_enter Try.func5, Try.ntmps5
    go_wp2_with fail
    go_at_call 6
    refine (c1 _ s0).mono ?_
    rintro e w1 ⟨a1, G1, rfl, s1, b1⟩
    go_wp2_with fail
    go_at_call 7
    refine (lined_any _).mono ?_
    rintro e w2 ⟨rfl, b2⟩
    have B1 := belowCall b1 b2
    go_wp2_with fail
    go_at_call 7
    refine (lined_any _).mono ?_
    rintro e w3 ⟨rfl, b3⟩
    go_wp2_with fail
    go_ret
    exact ⟨rfl, belowCall B1 b3⟩

set_option maxRecDepth 100000 in
theorem lifted (os : Os) (started : os.Started) (H : Type) (enc : TypeId × Value → H) :
    ReturnsInHanded {} Try.checked os 5 .any (Rows.lineBeginsSpec.pre6 enc Try.prog Try.f5 Rows.lineBeginsRow.domain false) (Rows.lineBeginsSpec.post enc Try.prog Try.f5 false true false false) := by
  refine returnsInHanded_of_change_sized (C := Try.checked) own started (by kernel_rfl) Try.func5
    (ChangeSpec.witness6 (enc := enc) (C := Try.checked) false ⟨#[], #[.slice none 0 0, .int .i64 0], []⟩ 8 (by kernel_rfl) (by kernel_rfl) (by kernel_rfl) (by kernel_rfl)) ?_
  intro W base args ds gs before hval0 hW hcnd hsz0 _
  have hsz : (DataW.weightsEach Try.prog (Try.f5.params.toList ++ Rows.lineBeginsSpec.plain.varTypes Try.prog) (ds ++ gs)).all (· ≤ reachBytes) = true := hsz0
  have hval : ∀ (j : Nat) t v, Try.f5.params[j]? = some t → args[j]? = some v → Value.okWide Try.prog W .any base t v := hval0
  have hW' := hW
  obtain ⟨p, q, hA0, hV, rfl, hfz, hnd⟩ := hW
  have hA : DataW.TrodAll enc Try.prog W 0 (fun _ => true) true Try.f5.params.toList args.toList ds p := hA0
  rw [Try.params5] at hA hval hsz
  obtain ⟨v0, vs0, d0, ds0, p0, q0, hargs, rfl, rfl, h0, r0⟩ := trodAll_cons hA
  obtain ⟨v1, vs1, d1, ds1, p1, q1, rfl, rfl, rfl, h1, r1⟩ := trodAll_cons r0
  obtain ⟨rfl, rfl, rfl⟩ := trodAll_nil r1
  obtain rfl : args = #[v0, v1] := by cases args; simp_all
  obtain ⟨rfl, rfl⟩ := trodVars_none hV
  obtain ⟨a0, len0, cap0, rfl⟩ := okWide_slice Try.underlying22 (hval 0 22 v0 rfl rfl)
  have k0 := h0
  have lt0 : ∀ x ∈ p0, x.block < W.heap.size := by obtain ⟨m, hm⟩ := k0; exact DataW.trod_lt m _ _ _ hm
  obtain ⟨l0, rfl, s0, wf0, dd0⟩ := open_points Try.underlying22 Try.underlying32 (by kernel_rfl) rfl rfl (by kernel_rfl) (by kernel_rfl) Try.underlying3 Try.underlying3 h0
  have reach0 := reach_of (j := 0) (bytes := 16) hsz rfl rfl Try.underlying22 (by kernel_rfl) dd0
  obtain ⟨a1, rfl, rfl, rfl, w1⟩ := open_int Try.underlying3 (hval 1 3 v1 rfl rfl) h1
  clear hA0 hval0 hsz0
  refine (walk W a0 cap0 l0 s0 reach0 wf0 a1 w1).mono fun e W' ⟨he, bel⟩ => ?_
  subst he
  exact ⟨_, rfl, _, _, _, [], _, [], hW', trodAll_mk1 (shut_bool Try.underlying4 _), (trodAll_cons_mk (Below.trod laidOut (by kernel_rfl) (of_decide_eq_true (by kernel_rfl)) k0 bel lt0) (trodAll_cons_mk (shut_int Try.underlying3 w1) trodAll_mk0)), rfl, bel.frame _, fun h => by cases h⟩

theorem over : Rows.lineBeginsRow.holds Try.pinned (OpenSpec.ofChange Rows.lineBeginsSpec) :=
  OpenClaim.holds_of_wide 5 Try.f5 rfl rfl rfl rfl rfl rfl rfl ⟨rfl, rfl, rfl, rfl, rfl⟩ rfl rfl rfl rfl rfl (by kernel_rfl) Try.func5 (by kernel_rfl)
    (of_decide_eq_true (by kernel_rfl)) (by unfold Func.isWrapper; first | (rw [if_pos (by decide +kernel)]; kernel_rfl) | (rw [if_neg (by decide +kernel)]; exact ⟨rfl, rfl⟩))
    (fun os started H enc _ => lifted os started H enc)
end Go.Proofs.Ythfcpnelfcehfab.lineBegins

namespace Go.Proofs.Ythfcpnelfcehfab
theorem lineBegins_holds : Rows.LineBeginsSaid := lineBegins.over
#print axioms lineBegins_holds
end Go.Proofs.Ythfcpnelfcehfab
