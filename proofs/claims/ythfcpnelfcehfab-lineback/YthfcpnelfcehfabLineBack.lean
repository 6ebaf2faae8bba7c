/-
  Proved: for all points, all bits and every number, LineBack returns true and leaves its arguments as they were: Unpack of Pack is the points, for just as many of them, and what is unpacked is packed as it was.
-/
import Derived.Test.YthfcpnelfcehfabRows
import Derived.Test.YthfcpnelfcehfabLined
import Derived.Test.YthfcpnelfcehfabLineMore
import Derived.Test.YthfcpnelfcehfabEqual
namespace Go.Proofs.Ythfcpnelfcehfab.lineBack
open Go.ChangeShapes Go.WideShapes Go.ChangeAt Go.RowKit
set_option linter.unusedVariables false

set_option maxHeartbeats 4000000 in
set_option maxRecDepth 100000 in
theorem walk (w : World) (a0 : Option Addr) (cap0 : Nat) (l : List Pt) (s0 : SlP w a0 cap0 l) (hreach : cap0 * 16 ≤ 140737488351232) (wf : ∀ p ∈ l, (Lit.int .i64 p.1).wf = true ∧ (Lit.int .i64 p.2).wf = true) (ab : Option Addr) (capb : Nat) (b : List Bool) (sb : Sl w ab capb (b.map Value.bool)) (hreachb : capb * 1 ≤ 140737488351232) (n : Int) (wn : (Lit.int .i64 n).wf = true) :
    Calls Try.prog 3 #[.slice a0 l.length cap0, .slice ab b.length capb, .int .i64 n] w fun e w' => e = .returned (.bool true) ∧ Below w.heap.size w w' := by
  have hl : b.length ≤ 140737488351232 := by have := sb.le; rw [List.length_map] at this; omega
  have hll : l.length ≤ 140737488351232 := by have := s0.le; omega
  have hP := packL_length l
  have hU := unpL_length b n
  clear wn hreach hreachb wf
  have c1 := fun W h => pack_any a0 cap0 l W h
  have c2 := fun W h => unpack_any ab capb b n W h (by omega)
  have last : unpE b n = 0 ∨ ¬ unpE b n = 0 := Decidable.em _
  have back : unpE b n = 0 → ∀ a G W, SlP W a G (unpL b n) → Calls Try.prog 6 #[.slice a (unpL b n).length G] W fun e w' => ∃ a' G, e = .returned (.tuple #[.slice a' b.length G, .int .i64 0]) ∧ Sl w' a' G (b.map Value.bool) ∧ Below W.heap.size W w' := by
    intro h a G W hs
    obtain ⟨i1, i2, i3⟩ := unpack_pack h
    have p := pack_any a G (unpL b n) W hs
    rw [i1, i2] at p
    exact p
  have many : unpE b n = 0 → ((unpL b n).length : Int) = n := fun h => (unpack_pack h).2.2
  by_cases hc : checkE l = 0
  · have c3 : ∀ a G W, Sl W a G ((packL l).map Value.bool) → Calls Try.prog 8 #[.slice a (packL l).length G, .int .i64 l.length] W fun e w' => ∃ a' G, e = .returned (.tuple #[.slice a' l.length G, .int .i64 0]) ∧ SlP w' a' G l ∧ Below W.heap.size W w' := by
      intro a G W hs
      have p := unpack_any a G (packL l) l.length W hs (by omega)
      rw [(pack_unpack hc).1, (pack_unpack hc).2] at p
      exact p
    have c4 : ∀ a G W, Sl W a G ((packL l).map Value.bool) → Calls Try.prog 8 #[.slice a (packL l).length G, .int .i64 ((l.length : Int) - 1)] W fun e w' => ∃ a' G L F, e = .returned (.tuple #[.slice a' L G, .int .i64 F]) ∧ (0 < l.length → ¬ F = 0) ∧ Below W.heap.size W w' := by
      intro a G W hs
      refine (unpack_any a G (packL l) ((l.length : Int) - 1) W hs (by omega)).mono ?_
      rintro e w' ⟨a', G', he, _, hb⟩
      exact ⟨a', G', _, _, he, fun h => pack_few hc h, hb⟩
    rw [hc] at c1
    generalize packL l = P at *
    generalize unpL b n = U at *
    generalize unpE b n = ue at *
    go_enter Try.func3, Try.ntmps3
    go_wp2_with fail
    go_at_call 6
    refine (c1 _ s0).mono ?_
    rintro e w1 ⟨a1, G1, rfl, s1, b1⟩
    have B1 := b1
    have s0 := s0.call b1
    have sb := sb.call b1
    clear b1 c1
    go_wp2_with fail
    go_at_call 7
    refine (lined_any _).mono ?_
    rintro e w2 ⟨rfl, b2⟩
    have B1 := belowCall B1 b2
    have s0 := s0.call b2
    have sb := sb.call b2
    have s1 := s1.call b2
    clear b2
    go_wp2_with fail
    go_at_call 8
    refine (c3 _ _ _ s1).mono ?_
    rintro e w3 ⟨a3, G3, rfl, s3, b3⟩
    have B1 := belowCall B1 b3
    have s0 := s0.call b3
    have sb := sb.call b3
    have s1 := s1.call b3
    clear b3 c3
    go_wp2_with fail
    go_at_call 9
    refine (equalPt _ _ _ _ l l _ s3 s0 (by omega) (by omega)).mono ?_
    rw [decide_eq_true (rfl : l = l)]
    rintro e w4 ⟨rfl, q, rfl⟩
    have B1 := belowDrewN B1 q
    have sb := sb.drewN q
    have s1 := s1.drewN q
    clear s0 s3
    generalize w3.drewN q = w4 at *
    go_wp2_with fail
    go_at_call 8
    refine (c4 _ _ _ s1).mono ?_
    rintro e w5 ⟨a5, G5, L5, F5, rfl, hF, b5⟩
    have B1 := belowCall B1 b5
    have sb := sb.call b5
    clear b5 c4 s1
    have hor : (¬ (0 : Int) < (l.length : Int)) ∨ ((0 : Int) < (l.length : Int) ∧ ¬ F5 = 0) := by
      by_cases h : 0 < l.length
      · exact .inr ⟨by omega, hF h⟩
      · exact .inl (by omega)
    clear hF
    rcases hor with hz | ⟨hz, hF⟩
    all_goals
      rcases last with hu | hu
      · have bk := back hu
        have hmany := hide (many hu)
        clear back many
        subst hu
        go_wp2_with fail
        go_at_call 8
        refine (c2 _ sb).mono ?_
        rintro e w6 ⟨a6, G6, rfl, s6, b6⟩
        have B1 := belowCall B1 b6
        have sb := sb.call b6
        clear b6 c2
        go_wp2_with fail
        go_at_call 6
        refine (bk _ _ _ s6).mono ?_
        rintro e w7 ⟨a7, G7, rfl, s7, b7⟩
        have B1 := belowCall B1 b7
        have sb := sb.call b7
        clear b7 bk
        go_wp2_with fail
        go_at_call 10
        refine (equalBool _ _ _ _ b b _ s7.row sb.row (by omega) (by omega)).mono ?_
        rw [decide_eq_true (rfl : b = b)]
        rintro e w8 ⟨rfl, q2, rfl⟩
        go_wp2_with fail
        go_ret
        exact ⟨by simp [hmany.out], belowDrewN B1 _⟩
      · clear back many
        go_wp2_with fail
        go_at_call 8
        refine (c2 _ sb).mono ?_
        rintro e w6 ⟨a6, G6, rfl, s6, b6⟩
        go_wp2_with fail
        go_ret
        exact ⟨rfl, belowCall B1 b6⟩
  · generalize packL l = P at *
    generalize unpL b n = U at *
    generalize unpE b n = ue at *
    generalize checkE l = pe at *
    go_enter Try.func3, Try.ntmps3
    go_wp2_with fail
    go_at_call 6
    refine (c1 _ s0).mono ?_
    rintro e w1 ⟨a1, G1, rfl, s1, b1⟩
    have B1 := b1
    have sb := sb.call b1
    clear b1 c1 s0 s1
    go_wp2_with fail
    go_at_call 7
    refine (lined_any _).mono ?_
    rintro e w2 ⟨rfl, b2⟩
    have B1 := belowCall B1 b2
    have sb := sb.call b2
    clear b2
    rcases last with hu | hu
    · have bk := back hu
      have hmany := hide (many hu)
      clear back many
      subst hu
      go_wp2_with fail
      go_at_call 8
      refine (c2 _ sb).mono ?_
      rintro e w6 ⟨a6, G6, rfl, s6, b6⟩
      have B1 := belowCall B1 b6
      have sb := sb.call b6
      clear b6 c2
      go_wp2_with fail
      go_at_call 6
      refine (bk _ _ _ s6).mono ?_
      rintro e w7 ⟨a7, G7, rfl, s7, b7⟩
      have B1 := belowCall B1 b7
      have sb := sb.call b7
      clear b7 bk
      go_wp2_with fail
      go_at_call 10
      refine (equalBool _ _ _ _ b b _ s7.row sb.row (by omega) (by omega)).mono ?_
      rw [decide_eq_true (rfl : b = b)]
      rintro e w8 ⟨rfl, q2, rfl⟩
      go_wp2_with fail
      go_ret
      exact ⟨by simp [hmany.out], belowDrewN B1 _⟩
    · clear back many
      go_wp2_with fail
      go_at_call 8
      refine (c2 _ sb).mono ?_
      rintro e w6 ⟨a6, G6, rfl, s6, b6⟩
      go_wp2_with fail
      go_ret
      exact ⟨rfl, belowCall B1 b6⟩

set_option maxRecDepth 100000 in
theorem lifted (os : Os) (started : os.Started) (H : Type) (enc : TypeId × Value → H) :
    ReturnsInHanded {} Try.checked os 3 .any (Rows.lineBackSpec.pre6 enc Try.prog Try.f3 Rows.lineBackRow.domain false) (Rows.lineBackSpec.post enc Try.prog Try.f3 false true false false) := by
  refine returnsInHanded_of_change_sized (C := Try.checked) own started (by kernel_rfl) Try.func3
    (ChangeSpec.witness6 (enc := enc) (C := Try.checked) false ⟨#[], #[.slice none 0 0, .slice none 0 0, .int .i64 0], []⟩ 8 (by kernel_rfl) (by kernel_rfl) (by kernel_rfl) (by kernel_rfl)) ?_
  intro W base args ds gs before hval0 hW hcnd hsz0 _
  have hsz : (DataW.weightsEach Try.prog (Try.f3.params.toList ++ Rows.lineBackSpec.plain.varTypes Try.prog) (ds ++ gs)).all (· ≤ reachBytes) = true := hsz0
  have hval : ∀ (j : Nat) t v, Try.f3.params[j]? = some t → args[j]? = some v → Value.okWide Try.prog W .any base t v := hval0
  have hW' := hW
  obtain ⟨p, q, hA0, hV, rfl, hfz, hnd⟩ := hW
  have hA : DataW.TrodAll enc Try.prog W 0 (fun _ => true) true Try.f3.params.toList args.toList ds p := hA0
  rw [Try.params3] at hA hval hsz
  obtain ⟨v0, vs0, d0, ds0, p0, q0, hargs, rfl, rfl, h0, r0⟩ := trodAll_cons hA
  obtain ⟨v1, vs1, d1, ds1, p1, q1, rfl, rfl, rfl, h1, r1⟩ := trodAll_cons r0
  obtain ⟨v2, vs2, d2, ds2, p2, q2, rfl, rfl, rfl, h2, r2⟩ := trodAll_cons r1
  obtain ⟨rfl, rfl, rfl⟩ := trodAll_nil r2
  obtain rfl : args = #[v0, v1, v2] := by cases args; simp_all
  obtain ⟨rfl, rfl⟩ := trodVars_none hV
  obtain ⟨a0, len0, cap0, rfl⟩ := okWide_slice Try.underlying22 (hval 0 22 v0 rfl rfl)
  have k0 := h0
  have lt0 : ∀ x ∈ p0, x.block < W.heap.size := by obtain ⟨m, hm⟩ := k0; exact DataW.trod_lt m _ _ _ hm
  obtain ⟨l0, rfl, s0, wf0, dd0⟩ := open_points Try.underlying22 Try.underlying32 (by kernel_rfl) rfl rfl (by kernel_rfl) (by kernel_rfl) Try.underlying3 Try.underlying3 h0
  have reach0 := reach_of (j := 0) (bytes := 16) hsz rfl rfl Try.underlying22 (by kernel_rfl) dd0
  obtain ⟨a1, len1, cap1, rfl⟩ := okWide_slice Try.underlying23 (hval 1 23 v1 rfl rfl)
  have k1 := h1
  have lt1 : ∀ x ∈ p1, x.block < W.heap.size := by obtain ⟨m, hm⟩ := k1; exact DataW.trod_lt m _ _ _ hm
  obtain ⟨l1, rfl, s1, dd1⟩ := open_bools Try.underlying23 Try.underlying4 (by kernel_rfl) h1
  have reach1 := reach_of (j := 1) (bytes := 1) hsz rfl rfl Try.underlying23 (by kernel_rfl) dd1
  obtain ⟨a2, rfl, rfl, rfl, w2⟩ := open_int Try.underlying3 (hval 2 3 v2 rfl rfl) h2
  clear hA0 hval0 hsz0
  refine (walk W a0 cap0 l0 s0 reach0 wf0 a1 cap1 l1 s1 reach1 a2 w2).mono fun e W' ⟨he, bel⟩ => ?_
  subst he
  exact ⟨_, rfl, _, _, _, [], _, [], hW', trodAll_mk1 (shut_bool Try.underlying4 _), (trodAll_cons_mk (Below.trod laidOut (by kernel_rfl) (of_decide_eq_true (by kernel_rfl)) k0 bel lt0) (trodAll_cons_mk (Below.trod laidOut (by kernel_rfl) (of_decide_eq_true (by kernel_rfl)) k1 bel lt1) (trodAll_cons_mk (shut_int Try.underlying3 w2) trodAll_mk0))), rfl, bel.frame _, fun h => by cases h⟩

theorem over : Rows.lineBackRow.holds Try.pinned (OpenSpec.ofChange Rows.lineBackSpec) :=
  OpenClaim.holds_of_wide 3 Try.f3 rfl rfl rfl rfl rfl rfl rfl ⟨rfl, rfl, rfl, rfl, rfl⟩ rfl rfl rfl rfl rfl (by kernel_rfl) Try.func3 (by kernel_rfl)
    (of_decide_eq_true (by kernel_rfl)) (by unfold Func.isWrapper; first | (rw [if_pos (by decide +kernel)]; kernel_rfl) | (rw [if_neg (by decide +kernel)]; exact ⟨rfl, rfl⟩))
    (fun os started H enc _ => lifted os started H enc)
end Go.Proofs.Ythfcpnelfcehfab.lineBack

namespace Go.Proofs.Ythfcpnelfcehfab
theorem lineBack_holds : Rows.LineBackSaid := lineBack.over
#print axioms lineBack_holds
end Go.Proofs.Ythfcpnelfcehfab
