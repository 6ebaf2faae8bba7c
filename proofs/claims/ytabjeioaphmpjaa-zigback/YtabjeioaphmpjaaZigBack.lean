/-
  Proved: for every two numbers and every list of bits, ZigBack returns true and leaves its arguments as they were: what is put is taken, what is taken is put as it was, and numbers nearer to 0 take no more bits.
-/
import Derived.Test.YtabjeioaphmpjaaRows
import Derived.Test.YtabjeioaphmpjaaArgs
import Derived.Test.YtabjeioaphmpjaaFolded
namespace Go.Proofs.Ytabjeioaphmpjaa.zigBack
open Go.ChangeShapes Go.WideShapes Go.ChangeAt Go.RowKit
set_option linter.unusedVariables false

theorem ok_at (k : Int) : zigOk (k % 8000001 - 4000000) = true := by
  apply decide_eq_true
  omega

theorem put_at (l : List Bool) (v : Int) (h : zigOk v = true) : zigL l v = l ++ code 8 (foldN v) ∧ zigE v = 0 := by
  simp [zigL, zigE, h]

theorem take_at (v : Int) (r : List Bool) (h : zigOk v = true) : zigN (code 8 (foldN v) ++ r) = v ∧ zigR (code 8 (foldN v) ++ r) = r ∧ zigF (code 8 (foldN v) ++ r) = 0 := by
  unfold zigN zigR zigF
  rw [zig_taken v r h]
  exact ⟨rfl, rfl, rfl⟩

set_option maxHeartbeats 2000000 in
set_option maxRecDepth 100000 in
theorem walk (w : World) (k1 : Int) (wk1 : (Lit.int .i64 k1).wf = true) (k2 : Int) (wk2 : (Lit.int .i64 k2).wf = true) (a0 : Option Addr) (cap0 : Nat) (l : List Bool) (s0 : Sl w a0 cap0 (l.map Value.bool)) (hreach : cap0 * 1 ≤ 140737488351232) :
    Calls Try.prog 7 #[.int .i64 k1, .int .i64 k2, .slice a0 l.length cap0] w fun e w' => e = .returned (.bool true) ∧ Below w.heap.size w w' := by
  have hl : l.length ≤ 140737488351232 := by have := s0.le; rw [List.length_map] at this; omega
  have at1 := fun W => at_any k1 8000001 W (by omega) (by omega)
  have at2 := fun W => at_any k2 8000001 W (by omega) (by omega)
  have ok1 := ok_at k1
  have ok2 := ok_at k2
  have hb1 : 0 ≤ k1 % 8000001 ∧ k1 % 8000001 ≤ 8000000 := by omega
  have hb2 : 0 ≤ k2 % 8000001 ∧ k2 % 8000001 ≤ 8000000 := by omega
  generalize k1 % 8000001 = x at *
  generalize k2 % 8000001 = y at *
  clear wk1 wk2 hreach
  obtain ⟨hx0, hx1⟩ := hb1
  obtain ⟨hy0, hy1⟩ := hb2
  have hz := zigR_length l
  have hback := hide (zig_put l)
  have c8 := fun W h => ztake_any a0 cap0 l W h (by omega)
  generalize ht : zigR l = T at *
  generalize hf : zigF l = te at *
  generalize hn : zigN l = tn at *
  clear ht hf hn
  have hnear := hide (near_less (x - 4000000) (y - 4000000))
  have c1 := fun W => zput_any none 0 [] (x - 4000000) W (Sl.ofNil W) (by decide)
  rw [(put_at [] _ ok1).1, (put_at [] _ ok1).2, List.nil_append] at c1
  have t1 := take_at (x - 4000000) (code 8 (foldN (y - 4000000))) ok1
  have t2 := take_at (y - 4000000) [] ok2
  rw [List.append_nil] at t2
  have hlx := code_len_le 8 (foldN (x - 4000000))
  have hly := code_len_le 8 (foldN (y - 4000000))
  have c2 := fun W a G h => zput_any a G (code 8 (foldN (x - 4000000))) (y - 4000000) W h (by omega)
  rw [(put_at _ _ ok2).1, (put_at [] _ ok2).2] at c2
  generalize code 8 (foldN (x - 4000000)) = P at *
  generalize code 8 (foldN (y - 4000000)) = Q at *
  have c3 := fun W a G h => ztake_any a G (P ++ Q) W h (by rw [List.length_append]; omega)
  rw [t1.1, t1.2.1, t1.2.2] at c3
  have c4 := fun W a G h => ztake_any a G Q W h (by omega)
  rw [t2.1, t2.2.1, t2.2.2] at c4
  clear t1 t2 ok1 ok2
  have hR : Hid ((P ++ Q).length = P.length + Q.length) := hide List.length_append
  have hR1 : P.length ≤ (P ++ Q).length := by rw [List.length_append]; omega
  have hR2 : (P ++ Q).length ≤ 64 := by rw [List.length_append]; omega
  generalize P ++ Q = R at *
  go_enter Try.func7, Try.ntmps7
  go_wp2_with fail
  refine (at1 _).mono ?_
  rintro e w' ⟨rfl, rfl⟩
  go_wp2_with fail
  refine (at2 _).mono ?_
  rintro e w' ⟨rfl, rfl⟩
  clear at1 at2
  go_wp2_with fail
  refine (c1 _).mono ?_
  rintro e w1 ⟨a1, G1, rfl, s1, b1⟩
  have B1 := b1
  have s0 := s0.call b1
  clear b1
  go_wp2_with fail
  refine (c2 _ _ _ s1).mono ?_
  rintro e w2 ⟨a2, G2, rfl, s2, b2⟩
  have B1 := belowCall B1 b2
  have s0 := s0.call b2
  clear b2 s1 c1 c2
  go_wp2_with fail
  refine (folded_any _).mono ?_
  rintro e w3 ⟨rfl, b3⟩
  have B1 := belowCall B1 b3
  have s0 := s0.call b3
  have s2 := s2.call b3
  clear b3
  go_wp2_with fail
  refine (c3 _ _ _ s2).mono ?_
  rintro e w4 ⟨a4, G4, rfl, s4, b4⟩
  have B1 := belowCall B1 b4
  have s0 := s0.call b4
  clear b4 c3 s2
  go_wp2_with fail
  refine (c4 _ _ _ s4).mono ?_
  rintro e w5 ⟨a5, G5, rfl, s5, b5⟩
  have B1 := belowCall B1 b5
  have s0 := s0.call b5
  clear b5 c4 s4 s5
  go_wp2_with fail
  all_goals first
    | (exfalso; have h1 := hR.out; have h2 := hnear.out (by omega); omega)
    | (
      clear hnear hR
      refine (c8 _ s0).mono ?_
      rintro e w6 ⟨a6, G6, rfl, s6, b6⟩
      have B1 := belowCall B1 b6
      have s0 := s0.call b6
      clear b6 c8
      by_cases hte : te = 0
      · subst hte
        obtain ⟨hok, hbk⟩ := hback.out rfl
        have c9 := fun W => zput_any none 0 [] tn W (Sl.ofNil W) (by decide)
        rw [(put_at [] _ hok).1, (put_at [] _ hok).2, List.nil_append] at c9
        have hlz := code_len_le 8 (foldN tn)
        clear hback hok
        generalize code 8 (foldN tn) = Z at *
        go_wp2_with fail
        refine (c9 _).mono ?_
        rintro e w7 ⟨a7, G7, rfl, s7, b7⟩
        have B1 := belowCall B1 b7
        have s0 := s0.call b7
        have s6 := s6.call b7
        clear b7 c9
        go_wp2_with fail
        have e0 : (w7.alloc (Obj.cells #[Value.slice a7 Z.length G7, Value.slice a6 T.length G6] 27)).cell? ⟨w7.heap.size, 0, none⟩ = some (.slice a7 (Z.map Value.bool).length G7) := by
          rw [World.cell?_alloc_at (hn := rfl)]; simp
        have e1 : (w7.alloc (Obj.cells #[Value.slice a7 Z.length G7, Value.slice a6 T.length G6] 27)).cell? ⟨w7.heap.size, 1, none⟩ = some (.slice a6 (T.map Value.bool).length G6) := by
          rw [World.cell?_alloc_at (hn := rfl)]; simp
        refine (concat_any w7.heap.size _ _ _ _ _ _ _ e0 e1 (s7.alloc _) (s6.alloc _) (bools_one _) (bools_one _) (by simp only [List.length_map]; omega) (by simp)).mono ?_
        rintro e w8 ⟨a8, G8, rfl, s8, b8⟩
        rw [← List.map_append, hbk] at s8 ⊢
        rw [List.length_map]
        have B2 := belowCall (B1.alloc B1.size _) b8
        have s0' := (s0.alloc _).call b8
        clear e0 e1 b8 B1 s0 s6 s7 hbk
        go_wp2_with fail
        refine (equalBool _ _ _ _ l l _ s8.row s0'.row (by omega) (by omega)).mono ?_
        rintro e w9 ⟨rfl, q, rfl⟩
        go_wp2_with fail
        go_ret
        exact ⟨by simp, belowDrewN B2 _⟩
      · clear hback
        go_wp2_with fail
        go_ret
        exact ⟨rfl, B1⟩)

set_option maxRecDepth 100000 in
theorem lifted (os : Os) (started : os.Started) (H : Type) (enc : TypeId × Value → H) :
    ReturnsInHanded {} Try.checked os 7 .any (Rows.zigBackSpec.pre6 enc Try.prog Try.f7 Rows.zigBackRow.domain false) (Rows.zigBackSpec.post enc Try.prog Try.f7 false true false false) := by
  refine returnsInHanded_of_change_sized (C := Try.checked) own started (by kernel_rfl) Try.func7
    (ChangeSpec.witness6 (enc := enc) (C := Try.checked) false ⟨#[], #[.int .i64 0, .int .i64 0, .slice none 0 0], []⟩ 8 (by kernel_rfl) (by kernel_rfl) (by kernel_rfl) (by kernel_rfl)) ?_
  intro W base args ds gs before hval0 hW hcnd hsz0 _
  have hsz : (DataW.weightsEach Try.prog (Try.f7.params.toList ++ Rows.zigBackSpec.plain.varTypes Try.prog) (ds ++ gs)).all (· ≤ reachBytes) = true := hsz0
  have hval : ∀ (j : Nat) t v, Try.f7.params[j]? = some t → args[j]? = some v → Value.okWide Try.prog W .any base t v := hval0
  have hW' := hW
  obtain ⟨p, q, hA0, hV, rfl, hfz, hnd⟩ := hW
  have hA : DataW.TrodAll enc Try.prog W 0 (fun _ => true) true Try.f7.params.toList args.toList ds p := hA0
  rw [Try.params7] at hA hval hsz
  obtain ⟨v0, vs0, d0, ds0, p0, q0, hargs, rfl, rfl, h0, r0⟩ := trodAll_cons hA
  obtain ⟨v1, vs1, d1, ds1, p1, q1, rfl, rfl, rfl, h1, r1⟩ := trodAll_cons r0
  obtain ⟨v2, vs2, d2, ds2, p2, q2, rfl, rfl, rfl, h2, r2⟩ := trodAll_cons r1
  obtain ⟨rfl, rfl, rfl⟩ := trodAll_nil r2
  obtain rfl : args = #[v0, v1, v2] := by cases args; simp_all
  obtain ⟨rfl, rfl⟩ := trodVars_none hV
  obtain ⟨a0, rfl, rfl, rfl, w0⟩ := open_int Try.underlying3 (hval 0 3 v0 rfl rfl) h0
  obtain ⟨a1, rfl, rfl, rfl, w1⟩ := open_int Try.underlying3 (hval 1 3 v1 rfl rfl) h1
  obtain ⟨a2, len2, cap2, rfl⟩ := okWide_slice Try.underlying27 (hval 2 27 v2 rfl rfl)
  have k2 := h2
  have lt2 : ∀ x ∈ p2, x.block < W.heap.size := by obtain ⟨m, hm⟩ := k2; exact DataW.trod_lt m _ _ _ hm
  obtain ⟨l2, rfl, s2, dd2⟩ := open_bools Try.underlying27 Try.underlying4 (by kernel_rfl) h2
  have reach2 := reach_of (j := 2) (bytes := 1) hsz rfl rfl Try.underlying27 (by kernel_rfl) dd2
  clear hA0 hval0 hsz0
  refine (walk W a0 w0 a1 w1 a2 cap2 l2 s2 reach2).mono fun e W' ⟨he, bel⟩ => ?_
  subst he
  exact ⟨_, rfl, _, _, _, [], _, [], hW', trodAll_mk1 (shut_bool Try.underlying4 _), (trodAll_cons_mk (shut_int Try.underlying3 w0) (trodAll_cons_mk (shut_int Try.underlying3 w1) (trodAll_cons_mk (Below.trod laidOut (by kernel_rfl) (of_decide_eq_true (by kernel_rfl)) k2 bel lt2) trodAll_mk0))), rfl, bel.frame _, fun h => by cases h⟩

theorem over : Rows.zigBackRow.holds Try.pinned (OpenSpec.ofChange Rows.zigBackSpec) :=
  OpenClaim.holds_of_wide 7 Try.f7 rfl rfl rfl rfl rfl rfl rfl ⟨rfl, rfl, rfl, rfl, rfl⟩ rfl rfl rfl rfl rfl (by kernel_rfl) Try.func7 (by kernel_rfl)
    (of_decide_eq_true (by kernel_rfl)) (by unfold Func.isWrapper; first | (rw [if_pos (by decide +kernel)]; kernel_rfl) | (rw [if_neg (by decide +kernel)]; exact ⟨rfl, rfl⟩))
    (fun os started H enc _ => lifted os started H enc)
end Go.Proofs.Ytabjeioaphmpjaa.zigBack

namespace Go.Proofs.Ytabjeioaphmpjaa
theorem zigBack_holds : Rows.ZigBackSaid := zigBack.over
#print axioms zigBack_holds
end Go.Proofs.Ytabjeioaphmpjaa
