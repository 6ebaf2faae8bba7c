/-
  Proved: for all points and any two sums, SumSays returns true and leaves its arguments as they were: Of and Join of package sum answer as the document says.
-/
import Derived.Test.YtcbhpikcnhefbabRows
import Derived.Test.YtcbhpikcnhefbabAdded
import Derived.Test.YtcbhpikcnhefbabRefSum
import Derived.Test.YtcbhpikcnhefbabArgSum
namespace Go.Proofs.Ytcbhpikcnhefbab.sumSays
open Go.ChangeShapes Go.WideShapes Go.ChangeAt Go.RowKit
set_option linter.unusedVariables false

structure K (w : World) (g : Nat) (a b : Sm) (ao : Option Addr) (cap : Nat) (l : List Pt) (W : World) : Prop where
  fst : Blk W g a.cells 39
  snd : Blk W (g + 1) b.cells 39
  sl : SlP W ao cap l
  bel : Below w.heap.size w W

/-- The cells that are read. -/
structure K.Cells (g : Nat) (a b : Sm) (W : World) : Prop where
  c0 : W.cell? ⟨g, 0, none⟩ = some (.int .i64 a.n)
  c1 : W.cell? ⟨g, 1, none⟩ = some (.int .i64 a.lo)
  c2 : W.cell? ⟨g, 2, none⟩ = some (.int .i64 a.hi)
  c3 : W.cell? ⟨g, 3, none⟩ = some (.int .i64 a.tot)
  d0 : W.cell? ⟨g + 1, 0, none⟩ = some (.int .i64 b.n)
  d1 : W.cell? ⟨g + 1, 1, none⟩ = some (.int .i64 b.lo)
  d2 : W.cell? ⟨g + 1, 2, none⟩ = some (.int .i64 b.hi)
  d3 : W.cell? ⟨g + 1, 3, none⟩ = some (.int .i64 b.tot)

theorem K.cells {w : World} {g : Nat} {a b : Sm} {ao : Option Addr} {cap : Nat} {l : List Pt} {W : World} (h : K w g a b ao cap l W) : K.Cells g a b W :=
  ⟨h.fst.cell 0, h.fst.cell 1, h.fst.cell 2, h.fst.cell 3, h.snd.cell 0, h.snd.cell 1, h.snd.cell 2, h.snd.cell 3⟩

theorem K.call {w : World} {g : Nat} {a b : Sm} {ao : Option Addr} {cap : Nat} {l : List Pt} {W w' : World} (h : K w g a b ao cap l W) (hb : Below W.heap.size W w') : K w g a b ao cap l w' :=
  ⟨h.fst.keep hb h.fst.lt, h.snd.keep hb h.snd.lt, h.sl.call hb, belowCall h.bel hb⟩

/-- A call that writes nothing that was there keeps what is kept. -/
theorem K.over {w : World} {g : Nat} {a b : Sm} {ao : Option Addr} {cap : Nat} {l : List Pt} {W : World} {f : Nat} {args : Array Value} {v : Value} (c : Calls Try.prog f args W fun e w' => e = .returned v ∧ Below W.heap.size W w') (h : K w g a b ao cap l W) :
    Calls Try.prog f args W fun e w' => e = .returned v ∧ w'.cell? ⟨g, 0, none⟩ = some (.int .i64 a.n) ∧ w'.cell? ⟨g, 1, none⟩ = some (.int .i64 a.lo) ∧ w'.cell? ⟨g, 2, none⟩ = some (.int .i64 a.hi) ∧ w'.cell? ⟨g, 3, none⟩ = some (.int .i64 a.tot) ∧
      w'.cell? ⟨g + 1, 0, none⟩ = some (.int .i64 b.n) ∧ w'.cell? ⟨g + 1, 1, none⟩ = some (.int .i64 b.lo) ∧ w'.cell? ⟨g + 1, 2, none⟩ = some (.int .i64 b.hi) ∧ w'.cell? ⟨g + 1, 3, none⟩ = some (.int .i64 b.tot) ∧ K w g a b ao cap l w' := by
  refine c.mono ?_
  rintro e w' ⟨he, hb⟩
  have k := h.call hb
  have t := k.cells
  exact ⟨he, t.c0, t.c1, t.c2, t.c3, t.d0, t.d1, t.d2, t.d3, k⟩

set_option maxHeartbeats 1000000 in
set_option maxRecDepth 100000 in
theorem walk (w : World) (a0 : Option Addr) (cap0 : Nat) (l : List Pt) (s0 : SlP w a0 cap0 l) (hreach : cap0 * 16 ≤ 140737488351232) (wf : ∀ p ∈ l, (Lit.int .i64 p.1).wf = true ∧ (Lit.int .i64 p.2).wf = true) (a : Sm) (wa : a.Wf) (b : Sm) (wb : b.Wf) :
    Calls Try.prog 6 #[.slice a0 l.length cap0, smV a, smV b] w fun e w' => e = .returned (.bool true) ∧ Below w.heap.size w w' := by
  have c1 := fun W (h : K w w.heap.size a b a0 cap0 l W) => of_any a0 cap0 l W h.sl
  have c2 := fun W (h : K w w.heap.size a b a0 cap0 l W) => refSum_any a0 cap0 l W h.sl (fun p hp => (wf p hp).2)
  have c3 := fun W => join_any a b W
  have c4 := fun W => joined_any a b W
  have d0 := fun W (h : K w w.heap.size a b a0 cap0 l W) => K.over (added_any W) h
  have d1 := fun W (h : K w w.heap.size a b a0 cap0 l W) => K.over (c1 W h) h
  have d2 := fun W (h : K w w.heap.size a b a0 cap0 l W) => K.over (c2 W h) h
  have d3 := fun W (h : K w w.heap.size a b a0 cap0 l W) => K.over (c3 W) h
  have d4 := fun W (h : K w w.heap.size a b a0 cap0 l W) => K.over (c4 W) h
  clear c1 c2 c3 c4
  obtain ⟨n, hn⟩ : ∃ n, n = l.length := ⟨_, rfl⟩
  rw [← hn] at d1 d2 ⊢
  generalize sumS l = S at *
  generalize joinS a b = J at *
  obtain ⟨an, alo, ahi, atot⟩ := a
  obtain ⟨bn, blo, bhi, btot⟩ := b
  obtain ⟨Sn, Slo, Shi, Stot⟩ := S
  obtain ⟨Jn, Jlo, Jhi, Jtot⟩ := J
  unfold smV at *
  simp only at *
  clear hn wa wb wf hreach
  go_enter Try.func6, Try.ntmps6
  go_wp2_with fail
  have k0 : K w w.heap.size ⟨an, alo, ahi, atot⟩ ⟨bn, blo, bhi, btot⟩ a0 cap0 l ((w.alloc (.cells #[.int .i64 an, .int .i64 alo, .int .i64 ahi, .int .i64 atot] 39)).alloc (.cells #[.int .i64 bn, .int .i64 blo, .int .i64 bhi, .int .i64 btot] 39)) :=
    ⟨(Blk.laid w _ _ _ rfl).alc _, Blk.laid _ (Sm.cells ⟨bn, blo, bhi, btot⟩) _ _ (by simp), (s0.alloc _).alloc _, below2 w _ _⟩
  clear s0
  have kc := k0.cells
  generalize (w.alloc _).alloc _ = w1 at *
  obtain ⟨q0, q1, q2, q3, r0, r1, r2, r3⟩ := kc
  simp only at q0 q1 q2 q3 r0 r1 r2 r3
  have k1 : K w w.heap.size ⟨an, alo, ahi, atot⟩ ⟨bn, blo, bhi, btot⟩ a0 cap0 l w1.drew := ⟨k0.fst, k0.snd, k0.sl.drewN 1, belowDrew k0.bel⟩
  clear k0
  go_region_held3 (fun w' => w'.cell? ⟨w.heap.size, 0, none⟩ = some (.int .i64 an) ∧ w'.cell? ⟨w.heap.size, 1, none⟩ = some (.int .i64 alo) ∧ w'.cell? ⟨w.heap.size, 2, none⟩ = some (.int .i64 ahi) ∧ w'.cell? ⟨w.heap.size, 3, none⟩ = some (.int .i64 atot) ∧
      w'.cell? ⟨w.heap.size + 1, 0, none⟩ = some (.int .i64 bn) ∧ w'.cell? ⟨w.heap.size + 1, 1, none⟩ = some (.int .i64 blo) ∧ w'.cell? ⟨w.heap.size + 1, 2, none⟩ = some (.int .i64 bhi) ∧ w'.cell? ⟨w.heap.size + 1, 3, none⟩ = some (.int .i64 btot) ∧
      K w w.heap.size ⟨an, alo, ahi, atot⟩ ⟨bn, blo, bhi, btot⟩ a0 cap0 l w') (go_keep)
    (first
      | (go_at_call 15; refine (d0 _ ?_).mono ?_; (simp [*]); rintro e w' ⟨rfl, h0, h1, h2, h3, h4, h5, h6, h7, h8⟩)
      | (go_at_call 16; refine (d1 _ ?_).mono ?_; (simp [*]); rintro e w' ⟨rfl, h0, h1, h2, h3, h4, h5, h6, h7, h8⟩)
      | (go_at_call 17; refine (d2 _ ?_).mono ?_; (simp [*]); rintro e w' ⟨rfl, h0, h1, h2, h3, h4, h5, h6, h7, h8⟩)
      | (go_at_call 18; refine (d3 _ ?_).mono ?_; (simp [*]); rintro e w' ⟨rfl, h0, h1, h2, h3, h4, h5, h6, h7, h8⟩)
      | (go_at_call 19; refine (d4 _ ?_).mono ?_; (simp [*]); rintro e w' ⟨rfl, h0, h1, h2, h3, h4, h5, h6, h7, h8⟩))
  all_goals go_wp2_with fail
  all_goals go_ret
  all_goals exact ⟨by simp, K.bel (by assumption)⟩

set_option maxRecDepth 100000 in
theorem lifted (os : Os) (started : os.Started) (H : Type) (enc : TypeId × Value → H) :
    ReturnsInHanded {} Try.checked os 6 .any (Rows.sumSaysSpec.pre6 enc Try.prog Try.f6 Rows.sumSaysRow.domain false) (Rows.sumSaysSpec.post enc Try.prog Try.f6 false true false false) := by
  refine returnsInHanded_of_change_sized (C := Try.checked) own started (by kernel_rfl) Try.func6
    (ChangeSpec.witness6 (enc := enc) (C := Try.checked) false ⟨#[], #[.slice none 0 0, .agg #[.int .i64 0, .int .i64 0, .int .i64 0, .int .i64 0], .agg #[.int .i64 0, .int .i64 0, .int .i64 0, .int .i64 0]], []⟩ 8 (by kernel_rfl) (by kernel_rfl) (by kernel_rfl) (by kernel_rfl)) ?_
  intro W base args ds gs before hval0 hW hcnd hsz0 _
  have hsz : (DataW.weightsEach Try.prog (Try.f6.params.toList ++ Rows.sumSaysSpec.plain.varTypes Try.prog) (ds ++ gs)).all (· ≤ reachBytes) = true := hsz0
  have hval : ∀ (j : Nat) t v, Try.f6.params[j]? = some t → args[j]? = some v → Value.okWide Try.prog W .any base t v := hval0
  have hW' := hW
  obtain ⟨p, q, hA0, hV, rfl, hfz, hnd⟩ := hW
  have hA : DataW.TrodAll enc Try.prog W 0 (fun _ => true) true Try.f6.params.toList args.toList ds p := hA0
  rw [Try.params6] at hA hval hsz
  obtain ⟨v0, vs0, d0, ds0, p0, q0, hargs, rfl, rfl, h0, r0⟩ := trodAll_cons hA
  obtain ⟨v1, vs1, d1, ds1, p1, q1, rfl, rfl, rfl, h1, r1⟩ := trodAll_cons r0
  obtain ⟨v2, vs2, d2, ds2, p2, q2, rfl, rfl, rfl, h2, r2⟩ := trodAll_cons r1
  obtain ⟨rfl, rfl, rfl⟩ := trodAll_nil r2
  obtain rfl : args = #[v0, v1, v2] := by cases args; simp_all
  obtain ⟨rfl, rfl⟩ := trodVars_none hV
  obtain ⟨a0, len0, cap0, rfl⟩ := okWide_slice Try.underlying22 (hval 0 22 v0 rfl rfl)
  have k0 := h0
  have lt0 : ∀ x ∈ p0, x.block < W.heap.size := by obtain ⟨m, hm⟩ := k0; exact DataW.trod_lt m _ _ _ hm
  obtain ⟨l0, rfl, s0, wf0, dd0⟩ := open_points Try.underlying22 Try.underlying32 (by kernel_rfl) rfl rfl (by kernel_rfl) (by kernel_rfl) Try.underlying3 Try.underlying3 h0
  have reach0 := reach_of (j := 0) (bytes := 16) hsz rfl rfl Try.underlying22 (by kernel_rfl) dd0
  obtain ⟨x1, wx1, rfl, rfl, rfl⟩ := open_sum (hval 1 39 v1 rfl rfl) h1
  obtain ⟨x2, wx2, rfl, rfl, rfl⟩ := open_sum (hval 2 39 v2 rfl rfl) h2
  clear hA0 hval0 hsz0
  refine (walk W a0 cap0 l0 s0 reach0 wf0 x1 wx1 x2 wx2).mono fun e W' ⟨he, bel⟩ => ?_
  subst he
  exact ⟨_, rfl, _, _, _, [], _, [], hW', trodAll_mk1 (shut_bool Try.underlying4 _), (trodAll_cons_mk (Below.trod laidOut (by kernel_rfl) (of_decide_eq_true (by kernel_rfl)) k0 bel lt0) (trodAll_cons_mk (shut_sum x1 wx1) (trodAll_cons_mk (shut_sum x2 wx2) trodAll_mk0))), rfl, bel.frame _, fun h => by cases h⟩

theorem over : Rows.sumSaysRow.holds Try.pinned (OpenSpec.ofChange Rows.sumSaysSpec) :=
  OpenClaim.holds_of_wide 6 Try.f6 rfl rfl rfl rfl rfl rfl rfl ⟨rfl, rfl, rfl, rfl, rfl⟩ rfl rfl rfl rfl rfl (by kernel_rfl) Try.func6 (by kernel_rfl)
    (of_decide_eq_true (by kernel_rfl)) (by unfold Func.isWrapper; first | (rw [if_pos (by decide +kernel)]; kernel_rfl) | (rw [if_neg (by decide +kernel)]; exact ⟨rfl, rfl⟩))
    (fun os started H enc _ => lifted os started H enc)
end Go.Proofs.Ytcbhpikcnhefbab.sumSays

namespace Go.Proofs.Ytcbhpikcnhefbab
theorem sumSays_holds : Rows.SumSaysSaid := sumSays.over
#print axioms sumSays_holds
end Go.Proofs.Ytcbhpikcnhefbab
