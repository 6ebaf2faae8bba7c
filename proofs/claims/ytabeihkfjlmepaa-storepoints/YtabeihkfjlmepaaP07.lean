/-
  slices.Clone at rows, whatever is handed: a slice of the call's own with the same cells.
-/
import Derived.Lib.SliceRun
import Derived.Deep.DeepAppendWide
import Derived.Lib.SmallJoins
import Derived.Test.YtabeihkfjlmepaaP04
import Derived.Test.YtabeihkfjlmepaaP01
import Derived.Test.YtabeihkfjlmepaaP06
import Derived.Test.YtabeihkfjlmepaaP05
namespace Go.Proofs.Ytabeihkfjlmepaa
open Go.RowKit

theorem infoR : (Try.prog.info? 56).map (fun i => (i.zero, i.size, i.bytes)) = some (some (.agg #[.slice none 0 0, .slice none 0 0]), 2, 48) := by kernel_rfl

set_option maxHeartbeats 400000 in
set_option maxRecDepth 100000 in
theorem cloneR (ao : Option Addr) (cap : Nat) (C : List Value) (n : Nat) (w : World) (hrow : Row w ao C) (hle : n ≤ cap) (hnil : ao = none → cap = 0) (hlen : C.length = n * 2) (one : ∀ v ∈ C, v.oneCell' = true) (hl : n ≤ 1000000000000) :
    Calls Try.prog 65 #[.slice ao n cap] w fun e w' =>
      ∃ v', e = .returned v' ∧ w'.ownsRow w.heap.size 56 2 v' n C ∧ Below w.heap.size w w' := by
  obtain ⟨i0, hi, hz0, hz1, hz2⟩ := info_parts infoR
  have q : ∀ (w : World) (a : Option Addr) (n c n' c' : Nat), (binOp .eql 22 (.slice a n c) (.slice none n' c')).run Try.prog w = .ok (.bool a.isNone) w := fun w a n c n' c' => Lib.run_eql_slice_nil w _ _ a n c n' c' Try.underlying22
  cases ao with
  | none =>
    obtain rfl := hnil rfl
    obtain rfl : n = 0 := by omega
    obtain rfl : C = [] := List.eq_nil_of_length_eq_zero hlen
    clear hlen
    go_enter Try.func65, Try.ntmps65
    go_wp2_with fail
    go_ret
    exact ⟨_, rfl, World.ownsRow_nil _ _ _ _, Below.refl _ _⟩
  | some ad =>
    have own0 : (w.alloc (.cells #[] 56)).ownsRow w.heap.size 56 2 (.slice (some ⟨w.heap.size, 0, none⟩) 0 0) 0 [] :=
      ⟨rfl, .inr ⟨w.heap.size, 0, #[], rfl, Nat.le_refl _, heap_alloc_new w _, Nat.le_refl _, by decide, rfl, rfl⟩⟩
    have belA := (Below.refl w.heap.size w).alloc (Nat.le_refl _) (Obj.cells #[] 56)
    have hs := hrow.alloc (.cells #[] 56)
    have hsrc : ∀ j u, C[j]? = some u → (w.alloc (.cells #[] 56)).cell? (ad.add j) = some u := by
      intro j u hu
      obtain ⟨b', off', e, _, hc⟩ := hs.at (by intro e; rw [e] at hu; simp at hu)
      obtain rfl := Option.some.inj e
      rw [Addr.add_lit]
      exact hc j u hu
    have bA : w.heap.size ≤ (w.alloc (.cells #[] 56)).heap.size := by simp
    replace hlen := hide hlen
    clear hrow hs hnil
    go_enter Try.func65, Try.ntmps65
    go_wp2_with (at_builtin; refine wpList_append_own_wide _ rfl (.tmp 5) (.tmp 6) 22 rfl w.heap.size 56 i0 (.agg #[.slice none 0 0, .slice none 0 0]) 2 48 Try.underlying22 hi hz0 hz1 hz2 rfl (by decide) _ 0 _ rfl own0 ad n cap C rfl hlen.out hsrc one (by unfold maxLen; omega) (by omega) bA ?_)
    intro v' w1 own1 grow1 _
    have bel1 := belowGrown belA own0 grow1 (Nat.le_refl _) bA
    obtain ⟨a1, c1, rfl⟩ : ∃ a1 c1, v' = .slice a1 n c1 := by
      rcases own1.2 with ⟨rfl, h0⟩ | ⟨g, cp, cur, rfl, _⟩
      · subst h0
        exact ⟨_, _, rfl⟩
      · exact ⟨_, _, rfl⟩
    go_wp2_with fail
    go_ret
    exact ⟨_, rfl, own1, bel1⟩

/-- What append lays onto an empty literal: the elements, and zeros behind them. -/
theorem wpList_append_fresh {P : Program} (w : World) {ops : Array Oper} {rest : List Oper} {o : Oper} {a : Act} {Q : Exit → Act → World → Prop} (hgd : o.guard = none) (s x : Operand) (t : TypeId)
    (ho : o.op = .call { callee := .builtin .append, args := #[s, x], argTypes := #[t, t] })
    (e : TypeId) (i : TypeInfo) (z : Value) (ht : P.underlying t = some (.slice e)) (hi : P.info? e = some i) (hz : i.zero = some z) (hzs : z.cells.size = i.size) (hsz : 0 < i.size)
    (b : Addr) (hs : a.eval s = .slice (some b) 0 0)
    (ad : Addr) (m c : Nat) (news : List Value) (hx : a.eval x = .slice (some ad) m c) (hl : news.length = m * i.size) (hnews : ∀ j u, news[j]? = some u → w.cell? (ad.add j) = some u)
    (hm : 0 < m) (h63 : m ≤ maxLen) (hbytes : m * i.bytes ≤ 140737488355328)
    (h : ∀ G L w', Blk w' w.heap.size (news ++ L) e → (∀ v ∈ L, v ∈ z.cells.toList) → news.length + L.length = G * i.size → m ≤ G → G ≤ maxLen → w.grownBy w' none → wpList P ops Q rest (a.put o.dst (.slice (some ⟨w.heap.size, 0, none⟩) m G)) w') : wpList P ops Q (o :: rest) a w := by
  refine wpList_plain hgd fun K hK => ?_
  have h63' : ((0 + m : Nat) : Int) ≤ 9223372036854775807 := by unfold maxLen at h63; omega
  have hrun := run_append_grow (P := P) w t o.type e i z ht hi hz b 0 0 [] (by simp) (by simp) ad m c news hl hnews (by omega) h63' (growslice_fits (by omega) (by rw [Nat.zero_add]; exact hbytes))
  have hge := grownCap_ge w (0 + m) 0 e
  have hcm : grownCap w (0 + m) 0 e ≤ maxLen := grownCap_le_maxLen w (0 + m) 0 e (by rw [Nat.zero_add]; exact h63)
  rw [Nat.zero_add] at hrun hge hcm
  unfold Oper.wp
  simp only [execOp, ho, resolve, invoke, builtin, Sem.run_bind, Sem.run_pure, Result.andThen_ok, List.map_toArray, List.map_cons, List.map_nil, hs, hx, hrun]
  refine hK _ _ (h _ (Builtin.zeroCells z.cells (grownCap w m 0 e - m)).toList _ ?_ ?_ ?_ hge hcm ⟨rfl, rfl, rfl, by simp, fun k hk _ => heap_alloc_old w.drew _ hk⟩)
  · unfold Blk
    have hn := heap_alloc_new w.drew (.cells (([] : List Value).toArray ++ news.toArray ++ Builtin.zeroCells z.cells (grownCap w m 0 e - m)) e)
    rw [show w.drew.heap.size = w.heap.size from rfl] at hn
    rw [hn]
    congr 2
    apply Array.toList_inj.1
    simp
  · intro v hv
    simp only [Builtin.zeroCells, Array.toList_map, List.mem_map] at hv
    obtain ⟨j, _, rfl⟩ := hv
    have hj : j % z.cells.size < z.cells.size := Nat.mod_lt _ (by omega)
    rw [getElem!_pos z.cells _ hj]
    exact Array.getElem_mem_toList hj
  · rw [hl, Array.length_toList, size_zeroCells, hzs, ← Nat.add_mul]
    congr 1
    omega

set_option maxHeartbeats 400000 in
set_option maxRecDepth 100000 in
/-- slices.Clone of some rows: the whole block that it lays. -/
theorem cloneR2 (ad : Addr) (cap : Nat) (C : List Value) (n : Nat) (w : World) (hrow : Row w (some ad) C) (hlen : C.length = n * 2) (hn : 0 < n) (hl : n ≤ 1000000000000) :
    Calls Try.prog 65 #[.slice (some ad) n cap] w fun e w' =>
      ∃ g G L, e = .returned (.slice (some ⟨g, 0, none⟩) n G) ∧ Blk w' g (C ++ L) 56 ∧ (∀ v ∈ L, v = .slice none 0 0) ∧ n ≤ G ∧ G ≤ 9223372036854775807 ∧ w.heap.size ≤ g ∧ Below w.heap.size w w' := by
  obtain ⟨i0, hi, hz0, hz1, hz2⟩ := info_parts infoR
  have q : ∀ (w : World) (a : Option Addr) (n c n' c' : Nat), (binOp .eql 22 (.slice a n c) (.slice none n' c')).run Try.prog w = .ok (.bool a.isNone) w := fun w a n c n' c' => Lib.run_eql_slice_nil w _ _ a n c n' c' Try.underlying22
  have belA := (Below.refl w.heap.size w).alloc (Nat.le_refl _) (Obj.cells #[] 56)
  have hs := hrow.alloc (.cells #[] 56)
  have hsrc : ∀ j u, C[j]? = some u → (w.alloc (.cells #[] 56)).cell? (ad.add j) = some u := by
    intro j u hu
    obtain ⟨b', off', e, _, hc⟩ := hs.at (by intro e; rw [e] at hu; simp at hu)
    obtain rfl := Option.some.inj e
    rw [Addr.add_lit]
    exact hc j u hu
  have e1 : C.length = n * i0.size := by rw [hz1]; exact hlen
  have e2 : (Value.agg #[.slice none 0 0, .slice none 0 0]).cells.size = i0.size := by rw [hz1]; rfl
  have e3 : n * i0.bytes ≤ 140737488355328 := by rw [hz2]; omega
  replace hlen := hide hlen
  replace e1 := hide e1
  replace e2 := hide e2
  clear hrow hs
  go_enter Try.func65, Try.ntmps65
  go_wp2_with (at_builtin; refine wpList_append_fresh _ rfl (.tmp 5) (.tmp 6) 22 rfl 56 i0 (.agg #[.slice none 0 0, .slice none 0 0]) Try.underlying22 hi hz0 e2.out (by rw [hz1]; decide) ⟨w.heap.size, 0, none⟩ rfl ad n cap C rfl e1.out hsrc hn (by unfold maxLen; omega) e3 ?_)
  intro G L w1 B1 hL _ hG hGm grow1
  have bel1 : Below w.heap.size w w1 := belA.grown grow1 (by simp) (fun k h => by cases h)
  go_wp2_with fail
  go_ret
  refine ⟨_, G, L, rfl, B1, ?_, hG, by unfold maxLen at hGm; exact hGm, by simp, bel1⟩
  intro v hv
  have := hL v hv
  simpa [Value.cells] using this

end Go.Proofs.Ytabeihkfjlmepaa

/-
  rainbookref.FreshShelf: four rows of nothing.
-/
namespace Go.Proofs.Ytabeihkfjlmepaa
open Go.RowKit

def lr0 : Lr := ⟨[], none, 0, [], none, 0⟩

theorem lr0_good (w : World) : lr0.Good w := ⟨SlB.ofNil w, SlP.ofNil w, by decide, by decide⟩

def fresh4 : List Lr := [lr0, lr0, lr0, lr0]

set_option maxHeartbeats 400000 in
set_option maxRecDepth 100000 in
theorem refFresh_any (w : World) :
    Calls Try.prog 24 #[] w fun e w' => ∃ a' G, e = .returned (.agg #[.slice a' 4 G]) ∧ SlR w' a' G fresh4 ∧ Below w.heap.size w w' := by
  obtain ⟨i0, hi, hz0, hz1, hz2⟩ := info_parts infoR
  have B0 := Blk.laid w [.slice none 0 0] 24 _ rfl
  go_enter Try.func24, Try.ntmps24
  go_wp2_with (at_make; refine wpList_make_full _ rfl (.const (.int .i64 4)) (.const (.int .i64 4)) 22 rfl (w.heap.size + 1) 56 i0 (.agg #[.slice none 0 0, .slice none 0 0]) 2 Try.underlying22 hi hz0 hz1 _ _ _ _ 4 rfl rfl rfl rfl (by rw [hz2]; omega) (by unfold maxLen; omega) (by simp) ?_)
  intro w1 own grow
  rw [show (madeCells #[Value.slice none 0 0, Value.slice none 0 0] 8).toList = fresh4.flatMap Lr.cells by kernel_rfl] at own
  have bel : Below w.heap.size w w1 := ((Below.refl _ _).alloc (Nat.le_refl _) _).grown grow (by simp) (fun k h => by cases h)
  have B1 := B0.grown grow (fun k h => by cases h)
  have f0 := B1.free 0
  have d0 : w1.cell? ⟨w.heap.size, 0, none⟩ = some (.slice none 0 0) := B1.cell 0
  have hgl := B1.lt
  go_wp2_with fail
  have own2 := own.kept (row := some w.heap.size) (grownSet (grownRefl w1 (some w.heap.size)) 0 (.slice (some ⟨w.heap.size + 1, 0, none⟩) 4 4)) (.inr (by intro e; have : w.heap.size + 1 = w.heap.size := Option.some.inj e; omega))
  obtain ⟨a9, c9, ev, s9, _, _⟩ := SlW.ofOwn Lr.two (by decide) own2
  simp only [Value.slice.injEq, true_and] at ev
  obtain ⟨rfl, rfl⟩ := ev
  refine bodyPost_ret (v := .agg #[.slice (some ⟨w.heap.size + 1, 0, none⟩) 4 4]) (by simp [results, Try.results24, go_sem, d0]) rfl ?_
  refine ⟨_, _, rfl, ⟨s9, fun r hr => ?_⟩, bel.setCell (Nat.le_refl _) _⟩
  simp only [fresh4, List.mem_cons, List.not_mem_nil, or_false, or_self] at hr
  subst hr
  exact lr0_good _

end Go.Proofs.Ytabeihkfjlmepaa

/-
  shelf.All and shelf.New.
-/
namespace Go.Proofs.Ytabeihkfjlmepaa
open Go.RowKit

set_option maxHeartbeats 400000 in
set_option maxRecDepth 100000 in
theorem sNew_any (w : World) :
    Calls Try.prog 20 #[] w fun e w' => ∃ a' G, e = .returned (.agg #[.slice a' 4 G]) ∧ SlR w' a' G fresh4 ∧ Below w.heap.size w w' := by
  obtain ⟨i0, hi, hz0, hz1, hz2⟩ := info_parts infoR
  have B0 := Blk.laid w [.slice none 0 0] 24 _ rfl
  go_enter Try.func20, Try.ntmps20
  go_wp2_with (at_make; refine wpList_make_full _ rfl (.const (.int .i64 4)) (.const (.int .i64 4)) 22 rfl (w.heap.size + 1) 56 i0 (.agg #[.slice none 0 0, .slice none 0 0]) 2 Try.underlying22 hi hz0 hz1 _ _ _ _ 4 rfl rfl rfl rfl (by rw [hz2]; omega) (by unfold maxLen; omega) (by simp) ?_)
  intro w1 own grow
  rw [show (madeCells #[Value.slice none 0 0, Value.slice none 0 0] 8).toList = fresh4.flatMap Lr.cells by kernel_rfl] at own
  have bel : Below w.heap.size w w1 := ((Below.refl _ _).alloc (Nat.le_refl _) _).grown grow (by simp) (fun k h => by cases h)
  have B1 := B0.grown grow (fun k h => by cases h)
  have f0 := B1.free 0
  have d0 : w1.cell? ⟨w.heap.size, 0, none⟩ = some (.slice none 0 0) := B1.cell 0
  have hgl := B1.lt
  go_wp2_with fail
  have own2 := own.kept (row := some w.heap.size) (grownSet (grownRefl w1 (some w.heap.size)) 0 (.slice (some ⟨w.heap.size + 1, 0, none⟩) 4 4)) (.inr (by intro e; have : w.heap.size + 1 = w.heap.size := Option.some.inj e; omega))
  obtain ⟨a9, c9, ev, s9, _, _⟩ := SlW.ofOwn Lr.two (by decide) own2
  simp only [Value.slice.injEq, true_and] at ev
  obtain ⟨rfl, rfl⟩ := ev
  refine bodyPost_ret (v := .agg #[.slice (some ⟨w.heap.size + 1, 0, none⟩) 4 4]) (by simp [results, Try.results20, go_sem, d0]) rfl ?_
  refine ⟨_, _, rfl, ⟨s9, fun r hr => ?_⟩, bel.setCell (Nat.le_refl _) _⟩
  simp only [fresh4, List.mem_cons, List.not_mem_nil, or_false, or_self] at hr
  subst hr
  exact lr0_good _

def allE (l : List Rw) (s : Int) : Int := if shelfE l = 0 then (if inI s 0 3 = false then 5 else 0) else shelfE l

def allL (l : List Rw) (s : Int) : List Pt := if allE l s = 0 then allPts (l.getD s.toNat rw0) else []

set_option maxHeartbeats 400000 in
set_option maxRecDepth 100000 in
/-- All, whatever it is handed: the points lie in memory of the call's own. -/
theorem sAll_any (l : List Lr) (ao : Option Addr) (cap : Nat) (s : Int) (w : World) (hs : SlR w ao cap l) :
    Calls Try.prog 12 #[.agg #[.slice ao l.length cap], .int .i64 s] w fun e w' => ∃ a' G, e = .returned (.tuple #[.slice a' (allL (l.map Lr.rw) s).length G, .int .i64 (allE (l.map Lr.rw) s)]) ∧
      w'.ownsRow w.heap.size 43 2 (.slice a' (allL (l.map Lr.rw) s).length G) (allL (l.map Lr.rw) s).length (cellsP (allL (l.map Lr.rw) s)) ∧ Below w.heap.size w w' := by
  have c1 := fun W h => sCheck_any l ao cap W h
  have c2 := fun W => isSeries_any s W
  have hs1 := fun o => hs.alloc o
  obtain ⟨A, hA⟩ : ∃ A, A = allL (l.map Lr.rw) s := ⟨_, rfl⟩
  rw [← hA]
  by_cases hE : shelfE (l.map Lr.rw) = 0
  · by_cases hi : inI s 0 3 = true
    · have e1 : allE (l.map Lr.rw) s = 0 := by unfold allE; rw [if_pos hE, hi]; rfl
      obtain ⟨h4, hrows⟩ := shelfE_zero hE
      rw [List.length_map] at h4
      have hin : 0 ≤ s ∧ s ≤ 3 := by unfold inI at hi; simpa using hi
      obtain ⟨k, rfl⟩ : ∃ k : Nat, s = k := ⟨s.toNat, by omega⟩
      have hk : k < 4 := by omega
      obtain ⟨x, hx⟩ : ∃ x, l[k]? = some x := ⟨_, List.getElem?_eq_getElem (by omega)⟩
      have hxr : rowE x.rw = 0 := rowsE_zero hrows x.rw (List.mem_map.2 ⟨x, List.mem_of_getElem? hx, rfl⟩)
      obtain ⟨z1, z2, z3⟩ := rowE_zero hxr
      have hA2 : A = rpts x.rw := by
        rw [hA]; unfold allL rpts; rw [if_pos e1, if_pos z2, Int.toNat_natCast]
        congr 1
        simp [List.getD, List.getElem?_map, hx]
      have c3 := fun W h => sPoints_any x W h (by unfold Lr.rw at z1; simpa using z1)
      rw [← hA2, z2] at c3
      rw [hE] at c1
      rw [e1]
      rw [hi] at c2
      rw [h4] at c1 ⊢
      obtain ⟨b, off, rfl, hbw⟩ := hs.where (by intro e; rw [e] at h4; simp at h4)
      unfold Lr.v at c3
      replace h4 := hide h4
      replace hx := hide hx
      clear hA2 hA hE hi e1 hrows hxr z1 z2 z3 hin
      have B0 := Blk.laid w [.slice (some ⟨b, off, none⟩) 4 cap] 24 _ rfl
      have bel0 : Below w.heap.size w (w.alloc (.cells #[.slice (some ⟨b, off, none⟩) 4 cap] 24)) := (Below.refl _ _).alloc (Nat.le_refl _) _
      replace hs1 := hs1 (.cells #[.slice (some ⟨b, off, none⟩) 4 cap] 24)
      go_enter Try.func12, Try.ntmps12
      go_wp2_with fail
      generalize w.alloc _ = w1 at *
      go_at_call 14
      refine (c1 _ hs1).mono ?_
      rintro e w2 ⟨rfl, b2⟩
      have hs2 := hs1.call b2
      have B2 := B0.keep b2 B0.lt
      have bel2 := belowCall bel0 b2
      have d0 : w2.cell? ⟨w.heap.size, 0, none⟩ = some (.slice (some ⟨b, off, none⟩) 4 cap) := B2.cell 0
      obtain ⟨e0, e1, gr⟩ := hs2.at k x hx.out
      clear b2 hs1 B0 bel0
      go_wp2_with fail
      go_at_call 30
      refine (c2 _).mono ?_
      rintro e w3 ⟨rfl, rfl⟩
      go_wp2_with fail
      go_at_call 31
      refine (c3 _ gr).mono ?_
      rintro e w4 ⟨a4, G4, rfl, own4, b4⟩
      have bel4 := belowCall bel2 b4
      have own5 := ownBase own4 bel2.size
      go_wp2_with fail
      go_ret2
      exact ⟨_, _, rfl, own5, bel4⟩
    · have hi : inI s 0 3 = false := by simpa using hi
      have e1 : allE (l.map Lr.rw) s = 5 := by unfold allE; rw [if_pos hE, hi]; rfl
      obtain rfl : A = [] := by rw [hA]; unfold allL; rw [e1]; rfl
      rw [e1]
      rw [hE] at c1
      rw [hi] at c2
      clear hA hE e1 hi
      generalize l.length = n at *
      go_enter Try.func12, Try.ntmps12
      go_wp2_with fail
      go_at_call 14
      refine (c1 _ (hs1 _)).mono ?_
      rintro e w2 ⟨rfl, b2⟩
      have bel2 := belowCall (belowNew (Below.refl _ w) _) b2
      go_wp2_with fail
      go_at_call 30
      refine (c2 _).mono ?_
      rintro e w3 ⟨rfl, rfl⟩
      go_wp2_with fail
      go_ret2
      exact ⟨none, 0, rfl, World.ownsRow_nil _ _ _ _, bel2⟩
  · have e1 : allE (l.map Lr.rw) s = shelfE (l.map Lr.rw) := by unfold allE; rw [if_neg hE]
    obtain rfl : A = [] := by rw [hA]; unfold allL; rw [e1, if_neg hE]
    rw [e1]
    clear hA e1
    generalize shelfE (l.map Lr.rw) = E at *
    generalize l.length = n at *
    go_enter Try.func12, Try.ntmps12
    go_wp2_with fail
    go_at_call 14
    refine (c1 _ (hs1 _)).mono ?_
    rintro e w2 ⟨rfl, b2⟩
    have bel2 := belowCall (belowNew (Below.refl _ w) _) b2
    go_wp2_with fail
    go_ret2
    exact ⟨none, 0, rfl, World.ownsRow_nil _ _ _ _, bel2⟩

end Go.Proofs.Ytabeihkfjlmepaa

/-
  A shelf in memory of the call's own: each row's blocks and head in blocks of their own; how that stays while one block alone is written. No function of the program is named.
-/
namespace Go.Proofs.Ytabeihkfjlmepaa
open Go.RowKit

/-- A block whose bits lie in a block of bits. -/
structure Lb.Own (w : World) (x : Lb) : Prop where
  good : x.Good w
  at_ : ∃ gO cs, x.a = some ⟨gO, 0, none⟩ ∧ Blk w gO cs 4

theorem Lb.Own.call {w w' : World} {x : Lb} (h : x.Own w) (hb : Below w.heap.size w w') : x.Own w' := by
  obtain ⟨gO, cs, e, B⟩ := h.at_
  exact ⟨h.good.keep hb (Nat.le_refl _), gO, cs, e, B.keep hb B.lt⟩

theorem blkType {w : World} {g : Nat} {cs ds : List Value} {t u : TypeId} (h : Blk w g cs t) (k : Blk w g ds u) : t = u := by
  unfold Blk at h k
  rw [h] at k
  simp only [Option.some.injEq, Obj.cells.injEq] at k
  exact k.2.1

theorem Lb.Own.wrote {w w' : World} {x : Lb} {g : Nat} {cs : List Value} {t : TypeId} (h : x.Own w) (hg : w.grownBy w' (some g)) (B : Blk w g cs t) (ht : t ≠ 4) : x.Own w' := by
  obtain ⟨gO, ds, e, BO⟩ := h.at_
  have hne : gO ≠ g := by
    rintro rfl
    exact ht (blkType B BO)
  refine ⟨⟨h.good.bits.off hg ?_, h.good.few⟩, gO, ds, e, BO.grown hg (fun k e => by obtain rfl := Option.some.inj e; exact fun e => hne e.symm)⟩
  intro ad e'
  rw [e] at e'
  obtain rfl := Option.some.inj e'
  exact hne

/-- A row whose blocks and head lie in memory of the call's own. -/
structure OwnR (w : World) (base : Nat) (r : Lr) : Prop where
  bs : ∃ bg, r.ba = some ⟨bg, 0, none⟩ ∧ base ≤ bg ∧ Blk w bg (r.bs.flatMap Lb.cells) 60
  bc : r.bc = r.bs.length
  hd : ∃ hg, r.ha = some ⟨hg, 0, none⟩ ∧ w.ownsRow base 43 2 (.slice (some ⟨hg, 0, none⟩) r.hd.length r.hc) r.hd.length (cellsP r.hd)
  good : ∀ x ∈ r.bs, x.Own w

theorem OwnR.call {w w' : World} {base : Nat} {r : Lr} (h : OwnR w base r) (hb : Below w.heap.size w w') : OwnR w' base r := by
  obtain ⟨bg, e1, l1, B⟩ := h.bs
  obtain ⟨hg, e2, o⟩ := h.hd
  exact ⟨⟨bg, e1, l1, B.keep hb B.lt⟩, h.bc, ⟨hg, e2, ownCall o hb⟩, fun x hx => (h.good x hx).call hb⟩

theorem OwnR.alloc {w : World} {base : Nat} {r : Lr} (h : OwnR w base r) (o : Obj) : OwnR (w.alloc o) base r :=
  h.call ((Below.refl w.heap.size w).alloc (Nat.le_refl _) o)

theorem ownBlk {w : World} {base g n cap : Nat} {size : Nat} {t : TypeId} {xs : List Value} (h : w.ownsRow base t size (.slice (some ⟨g, 0, none⟩) n cap) n xs) : ∃ cur, Blk w g cur t ∧ base ≤ g := by
  rcases h.2 with ⟨h', _⟩ | ⟨g', cap', cur, h', hb, hg, _, _, hs, htake⟩
  · simp at h'
  · simp only [Value.slice.injEq, Option.some.injEq, Addr.mk.injEq, and_true, true_and] at h'
    obtain ⟨rfl, rfl⟩ := h'
    exact ⟨cur.toList, by unfold Blk; simpa using hg, hb⟩

theorem Lb.Good.off {w w' : World} {x : Lb} {g : Nat} {cs : List Value} {t : TypeId} (h : x.Good w) (hg : w.grownBy w' (some g)) (B : Blk w g cs t) (nb : ∀ v ∈ cs, ∀ b, v ≠ .bool b) : x.Good w' := by
  refine ⟨?_, h.few⟩
  by_cases hP : x.b.bits = []
  · have s := h.bits
    rw [hP] at s ⊢
    exact ⟨.inl rfl, s.le, s.max, s.nil⟩
  · exact h.bits.off hg (h.bits.offKind B nb hP)

/-- One block is written, in which no part of the row lies. -/
theorem OwnR.wrote {w w' : World} {base g : Nat} {r : Lr} {cs : List Value} {t : TypeId} (h : OwnR w base r) (hg : w.grownBy w' (some g)) (B : Blk w g cs t) (ht : t ≠ 4) (h1 : r.ba ≠ some ⟨g, 0, none⟩) (h2 : r.ha ≠ some ⟨g, 0, none⟩) : OwnR w' base r := by
  obtain ⟨bg, e1, l1, B1⟩ := h.bs
  obtain ⟨hh, e2, o⟩ := h.hd
  refine ⟨⟨bg, e1, l1, B1.grown hg (fun k e => ?_)⟩, h.bc, ⟨hh, e2, o.kept hg (.inr (fun e => ?_))⟩, fun x hx => (h.good x hx).wrote hg B ht⟩
  · obtain rfl := Option.some.inj e
    intro e
    subst e
    exact h1 e1
  · have : hh = g := Option.some.inj e
    subst this
    exact h2 e2

theorem OwnR.notB {w : World} {base g : Nat} {r : Lr} {cs : List Value} {t : TypeId} (h : OwnR w base r) (B : Blk w g cs t) (ht : t ≠ 60) : r.ba ≠ some ⟨g, 0, none⟩ := by
  obtain ⟨bg, e1, l1, B1⟩ := h.bs
  intro e
  rw [e1] at e
  simp only [Option.some.injEq, Addr.mk.injEq, and_true] at e
  subst e
  exact ht (blkType B B1)

theorem OwnR.notH {w : World} {base g : Nat} {r : Lr} {cs : List Value} {t : TypeId} (h : OwnR w base r) (B : Blk w g cs t) (ht : t ≠ 43) : r.ha ≠ some ⟨g, 0, none⟩ := by
  obtain ⟨hh, e2, o⟩ := h.hd
  obtain ⟨cur, B2, _⟩ := ownBlk o
  intro e
  rw [e2] at e
  simp only [Option.some.injEq, Addr.mk.injEq, and_true] at e
  subst e
  exact ht (blkType B B2)

theorem rowNoBool (l : List Lr) : ∀ v ∈ l.flatMap Lr.cells, ∀ b, v ≠ .bool b := by
  intro v hv b e
  obtain ⟨r, _, hr⟩ := List.mem_flatMap.1 hv
  simp only [Lr.cells, List.mem_cons, List.not_mem_nil, or_false] at hr
  rcases hr with rfl | rfl <;> cases e

theorem blkNoBool (l : List Lb) : ∀ v ∈ l.flatMap Lb.cells, ∀ b, v ≠ .bool b := by
  intro v hv b e
  obtain ⟨r, _, hr⟩ := List.mem_flatMap.1 hv
  simp only [Lb.cells, List.mem_cons, List.not_mem_nil, or_false] at hr
  rcases hr with rfl | rfl | rfl | rfl <;> cases e

theorem ptNoBool (l : List Pt) : ∀ v ∈ cellsP l, ∀ b, v ≠ .bool b := by
  induction l with
  | nil => intro v hv; simp [cellsP] at hv
  | cons p r ih =>
    intro v hv b e
    simp only [cellsP, List.mem_cons] at hv
    rcases hv with rfl | rfl | hv
    · cases e
    · cases e
    · exact ih v hv b e

theorem OwnR.toGood {w : World} {base : Nat} {r : Lr} (h : OwnR w base r) (f1 : r.bs.length ≤ 140737488355328) (f2 : r.hd.length ≤ 8796093022208) : r.Good w := by
  obtain ⟨bg, e1, l1, B1⟩ := h.bs
  obtain ⟨hh, e2, o⟩ := h.hd
  obtain ⟨a3, G3, e3, s3, _, _⟩ := SlP.ofOwn o
  simp only [Value.slice.injEq, true_and] at e3
  obtain ⟨rfl, rfl⟩ := e3
  refine ⟨⟨⟨?_, by rw [h.bc]; exact Nat.le_refl _, by rw [h.bc]; omega, fun e => by rw [e1] at e; cases e⟩, fun x hx => (h.good x hx).good⟩, by rw [e2]; exact s3, f1, by omega⟩
  rw [e1]
  exact B1.row 0 _ (fun i v hv => by rw [Nat.zero_add]; exact hv)

/-- Rows of which no two have their blocks, or their heads, at one place. -/
def ApartL (rs : List Lr) : Prop := ∀ (i j : Nat) (r q : Lr), i ≠ j → rs[i]? = some r → rs[j]? = some q → r.ba ≠ q.ba ∧ r.ha ≠ q.ha

/-- Rows of the call's own, each apart from each other. -/
structure OwnG (w : World) (base g : Nat) (rs : List Lr) : Prop where
  rows : Blk w g (rs.flatMap Lr.cells) 56
  lo : base ≤ g
  each : ∀ r ∈ rs, OwnR w base r
  ap : ApartL rs

theorem OwnG.call {w w' : World} {base g : Nat} {rs : List Lr} (h : OwnG w base g rs) (hb : Below w.heap.size w w') : OwnG w' base g rs :=
  ⟨h.rows.keep hb h.rows.lt, h.lo, fun r hr => (h.each r hr).call hb, h.ap⟩

theorem OwnG.alloc {w : World} {base g : Nat} {rs : List Lr} (h : OwnG w base g rs) (o : Obj) : OwnG (w.alloc o) base g rs :=
  h.call ((Below.refl w.heap.size w).alloc (Nat.le_refl _) o)

theorem OwnG.at {w : World} {base g : Nat} {rs : List Lr} (h : OwnG w base g rs) (k : Nat) (r : Lr) (hr : rs[k]? = some r) :
    w.cell? ⟨g, k * 2, none⟩ = some (.slice r.ba r.bs.length r.bc) ∧ w.cell? ⟨g, k * 2 + 1, none⟩ = some (.slice r.ha r.hd.length r.hc) := by
  rw [h.rows.cell, h.rows.cell]
  exact ⟨flat_get Lr.two rs k 0 r hr (by decide), flat_get Lr.two rs k 1 r hr (by decide)⟩

/-- Rows that lie in one block, each of them right: what a call hands on. -/
structure FinS (w : World) (base g : Nat) (rs : List Lr) : Prop where
  rows : Blk w g (rs.flatMap Lr.cells) 56
  lo : base ≤ g
  good : ∀ r ∈ rs, r.Good w

theorem FinS.slr {w : World} {base g : Nat} {rs : List Lr} (h : FinS w base g rs) (n : Nat) (hn : rs.length = n) (hm : n ≤ 9223372036854775807) : SlR w (some ⟨g, 0, none⟩) n rs :=
  ⟨⟨h.rows.row 0 _ (fun i v hv => by rw [Nat.zero_add]; exact hv), by omega, hm, fun e => by cases e⟩, h.good⟩

theorem OwnG.fin {w : World} {base g : Nat} {rs : List Lr} (h : OwnG w base g rs) (few : ∀ r ∈ rs, r.bs.length ≤ 140737488355328 ∧ r.hd.length ≤ 8796093022208) : FinS w base g rs :=
  ⟨h.rows, h.lo, fun r hr => (h.each r hr).toGood (few r hr).1 (few r hr).2⟩

theorem FinS.call {w w' : World} {base g : Nat} {rs : List Lr} (h : FinS w base g rs) (hb : Below w.heap.size w w') : FinS w' base g rs :=
  ⟨h.rows.keep hb h.rows.lt, h.lo, fun r hr => (h.good r hr).keep hb (Nat.le_refl _)⟩

/-- Another cell of a row of cells four wide is written. -/
theorem flat_set4 {α : Type} {f : α → List Value} (x : α) (hf : ∀ x, (f x).length = 4) (y : α) (u : Value) (j : Nat) (hj : j < 4) (he : f y = (f x).set j u) : ∀ (l : List α) (k : Nat), l[k]? = some x → (l.flatMap f).set (k * 4 + j) u = (l.set k y).flatMap f
  | [], k, h => by simp at h
  | z :: r, 0, h => by
    simp at h
    subst h
    rw [List.flatMap_cons, List.set_cons_zero, List.flatMap_cons, he, List.set_append_left _ _ (by rw [hf]; omega)]
    simp
  | z :: r, k + 1, h => by
    have ih := flat_set4 x hf y u j hj he r k (by simpa using h)
    rw [List.flatMap_cons, List.set_cons_succ, List.flatMap_cons, ← ih, List.set_append_right _ _ (by rw [hf]; omega), hf, show (k + 1) * 4 + j - 4 = k * 4 + j by omega]

end Go.Proofs.Ytabeihkfjlmepaa

/-
  Writing a block that holds slices alone leaves every row as it was. No function of the program is named.
-/
namespace Go.Proofs.Ytabeihkfjlmepaa
open Go.RowKit

def OnlySl (cs : List Value) : Prop := ∀ v ∈ cs, ∃ a n c, v = Value.slice a n c

theorem OnlySl.noBool {cs : List Value} (h : OnlySl cs) : ∀ v ∈ cs, ∀ b, v ≠ .bool b := by
  intro v hv b e
  obtain ⟨a, n, c, rfl⟩ := h v hv
  cases e

theorem onlyRows (l : List Lr) : OnlySl (l.flatMap Lr.cells) := by
  intro v hv
  obtain ⟨r, _, hr⟩ := List.mem_flatMap.1 hv
  simp only [Lr.cells, List.mem_cons, List.not_mem_nil, or_false] at hr
  rcases hr with rfl | rfl <;> exact ⟨_, _, _, rfl⟩

theorem onlyOne (a : Option Addr) (n c : Nat) : OnlySl [.slice a n c] := by
  intro v hv
  simp only [List.mem_singleton] at hv
  exact ⟨_, _, _, hv⟩

/-- Cells that begin with a number do not lie in a block of slices alone. -/
theorem Row.offSl {w : World} {ao : Option Addr} {g : Nat} {cs ds : List Value} {t : TypeId} {x : Int} {k : IntKind} (h : Row w ao (.int k x :: ds)) (B : Blk w g cs t) (hs : OnlySl cs) : Off g ao := by
  obtain ⟨b, off, rfl, hb, hc⟩ := h.at (by simp)
  intro ad e
  cases e
  intro e
  have e : b = g := e
  subst e
  have h0 := hc 0 (.int k x) (by simp)
  rw [B.cell] at h0
  obtain ⟨a, n, c, e⟩ := hs _ (List.mem_of_getElem? h0)
  cases e

theorem Lr.Good.offSl {w w' : World} {r : Lr} {g : Nat} {cs : List Value} {t : TypeId} (h : r.Good w) (hg : w.grownBy w' (some g)) (B : Blk w g cs t) (hs : OnlySl cs) : r.Good w' := by
  refine ⟨⟨⟨?_, h.bs.sl.le, h.bs.sl.max, h.bs.sl.nil⟩, fun x hx => (h.bs.good x hx).off hg B hs.noBool⟩, ⟨?_, h.hd.le, h.hd.max, h.hd.nil⟩, h.few, h.hfew⟩
  · have := h.bs.sl.row
    cases hb : r.bs with
    | nil => exact .inl rfl
    | cons x q =>
      rw [hb] at this
      exact this.off hg (Row.offSl (ds := _) this B hs)
  · have := h.hd.row
    cases hb : r.hd with
    | nil => exact .inl rfl
    | cons x q =>
      rw [hb] at this
      exact this.off hg (Row.offSl (ds := _) this B hs)

/-- Another block of slices alone is written. -/
theorem FinS.offSl {w w' : World} {base g g' : Nat} {rs : List Lr} {cs : List Value} {t : TypeId} (h : FinS w base g rs) (hg : w.grownBy w' (some g')) (B : Blk w g' cs t) (hs : OnlySl cs) (hne : g' ≠ g) : FinS w' base g rs :=
  ⟨h.rows.grown hg (fun k e => by obtain rfl := Option.some.inj e; exact hne), h.lo, fun r hr => (h.good r hr).offSl hg B hs⟩

/-- Cells of rows do not lie in a block of another type: here, rows that were handed on stay while the answer's cell is written. -/
theorem SlR.written {w : World} {ao : Option Addr} {cap g i : Nat} {rs : List Lr} {cs : List Value} {t : TypeId} {u : Value} (h : SlR w ao cap rs) (hs : OnlySl cs) (B : Blk w g cs t) (hne : Off g ao) : SlR (w.setCell ⟨g, i, none⟩ u) ao cap rs := by
  have grow : w.grownBy (w.setCell ⟨g, i, none⟩ u) (some g) := grownSet (grownRefl w _) _ _
  exact ⟨⟨h.sl.row.off grow hne, h.sl.le, h.sl.max, h.sl.nil⟩, fun r hr => (h.good r hr).offSl grow B hs⟩

/-- Rows with one of them put anew. -/
theorem FinS.put {w : World} {base g : Nat} {rs : List Lr} (h : FinS w base g rs) (k : Nat) (hk : k < rs.length) (x : Lr) (hx : x.Good w) :
    FinS ((w.setCell ⟨g, k * 2, none⟩ (.slice x.ba x.bs.length x.bc)).setCell ⟨g, k * 2 + 1, none⟩ (.slice x.ha x.hd.length x.hc)) base g (rs.set k x) := by
  have B2 := (h.rows.set (k * 2) (.slice x.ba x.bs.length x.bc)).set (k * 2 + 1) (.slice x.ha x.hd.length x.hc)
  rw [flat_set x _ _ rfl Lr.two rs k hk] at B2
  have grow : w.grownBy ((w.setCell ⟨g, k * 2, none⟩ (.slice x.ba x.bs.length x.bc)).setCell ⟨g, k * 2 + 1, none⟩ (.slice x.ha x.hd.length x.hc)) (some g) := grownSet (grownSet (grownRefl w (some g)) _ _) _ _
  refine ⟨B2, h.lo, fun r hr => ?_⟩
  rcases List.mem_or_eq_of_mem_set hr with hr | rfl
  · exact (h.good r hr).offSl grow h.rows (onlyRows rs)
  · exact hx.offSl grow h.rows (onlyRows rs)

theorem setFirst {α : Type} {f : α → List Value} (x y : α) (u v : Value) (hx : f x = [u, v]) (z : Value) (hy : f y = [z, v]) (hf : ∀ x, (f x).length = 2) : ∀ (l : List α) (k : Nat), l[k]? = some x → (l.flatMap f).set (k * 2) z = (l.set k y).flatMap f
  | [], k, h => by simp at h
  | q :: r, 0, h => by
    simp at h
    subst h
    rw [List.flatMap_cons, List.set_cons_zero, List.flatMap_cons, hx, hy]
    rfl
  | q :: r, k + 1, h => by
    have ih := setFirst x y u v hx z hy hf r k (by simpa using h)
    rw [List.flatMap_cons, List.set_cons_succ, List.flatMap_cons, ← ih, List.set_append_right _ _ (by rw [hf]; omega), hf, show (k + 1) * 2 - 2 = k * 2 by omega]

theorem setSecond {α : Type} {f : α → List Value} (x y : α) (u v : Value) (hx : f x = [u, v]) (z : Value) (hy : f y = [u, z]) (hf : ∀ x, (f x).length = 2) : ∀ (l : List α) (k : Nat), l[k]? = some x → (l.flatMap f).set (k * 2 + 1) z = (l.set k y).flatMap f
  | [], k, h => by simp at h
  | q :: r, 0, h => by
    simp at h
    subst h
    rw [List.flatMap_cons, List.set_cons_zero, List.flatMap_cons, hx, hy]
    rfl
  | q :: r, k + 1, h => by
    have ih := setSecond x y u v hx z hy hf r k (by simpa using h)
    rw [List.flatMap_cons, List.set_cons_succ, List.flatMap_cons, ← ih, List.set_append_right _ _ (by rw [hf]; omega), hf, show (k + 1) * 2 + 1 - 2 = k * 2 + 1 by omega]

def chE (l : List Rw) (E : Int) : Int := if shelfE l = 0 then E else shelfE l

def chL (l : List Rw) (E : Int) (L : List Rw) : List Rw := if chE l E = 0 then L else []

/-- What a function that works on a copy of a shelf keeps: it writes nothing below its base; where it answers 0 the rows are L. -/
def Does (E : Int) (L : List Rw) (base box g : Nat) (W : World) (e : Ending) (W' : World) : Prop :=
  e = .returned (.int .i64 E) ∧ Below base W W' ∧ (E = 0 → ∃ rs', FinS W' base g rs' ∧ rs'.length = 4 ∧ rs'.map Lr.rw = L ∧ Blk W' box [.slice (some ⟨g, 0, none⟩) 4 4] 24)

/-- A copy of the shelf l, of the call's own from base on. -/
structure Copied (l : List Rw) (base box g : Nat) (rs : List Lr) (W : World) : Prop where
  out : Blk W box [.slice (some ⟨g, 0, none⟩) 4 4] 24
  lo : base ≤ box
  own : OwnG W base g rs
  same : rs.map Lr.rw = l

theorem Copied.call {l : List Rw} {base box g : Nat} {rs : List Lr} {W W' : World} (h : Copied l base box g rs W) (hb : Below W.heap.size W W') : Copied l base box g rs W' :=
  ⟨h.out.keep hb h.out.lt, h.lo, h.own.call hb, h.same⟩

theorem Copied.drew {l : List Rw} {base box g : Nat} {rs : List Lr} {W : World} (h : Copied l base box g rs W) : Copied l base box g rs W.drew :=
  h.call (belowDrew (Below.refl W.heap.size W))

theorem Copied.alloc {l : List Rw} {base box g : Nat} {rs : List Lr} {W : World} (h : Copied l base box g rs W) (o : Obj) : Copied l base box g rs (W.alloc o) :=
  h.call ((Below.refl W.heap.size W).alloc (Nat.le_refl _) o)

theorem Copied.base {l : List Rw} {base box g : Nat} {rs : List Lr} {W : World} (h : Copied l base box g rs W) : base ≤ W.heap.size := by
  have h1 := h.own.lo
  have h2 := h.own.rows.lt
  omega

/-- One row, with its cells, of a copy. -/
theorem Copied.row {l : List Rw} {base box g : Nat} {rs : List Lr} {W : World} (h : Copied l base box g rs W) (hR : Right l) (k : Nat) (hk : k < 4) :
    ∃ r, rs[k]? = some r ∧ r.rw = l.getD k rw0 ∧ W.cell? ⟨g, k * 2, none⟩ = some (.slice r.ba r.bs.length r.bc) ∧ W.cell? ⟨g, k * 2 + 1, none⟩ = some (.slice r.ha r.hd.length r.hc) ∧ OwnR W base r ∧ r.bs.length ≤ 8 ∧ r.hd.length ≤ 40 := by
  have hl : rs.length = 4 := by rw [← hR.four, ← h.same, List.length_map]
  obtain ⟨r, hr⟩ : ∃ r, rs[k]? = some r := ⟨_, List.getElem?_eq_getElem (by omega)⟩
  have hrw : r.rw = l.getD k rw0 := by rw [← h.same]; simp [List.getD, hr]
  obtain ⟨e0, e1⟩ := h.own.at k r hr
  have few := hR.few r.rw (by rw [← h.same]; exact List.mem_map.2 ⟨r, List.mem_of_getElem? hr, rfl⟩)
  exact ⟨r, hr, hrw, e0, e1, h.own.each r (List.mem_of_getElem? hr), by simpa [Lr.rw] using few.1, few.2⟩

theorem ApartL.set {rs : List Lr} (h : ApartL rs) (k : Nat) (y : Lr) (hb : ∀ j q, j ≠ k → rs[j]? = some q → q.ba ≠ y.ba ∧ q.ha ≠ y.ha) : ApartL (rs.set k y) := by
  intro i j r q hij hr hq
  rw [List.getElem?_set] at hr hq
  split at hr
  · rename_i e
    subst e
    split at hr
    · obtain rfl := Option.some.inj hr
      split at hq
      · rename_i e
        exact absurd e hij
      · obtain ⟨h1, h2⟩ := hb j q (fun e => hij e.symm) hq
        exact ⟨fun e => h1 e.symm, fun e => h2 e.symm⟩
    · cases hr
  · split at hq
    · rename_i e
      subst e
      split at hq
      · obtain rfl := Option.some.inj hq
        exact hb i r hij hr
      · cases hq
    · exact h i j r q hij hr hq

/-- A point stands behind a row's head: the head has grown, the row leads to it. -/
theorem Copied.put {l : List Rw} {base box g hg h2 c2 k m : Nat} {rs : List Lr} {W w2 : World} {r : Lr} {p : Pt} (C : Copied l base box g rs W) (hr : rs[k]? = some r) (hm : m = r.hd.length) (hh : r.ha = some ⟨hg, 0, none⟩)
    (grow : W.grownBy w2 (some hg)) (own : w2.ownsRow base 43 2 (.slice (some ⟨h2, 0, none⟩) (m + 1) c2) (m + 1) (cellsP r.hd ++ [.int .i64 p.1, .int .i64 p.2])) (hw : h2 = hg ∨ W.heap.size ≤ h2) :
    Copied (l.set k ⟨r.rw.blocks, r.hd ++ [p]⟩) base box g (rs.set k ⟨r.bs, r.ba, r.bc, r.hd ++ [p], some ⟨h2, 0, none⟩, c2⟩) (w2.setCell ⟨g, k * 2 + 1, none⟩ (.slice (some ⟨h2, 0, none⟩) (m + 1) c2)) ∧
      Below base W (w2.setCell ⟨g, k * 2 + 1, none⟩ (.slice (some ⟨h2, 0, none⟩) (m + 1) c2)) := by
  have oR := C.own.each r (List.mem_of_getElem? hr)
  obtain ⟨hg', e2, o0⟩ := oR.hd
  rw [hh] at e2
  simp only [Option.some.injEq, Addr.mk.injEq, and_true] at e2
  subst e2
  obtain ⟨cur, BH, lo⟩ := ownBlk o0
  have ne : ∀ {n : Nat} {cs : List Value} {t : TypeId}, Blk W n cs t → t ≠ 43 → ∀ i, some hg = some i → i ≠ n := by
    intro n cs t B ht i e
    obtain rfl := Option.some.inj e
    rintro rfl
    exact ht (blkType B BH)
  have G2 := C.own.rows.grown grow (ne C.own.rows (by decide))
  have O2 := C.out.grown grow (ne C.out (by decide))
  have grow2 : w2.grownBy (w2.setCell ⟨g, k * 2 + 1, none⟩ (.slice (some ⟨h2, 0, none⟩) (m + 1) c2)) (some g) := grownSet (grownRefl w2 _) _ _
  have hgh : h2 ≠ g := by
    obtain ⟨cur2, B2, _⟩ := ownBlk own
    rintro rfl
    exact absurd (blkType B2 G2) (by decide)
  have cat : cellsP r.hd ++ [.int .i64 p.1, .int .i64 p.2] = cellsP (r.hd ++ [p]) := by rw [cellsP_append]; rfl
  have lenE : (r.hd ++ [p]).length = m + 1 := by rw [List.length_append, hm]; rfl
  have grew : ∀ q : Lr, OwnR W base q → q.ha ≠ some ⟨hg, 0, none⟩ → OwnR w2 base q := fun q hq hne => hq.wrote grow BH (by decide) (hq.notB BH (by decide)) hne
  have oth : ∀ q : Lr, OwnR w2 base q → OwnR (w2.setCell ⟨g, k * 2 + 1, none⟩ (.slice (some ⟨h2, 0, none⟩) (m + 1) c2)) base q := fun q hq => hq.wrote grow2 G2 (by decide) (hq.notB G2 (by decide)) (hq.notH G2 (by decide))
  refine ⟨⟨?_, C.lo, ⟨?_, C.own.lo, ?_, ?_⟩, ?_⟩, ?_⟩
  · refine O2.grown grow2 (fun i e => ?_)
    obtain rfl := Option.some.inj e
    rintro rfl
    exact absurd (blkType O2 G2) (by decide)
  · have B := G2.set (k * 2 + 1) (.slice (some ⟨h2, 0, none⟩) (m + 1) c2)
    rw [setSecond r ⟨r.bs, r.ba, r.bc, r.hd ++ [p], some ⟨h2, 0, none⟩, c2⟩ _ _ rfl _ (by unfold Lr.cells; simp only [lenE]) Lr.two rs k hr] at B
    exact B
  · intro q hq
    obtain ⟨j, hj, e⟩ := List.mem_iff_getElem.1 hq
    have hq' : (rs.set k ⟨r.bs, r.ba, r.bc, r.hd ++ [p], some ⟨h2, 0, none⟩, c2⟩)[j]? = some q := by rw [List.getElem?_eq_getElem hj, e]
    rw [List.getElem?_set] at hq'
    split at hq'
    · split at hq'
      · obtain rfl := Option.some.inj hq'
        obtain ⟨bg, e1, l1, B1⟩ := oR.bs
        have nb2 := ne B1 (by decide)
        have B2 := B1.grown grow nb2
        have B3 : Blk (w2.setCell ⟨g, k * 2 + 1, none⟩ (.slice (some ⟨h2, 0, none⟩) (m + 1) c2)) bg (r.bs.flatMap Lb.cells) 60 := B2.grown grow2 (fun i e => by
          obtain rfl := Option.some.inj e
          rintro rfl
          exact absurd (blkType B2 G2) (by decide))
        refine ⟨⟨bg, e1, l1, B3⟩, oR.bc, ⟨h2, rfl, ?_⟩, fun x hx => ((oR.good x hx).wrote grow BH (by decide)).wrote grow2 G2 (by decide)⟩
        show World.ownsRow _ base _ 2 (.slice (some ⟨h2, 0, none⟩) (r.hd ++ [p]).length c2) (r.hd ++ [p]).length (cellsP (r.hd ++ [p]))
        rw [lenE, ← cat]
        exact own.kept grow2 (.inr (fun e => hgh (Option.some.inj e)))
      · cases hq'
    · rename_i hne
      have oq := C.own.each q (List.mem_of_getElem? hq')
      exact oth q (grew q oq (by rw [← hh]; exact fun e => (C.own.ap j k q r (fun e => hne e.symm) hq' hr).2 e))
  · refine C.own.ap.set k _ (fun j q hj hq => ?_)
    refine ⟨(C.own.ap j k q r hj hq hr).1, ?_⟩
    show q.ha ≠ some ⟨h2, 0, none⟩
    rcases hw with rfl | hw
    · rw [← hh]
      exact (C.own.ap j k q r hj hq hr).2
    · obtain ⟨hq2, eq, oq⟩ := (C.own.each q (List.mem_of_getElem? hq)).hd
      obtain ⟨cur3, B3, _⟩ := ownBlk oq
      have := B3.lt
      rw [eq]
      intro e
      simp only [Option.some.injEq, Addr.mk.injEq, and_true] at e
      omega
  · rw [List.map_set, C.same]
    rfl
  · have b1 : Below base W w2 := (Below.refl base W).grown grow C.base (fun i e => by obtain rfl := Option.some.inj e; exact lo)
    exact b1.setCell C.own.lo _

theorem FinS.drew {w : World} {base g : Nat} {rs : List Lr} (h : FinS w base g rs) : FinS w.drew base g rs := h.call (belowDrew (Below.refl w.heap.size w))

/-- The first cell of a row is written: its blocks. -/
theorem FinS.first {w : World} {base g k n : Nat} {rs : List Lr} {r : Lr} (h : FinS w base g rs) (hr : rs[k]? = some r) (y : Lr) (hy : y.Good w) (hn : n = y.bs.length) (e1 : y.ha = r.ha) (e2 : y.hd.length = r.hd.length) (e3 : y.hc = r.hc) :
    FinS (w.setCell ⟨g, k * 2, none⟩ (.slice y.ba n y.bc)) base g (rs.set k y) := by
  subst hn
  have B2 := h.rows.set (k * 2) (.slice y.ba y.bs.length y.bc)
  rw [setFirst r y _ _ rfl _ (by unfold Lr.cells; rw [e1, e2, e3]) Lr.two rs k hr] at B2
  have grow : w.grownBy (w.setCell ⟨g, k * 2, none⟩ (.slice y.ba y.bs.length y.bc)) (some g) := grownSet (grownRefl w (some g)) _ _
  refine ⟨B2, h.lo, fun q hq => ?_⟩
  rcases List.mem_or_eq_of_mem_set hq with hq | rfl
  · exact (h.good q hq).offSl grow h.rows (onlyRows rs)
  · exact hy.offSl grow h.rows (onlyRows rs)

/-- The second cell of a row is written: its head. -/
theorem FinS.second {w : World} {base g k n : Nat} {rs : List Lr} {r : Lr} (h : FinS w base g rs) (hr : rs[k]? = some r) (y : Lr) (hy : y.Good w) (hn : n = y.hd.length) (e1 : y.ba = r.ba) (e2 : y.bs.length = r.bs.length) (e3 : y.bc = r.bc) :
    FinS (w.setCell ⟨g, k * 2 + 1, none⟩ (.slice y.ha n y.hc)) base g (rs.set k y) := by
  subst hn
  have B2 := h.rows.set (k * 2 + 1) (.slice y.ha y.hd.length y.hc)
  rw [setSecond r y _ _ rfl _ (by unfold Lr.cells; rw [e1, e2, e3]) Lr.two rs k hr] at B2
  have grow : w.grownBy (w.setCell ⟨g, k * 2 + 1, none⟩ (.slice y.ha y.hd.length y.hc)) (some g) := grownSet (grownRefl w (some g)) _ _
  refine ⟨B2, h.lo, fun q hq => ?_⟩
  rcases List.mem_or_eq_of_mem_set hq with hq | rfl
  · exact (h.good q hq).offSl grow h.rows (onlyRows rs)
  · exact hy.offSl grow h.rows (onlyRows rs)

theorem Copied.fin {l : List Rw} {base box g : Nat} {rs : List Lr} {W : World} (h : Copied l base box g rs W) (hR : Right l) : FinS W base g rs :=
  h.own.fin (fun r hr => by
    have := hR.few r.rw (by rw [← h.same]; exact List.mem_map.2 ⟨r, hr, rfl⟩)
    unfold Lr.rw at this
    simp only [List.length_map] at this
    omega)

theorem Copied.boxNe {l : List Rw} {base box g : Nat} {rs : List Lr} {W : World} (h : Copied l base box g rs W) : box ≠ g := by
  rintro rfl
  exact absurd (blkType h.out h.own.rows) (by decide)

end Go.Proofs.Ytabeihkfjlmepaa

/-
  How arguments that are shelves, by value, and slices of entries are opened.
-/
namespace Go.Proofs.Ytabeihkfjlmepaa
open Go.RowKit Go.ChangeShapes Go.WideShapes Go.ChangeAt Go.Joins

set_option maxRecDepth 100000 in
theorem list2 {α : Type} {cs : List α} (h : cs.length = 2) : ∃ c0 c1, cs = [c0, c1] := by
  match cs, h with
  | [c0, c1], _ => exact ⟨c0, c1, rfl⟩
set_option maxRecDepth 100000 in
theorem list3 {α : Type} {cs : List α} (h : cs.length = 3) : ∃ c0 c1 c2, cs = [c0, c1, c2] := by
  match cs, h with
  | [c0, c1, c2], _ => exact ⟨c0, c1, c2, rfl⟩
set_option maxRecDepth 100000 in
theorem list4 {α : Type} {cs : List α} (h : cs.length = 4) : ∃ c0 c1 c2 c3, cs = [c0, c1, c2, c3] := by
  match cs, h with
  | [c0, c1, c2, c3], _ => exact ⟨c0, c1, c2, c3, rfl⟩

set_option maxRecDepth 100000 in
theorem cellsOfBool : Try.prog.cellsOf 4 = 1 := by kernel_rfl
set_option maxRecDepth 100000 in
theorem cellsOfBlock : Try.prog.cellsOf 60 = 4 := by kernel_rfl
set_option maxRecDepth 100000 in
theorem cellsOfRow : Try.prog.cellsOf 56 = 2 := by kernel_rfl
set_option maxRecDepth 100000 in
theorem cellsOfInt : Try.prog.cellsOf 3 = 1 := by kernel_rfl
set_option maxRecDepth 100000 in
theorem cellsOfBools : Try.prog.cellsOf 58 = 1 := by kernel_rfl
set_option maxRecDepth 100000 in
theorem cellsOfBlocks : Try.prog.cellsOf 54 = 1 := by kernel_rfl
set_option maxRecDepth 100000 in
theorem cellsOfPoints : Try.prog.cellsOf 37 = 1 := by kernel_rfl

set_option maxRecDepth 100000 in
/-- One block, by its cells. -/
theorem open_lb {H : Type} {enc : TypeId × Value → H} {W : World} (cs : List Value) (x : DataW H × List MemPlace) (m : Nat) (hl : cs.length = 4) (h : DataW.trod enc Try.prog W 0 (fun _ => true) true m 60 cs = some x) (hw : Light 60 x.1) :
    ∃ y : Lb, cs = y.cells ∧ y.Good W := by
  obtain ⟨c0, c1, c2, c3, rfl⟩ := list4 hl
  obtain ⟨y0, y1, y2, y3, n, rfl, _, h0, h1, h2, h3⟩ := trod_struct4 Try.underlying60 h
  simp only [cellsOfInt, cellsOfBools, List.drop_zero, List.drop_succ_cons, List.take_succ_cons, List.take_zero] at h0 h1 h2 h3
  obtain ⟨a0, e0, rfl, w0⟩ := DataW.trod_int Try.underlying3 h0
  obtain ⟨a1, e1, rfl, w1⟩ := DataW.trod_int Try.underlying3 h1
  obtain ⟨a2, e2, rfl, w2⟩ := DataW.trod_int Try.underlying3 h2
  obtain ⟨ao, k, cap, e3⟩ := slice_form Try.underlying58 h3
  simp at e0 e1 e2 e3
  subst e0 e1 e2 e3
  obtain ⟨l, rfl, s, dd⟩ := open_bools (ao := ao) (n := k) (cap := cap) Try.underlying58 Try.underlying4 cellsOfBool ⟨n, h3⟩
  refine ⟨⟨⟨a0, a1, a2, l⟩, ao, cap⟩, rfl, s, ?_⟩
  have hle := s.le
  rw [List.length_map] at hle
  have : cap ≤ 140737488351232 := by
    rcases dd with dd | ⟨el, sp, e, hc⟩
    · omega
    · have := hw ((el.length + sp.length) * Try.prog.bytesOf 4) (by
        simp only [e, DataW.weights, Try.underlying60, DataW.weightsEach, List.map_cons, List.map_nil, Try.underlying58]
        simp)
      rw [show Try.prog.bytesOf 4 = 1 by kernel_rfl] at this
      omega
  show l.length ≤ _
  omega

set_option maxRecDepth 100000 in
/-- One row, by its cells. -/
theorem open_lr {H : Type} {enc : TypeId × Value → H} {W : World} (cs : List Value) (x : DataW H × List MemPlace) (m : Nat) (hl : cs.length = 2) (h : DataW.trod enc Try.prog W 0 (fun _ => true) true m 56 cs = some x) (hw : Light 56 x.1) :
    ∃ r : Lr, cs = r.cells ∧ r.Good W := by
  obtain ⟨c0, c1, rfl⟩ := list2 hl
  obtain ⟨y0, y1, n, rfl, _, h0, h1⟩ := trod_struct2 Try.underlying56 h
  simp only [cellsOfBlocks, cellsOfPoints, List.drop_zero, List.drop_succ_cons, List.take_succ_cons, List.take_zero] at h0 h1
  obtain ⟨ab, nb, cb, e0⟩ := slice_form Try.underlying54 h0
  obtain ⟨ah, nh, ch, e1⟩ := slice_form Try.underlying37 h1
  simp at e0 e1
  subst e0 e1
  have w0 : Light 54 y0.1 := fun z hz => hw z (by simp only [DataW.weights, Try.underlying56, DataW.weightsEach, List.map_cons, List.map_nil]; exact List.mem_append_left _ hz)
  have w1 : Light 37 y1.1 := fun z hz => hw z (by simp only [DataW.weights, Try.underlying56, DataW.weightsEach, List.map_cons, List.map_nil]; exact List.mem_append_right _ (List.mem_append_left _ hz))
  obtain ⟨bs, rfl, sb, gb, rb⟩ := open_wide (ao := ab) (n := nb) (cap := cb) Lb.cells (fun y => y.Good W) Try.underlying54 cellsOfBlock (by decide) Lb.four (fun cs x m => open_lb cs x m) h0 w0
  obtain ⟨hd, rfl, sh, _, dd⟩ := open_points (ao := ah) (n := nh) (cap := ch) Try.underlying37 Try.underlying43 (by kernel_rfl) rfl rfl (by kernel_rfl) (by kernel_rfl) Try.underlying3 Try.underlying3 ⟨n, h1⟩
  refine ⟨⟨bs, ab, cb, hd, ah, ch⟩, rfl, ⟨sb, gb⟩, sh, ?_, ?_⟩
  · have := sb.le
    rw [show Try.prog.bytesOf 60 = 48 by kernel_rfl] at rb
    show bs.length ≤ _
    omega
  · have := sh.le
    have hc : ch * 16 ≤ 140737488351232 := by
      rcases dd with dd | ⟨el, sp, e, hc⟩
      · omega
      · have := w1 ((el.length + sp.length) * Try.prog.bytesOf 43) (by rw [e]; simp only [DataW.weights, Try.underlying37]; exact List.mem_cons_self ..)
        rw [show Try.prog.bytesOf 43 = 16 by kernel_rfl] at this
        omega
    show hd.length ≤ _
    omega

set_option maxRecDepth 100000 in
theorem light_of {H : Type} {ts : List TypeId} {ds : List (DataW H)} {j : Nat} {t : TypeId} {d : DataW H} (hsz : (DataW.weightsEach Try.prog ts ds).all (· ≤ reachBytes) = true) (ht : ts[j]? = some t) (hd : ds[j]? = some d) : Light t d := by
  intro n hn
  have h := of_decide_eq_true (List.all_eq_true.1 hsz _ (DataW.weights_mem_each ht hd n hn))
  unfold reachBytes at h
  exact h

set_option maxRecDepth 100000 in
/-- A shelf as an argument. -/
theorem open_shelf {H : Type} {enc : TypeId × Value → H} {W : World} {r : Reach} {b0 : Nat} {v : Value} {d : DataW H} {p : List MemPlace} (hv : Value.okWide Try.prog W r b0 24 v)
    (h : DataW.Trod enc Try.prog W 0 (fun _ => true) true 24 v d p) (hw : Light 24 d) :
    ∃ (l : List Lr) (ao : Option Addr) (cap : Nat), v = .agg #[.slice ao l.length cap] ∧ SlR W ao cap l ∧ cap * 48 ≤ 140737488351232 := by
  obtain ⟨cs, rfl, hs⟩ := okWide_struct Try.underlying24 hv
  rw [show Try.prog.cellsOf 24 = 1 by kernel_rfl] at hs
  obtain ⟨c0, rfl⟩ : ∃ c, cs = #[c] := by
    obtain ⟨l⟩ := cs
    match l, hs with
    | [c], _ => exact ⟨c, rfl⟩
  obtain ⟨fuel, hf⟩ := h
  obtain ⟨y0, n, hx, _, h0⟩ := trod_struct1 Try.underlying24 hf
  simp only [show Try.prog.cellsOf 22 = 1 by kernel_rfl, Value.cells, List.drop_zero, List.take_succ_cons, List.take_zero] at h0
  obtain ⟨ar, nr, cr, e0⟩ := slice_form Try.underlying22 h0
  simp at e0
  subst e0
  simp only [Prod.mk.injEq] at hx
  have w0 : Light 22 y0.1 := fun z hz => hw z (by rw [hx.1]; simp only [DataW.weights, Try.underlying24, DataW.weightsEach, List.map_cons, List.map_nil]; exact List.mem_append_left _ hz)
  obtain ⟨rs, rfl, sr, gr, rr⟩ := open_wide (ao := ar) (n := nr) (cap := cr) Lr.cells (fun y => y.Good W) Try.underlying22 cellsOfRow (by decide) Lr.two (fun cs x m => open_lr cs x m) h0 w0
  rw [show Try.prog.bytesOf 56 = 48 by kernel_rfl] at rr
  exact ⟨rs, ar, cr, rfl, ⟨sr, gr⟩, rr⟩

/-- An entry of a batch. -/
structure En where
  s : Int
  t : Int
  v : Int

def En.cells (x : En) : List Value := [.int .i64 x.s, .int .i64 x.t, .int .i64 x.v]
set_option maxRecDepth 100000 in
theorem En.three (x : En) : x.cells.length = 3 := rfl
structure En.Wf (x : En) : Prop where
  s : (Lit.int .i64 x.s).wf = true
  t : (Lit.int .i64 x.t).wf = true
  v : (Lit.int .i64 x.v).wf = true

set_option maxRecDepth 100000 in
theorem open_en {H : Type} {enc : TypeId × Value → H} {W : World} (cs : List Value) (x : DataW H × List MemPlace) (m : Nat) (hl : cs.length = 3) (h : DataW.trod enc Try.prog W 0 (fun _ => true) true m 41 cs = some x) (_ : Light 41 x.1) :
    ∃ y : En, cs = y.cells ∧ y.Wf := by
  obtain ⟨c0, c1, c2, rfl⟩ := list3 hl
  obtain ⟨y0, y1, y2, n, rfl, _, h0, h1, h2⟩ := Go.Deep.trod_struct3 Try.underlying41 h
  simp only [cellsOfInt, List.drop_zero, List.drop_succ_cons, List.take_succ_cons, List.take_zero] at h0 h1 h2
  obtain ⟨a0, e0, rfl, w0⟩ := DataW.trod_int Try.underlying3 h0
  obtain ⟨a1, e1, rfl, w1⟩ := DataW.trod_int Try.underlying3 h1
  obtain ⟨a2, e2, rfl, w2⟩ := DataW.trod_int Try.underlying3 h2
  simp at e0 e1 e2
  subst e0 e1 e2
  exact ⟨⟨a0, a1, a2⟩, rfl, w0, w1, w2⟩

set_option maxRecDepth 100000 in
theorem open_entries {H : Type} {enc : TypeId × Value → H} {W : World} {ao : Option Addr} {n cap : Nat} {d : DataW H} {ps : List MemPlace}
    (h : DataW.Trod enc Try.prog W 0 (fun _ => true) true 25 (.slice ao n cap) d ps) (hw : Light 25 d) :
    ∃ l : List En, l.length = n ∧ SlW En.cells W ao cap l ∧ (∀ x ∈ l, x.Wf) ∧ cap * 24 ≤ 140737488351232 := by
  obtain ⟨fuel, hf⟩ := h
  obtain ⟨l, hl, s, g, r⟩ := open_wide (ao := ao) (n := n) (cap := cap) En.cells En.Wf Try.underlying25 (by kernel_rfl) (by decide) En.three (fun cs x m => open_en cs x m) (by simpa [Value.cells] using hf) hw
  rw [show Try.prog.bytesOf 41 = 24 by kernel_rfl] at r
  exact ⟨l, hl, s, g, r⟩

end Go.Proofs.Ytabeihkfjlmepaa
