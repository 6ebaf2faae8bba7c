/-
  Seal and merge change no points of a row: plain lists. No program is named.
-/
import Derived.Lib.SmallJoins
import Derived.Test.YtnpikbpngohimaaP05
import Derived.Test.YtnpikbpngohimaaP04
import Derived.Test.YtnpikbpngohimaaP01
namespace Go.Proofs.Ytnpikbpngohimaa
open Go.RowKit

theorem blksE_append : ∀ a b : List Bk, blksE (a ++ b) = if blksE a = 0 then blksE b else blksE a
  | [], b => by simp [blksE]
  | x :: r, b => by
    rw [List.cons_append, blksE, blksE, blksE_append r b]
    split
    · rfl
    · rfl

theorem blksL_append (a b : List Bk) : blksL (a ++ b) = blksL a ++ blksL b := by unfold blksL; rw [List.flatMap_append]

theorem rowE_of {r : Rw} (h1 : r.blocks.length ≤ 8) (h2 : blksE r.blocks = 0) (h3 : checkE (allPts r) = 0) : rowE r = 0 := by
  unfold rowE
  rw [if_neg (by omega), if_pos h2]
  exact h3

theorem blksE_mem : ∀ {l : List Bk}, blksE l = 0 → ∀ b ∈ l, ptsE b = 0
  | [], _, b, hb => by simp at hb
  | x :: r, h, b, hb => by
    unfold blksE at h
    split at h
    · rename_i h0
      rcases List.mem_cons.1 hb with rfl | hb
      · exact h0
      · exact blksE_mem h b hb
    · rename_i h0
      exact absurd h h0

theorem row_seal {r : Rw} (h : rowE r = 0) (q : Nat) (h1 : 1 ≤ q) (h2 : q ≤ r.head.length) (hb : r.blocks.length < 8) :
    rowE ⟨r.blocks ++ [makeB (r.head.take q)], r.head.drop q⟩ = 0 ∧ allPts ⟨r.blocks ++ [makeB (r.head.take q)], r.head.drop q⟩ = allPts r := by
  obtain ⟨_, z2, z3⟩ := rowE_zero h
  have c1 := check_drop z3 (blksL r.blocks).length
  unfold allPts at c1
  rw [List.drop_left' rfl] at c1
  obtain ⟨p1, p2⟩ := pts_make (check_take c1 q) (by rw [List.length_take]; omega)
  have e : allPts ⟨r.blocks ++ [makeB (r.head.take q)], r.head.drop q⟩ = allPts r := by
    unfold allPts
    simp only [blksL_append]
    rw [show blksL [makeB (r.head.take q)] = r.head.take q by unfold blksL; simp [p2], List.append_assoc, List.take_append_drop]
  refine ⟨rowE_of (by simp only [List.length_append, List.length_singleton]; omega) ?_ (by rw [e]; exact z3), e⟩
  simp only [blksE_append, z2, if_true]
  rw [blksE, if_pos p1, blksE]

theorem row_merge {r : Rw} (h : rowE r = 0) (q : Nat) (x y : Bk) (hx : r.blocks[q]? = some x) (hy : r.blocks[q + 1]? = some y) :
    rowE ⟨r.blocks.take q ++ mergeB x y :: r.blocks.drop (q + 2), r.head⟩ = 0 ∧ allPts ⟨r.blocks.take q ++ mergeB x y :: r.blocks.drop (q + 2), r.head⟩ = allPts r := by
  obtain ⟨z1, z2, z3⟩ := rowE_zero h
  have hsplit : r.blocks = r.blocks.take q ++ (x :: y :: r.blocks.drop (q + 2)) := by
    have e1 : r.blocks.drop q = x :: r.blocks.drop (q + 1) := by
      obtain ⟨h', rfl⟩ := List.getElem?_eq_some_iff.1 hx
      exact List.drop_eq_getElem_cons h'
    have e2 : r.blocks.drop (q + 1) = y :: r.blocks.drop (q + 2) := by
      obtain ⟨h', rfl⟩ := List.getElem?_eq_some_iff.1 hy
      exact List.drop_eq_getElem_cons h'
    rw [← e2, ← e1, List.take_append_drop]
  have px := blksE_mem z2 x (List.mem_of_getElem? hx)
  have py := blksE_mem z2 y (List.mem_of_getElem? hy)
  generalize r.blocks.take q = A at *
  generalize r.blocks.drop (q + 2) = D at *
  have eall : allPts r = blksL A ++ ((ptsL x ++ ptsL y) ++ (blksL D ++ r.head)) := by
    unfold allPts
    rw [hsplit, blksL_append]
    unfold blksL
    simp [List.append_assoc]
  have c1 := check_drop z3 (blksL A).length
  rw [eall, List.drop_left' rfl] at c1
  have c2 := check_take c1 (ptsL x ++ ptsL y).length
  rw [List.take_left' rfl] at c2
  have lp : 0 < (ptsL x ++ ptsL y).length := by rw [List.length_append]; have := ptsL_pos px; omega
  obtain ⟨p1, p2⟩ := pts_make c2 lp
  have em : mergeB x y = makeB (ptsL x ++ ptsL y) := by unfold mergeB; rw [if_pos ⟨px, py⟩]
  have e : allPts ⟨A ++ mergeB x y :: D, r.head⟩ = allPts r := by
    rw [eall, em]
    unfold allPts
    simp only [blksL_append]
    rw [show blksL (makeB (ptsL x ++ ptsL y) :: D) = (ptsL x ++ ptsL y) ++ blksL D by unfold blksL; rw [List.flatMap_cons, p2], List.append_assoc, List.append_assoc]
  have zz := z2
  rw [hsplit, blksE_append] at zz
  have zA : blksE A = 0 := by
    by_cases h0 : blksE A = 0
    · exact h0
    · rw [if_neg h0] at zz
      exact zz
  rw [if_pos zA, blksE, if_pos px, blksE, if_pos py] at zz
  refine ⟨rowE_of ?_ ?_ (by rw [e]; exact z3), e⟩
  · have := z1
    rw [hsplit] at this
    simp only [List.length_append, List.length_cons] at this ⊢
    omega
  · simp only [blksE_append, zA, if_true]
    rw [em, blksE, if_pos p1]
    exact zz

end Go.Proofs.Ytnpikbpngohimaa

/-
  How arguments that are shelves, by value, and slices of entries are opened.
-/
namespace Go.Proofs.Ytnpikbpngohimaa
open Go.RowKit Go.ChangeShapes Go.WideShapes Go.ChangeAt Go.Joins

set_option maxRecDepth 100000 in
theorem list2 {α : Type} {cs : List α} (h : cs.length = 2) : ∃ c0 c1, cs = [c0, c1] := by
  match cs, h with
  | [c0, c1], _ => exact ⟨c0, c1, rfl⟩
set_option maxRecDepth 100000 in
theorem list3 {α : Type} {cs : List α} (h : cs.length = 3) : ∃ c0 c1 c2, cs = [c0, c1, c2] := by
  match cs, h with
  | [c0, c1, c2], _ => exact ⟨c0, c1, c2, rfl⟩
set_option maxRecDepth 100000 in
theorem list4 {α : Type} {cs : List α} (h : cs.length = 4) : ∃ c0 c1 c2 c3, cs = [c0, c1, c2, c3] := by
  match cs, h with
  | [c0, c1, c2, c3], _ => exact ⟨c0, c1, c2, c3, rfl⟩

set_option maxRecDepth 100000 in
theorem cellsOfBool : Try.prog.cellsOf 4 = 1 := by kernel_rfl
set_option maxRecDepth 100000 in
theorem cellsOfBlock : Try.prog.cellsOf 83 = 4 := by kernel_rfl
set_option maxRecDepth 100000 in
theorem cellsOfRow : Try.prog.cellsOf 41 = 2 := by kernel_rfl
set_option maxRecDepth 100000 in
theorem cellsOfInt : Try.prog.cellsOf 3 = 1 := by kernel_rfl
set_option maxRecDepth 100000 in
theorem cellsOfBools : Try.prog.cellsOf 81 = 1 := by kernel_rfl
set_option maxRecDepth 100000 in
theorem cellsOfBlocks : Try.prog.cellsOf 39 = 1 := by kernel_rfl
set_option maxRecDepth 100000 in
theorem cellsOfPoints : Try.prog.cellsOf 26 = 1 := by kernel_rfl

set_option maxRecDepth 100000 in
/-- One block, by its cells. -/
theorem open_lb {H : Type} {enc : TypeId × Value → H} {W : World} (cs : List Value) (x : DataW H × List MemPlace) (m : Nat) (hl : cs.length = 4) (h : DataW.trod enc Try.prog W 0 (fun _ => true) true m 83 cs = some x) (hw : Light 83 x.1) :
    ∃ y : Lb, cs = y.cells ∧ y.Good W := by
  obtain ⟨c0, c1, c2, c3, rfl⟩ := list4 hl
  obtain ⟨y0, y1, y2, y3, n, rfl, _, h0, h1, h2, h3⟩ := trod_struct4 Try.underlying83 h
  simp only [cellsOfInt, cellsOfBools, List.drop_zero, List.drop_succ_cons, List.take_succ_cons, List.take_zero] at h0 h1 h2 h3
  obtain ⟨a0, e0, rfl, w0⟩ := DataW.trod_int Try.underlying3 h0
  obtain ⟨a1, e1, rfl, w1⟩ := DataW.trod_int Try.underlying3 h1
  obtain ⟨a2, e2, rfl, w2⟩ := DataW.trod_int Try.underlying3 h2
  obtain ⟨ao, k, cap, e3⟩ := slice_form Try.underlying81 h3
  simp at e0 e1 e2 e3
  subst e0 e1 e2 e3
  obtain ⟨l, rfl, s, dd⟩ := open_bools (ao := ao) (n := k) (cap := cap) Try.underlying81 Try.underlying4 cellsOfBool ⟨n, h3⟩
  refine ⟨⟨⟨a0, a1, a2, l⟩, ao, cap⟩, rfl, s, ?_⟩
  have hle := s.le
  rw [List.length_map] at hle
  have : cap ≤ 140737488351232 := by
    rcases dd with dd | ⟨el, sp, e, hc⟩
    · omega
    · have := hw ((el.length + sp.length) * Try.prog.bytesOf 4) (by
        simp only [e, DataW.weights, Try.underlying83, DataW.weightsEach, List.map_cons, List.map_nil, Try.underlying81]
        simp)
      rw [show Try.prog.bytesOf 4 = 1 by kernel_rfl] at this
      omega
  show l.length ≤ _
  omega

set_option maxRecDepth 100000 in
/-- One row, by its cells. -/
theorem open_lr {H : Type} {enc : TypeId × Value → H} {W : World} (cs : List Value) (x : DataW H × List MemPlace) (m : Nat) (hl : cs.length = 2) (h : DataW.trod enc Try.prog W 0 (fun _ => true) true m 41 cs = some x) (hw : Light 41 x.1) :
    ∃ r : Lr, cs = r.cells ∧ r.Good W := by
  obtain ⟨c0, c1, rfl⟩ := list2 hl
  obtain ⟨y0, y1, n, rfl, _, h0, h1⟩ := trod_struct2 Try.underlying41 h
  simp only [cellsOfBlocks, cellsOfPoints, List.drop_zero, List.drop_succ_cons, List.take_succ_cons, List.take_zero] at h0 h1
  obtain ⟨ab, nb, cb, e0⟩ := slice_form Try.underlying39 h0
  obtain ⟨ah, nh, ch, e1⟩ := slice_form Try.underlying26 h1
  simp at e0 e1
  subst e0 e1
  have w0 : Light 39 y0.1 := fun z hz => hw z (by simp only [DataW.weights, Try.underlying41, DataW.weightsEach, List.map_cons, List.map_nil]; exact List.mem_append_left _ hz)
  have w1 : Light 26 y1.1 := fun z hz => hw z (by simp only [DataW.weights, Try.underlying41, DataW.weightsEach, List.map_cons, List.map_nil]; exact List.mem_append_right _ (List.mem_append_left _ hz))
  obtain ⟨bs, rfl, sb, gb, rb⟩ := open_wide (ao := ab) (n := nb) (cap := cb) Lb.cells (fun y => y.Good W) Try.underlying39 cellsOfBlock (by decide) Lb.four (fun cs x m => open_lb cs x m) h0 w0
  obtain ⟨hd, rfl, sh, _, dd⟩ := open_points (ao := ah) (n := nh) (cap := ch) Try.underlying26 Try.underlying44 (by kernel_rfl) rfl rfl (by kernel_rfl) (by kernel_rfl) Try.underlying3 Try.underlying3 ⟨n, h1⟩
  refine ⟨⟨bs, ab, cb, hd, ah, ch⟩, rfl, ⟨sb, gb⟩, sh, ?_, ?_⟩
  · have := sb.le
    rw [show Try.prog.bytesOf 83 = 48 by kernel_rfl] at rb
    show bs.length ≤ _
    omega
  · have := sh.le
    have hc : ch * 16 ≤ 140737488351232 := by
      rcases dd with dd | ⟨el, sp, e, hc⟩
      · omega
      · have := w1 ((el.length + sp.length) * Try.prog.bytesOf 44) (by rw [e]; simp only [DataW.weights, Try.underlying26]; exact List.mem_cons_self ..)
        rw [show Try.prog.bytesOf 44 = 16 by kernel_rfl] at this
        omega
    show hd.length ≤ _
    omega

set_option maxRecDepth 100000 in
theorem light_of {H : Type} {ts : List TypeId} {ds : List (DataW H)} {j : Nat} {t : TypeId} {d : DataW H} (hsz : (DataW.weightsEach Try.prog ts ds).all (· ≤ reachBytes) = true) (ht : ts[j]? = some t) (hd : ds[j]? = some d) : Light t d := by
  intro n hn
  have h := of_decide_eq_true (List.all_eq_true.1 hsz _ (DataW.weights_mem_each ht hd n hn))
  unfold reachBytes at h
  exact h

set_option maxRecDepth 100000 in
/-- A shelf as an argument. -/
theorem open_shelf {H : Type} {enc : TypeId × Value → H} {W : World} {r : Reach} {b0 : Nat} {v : Value} {d : DataW H} {p : List MemPlace} (hv : Value.okWide Try.prog W r b0 24 v)
    (h : DataW.Trod enc Try.prog W 0 (fun _ => true) true 24 v d p) (hw : Light 24 d) :
    ∃ (l : List Lr) (ao : Option Addr) (cap : Nat), v = .agg #[.slice ao l.length cap] ∧ SlR W ao cap l ∧ cap * 48 ≤ 140737488351232 := by
  obtain ⟨cs, rfl, hs⟩ := okWide_struct Try.underlying24 hv
  rw [show Try.prog.cellsOf 24 = 1 by kernel_rfl] at hs
  obtain ⟨c0, rfl⟩ : ∃ c, cs = #[c] := by
    obtain ⟨l⟩ := cs
    match l, hs with
    | [c], _ => exact ⟨c, rfl⟩
  obtain ⟨fuel, hf⟩ := h
  obtain ⟨y0, n, hx, _, h0⟩ := trod_struct1 Try.underlying24 hf
  simp only [show Try.prog.cellsOf 22 = 1 by kernel_rfl, Value.cells, List.drop_zero, List.take_succ_cons, List.take_zero] at h0
  obtain ⟨ar, nr, cr, e0⟩ := slice_form Try.underlying22 h0
  simp at e0
  subst e0
  simp only [Prod.mk.injEq] at hx
  have w0 : Light 22 y0.1 := fun z hz => hw z (by rw [hx.1]; simp only [DataW.weights, Try.underlying24, DataW.weightsEach, List.map_cons, List.map_nil]; exact List.mem_append_left _ hz)
  obtain ⟨rs, rfl, sr, gr, rr⟩ := open_wide (ao := ar) (n := nr) (cap := cr) Lr.cells (fun y => y.Good W) Try.underlying22 cellsOfRow (by decide) Lr.two (fun cs x m => open_lr cs x m) h0 w0
  rw [show Try.prog.bytesOf 41 = 48 by kernel_rfl] at rr
  exact ⟨rs, ar, cr, rfl, ⟨sr, gr⟩, rr⟩

/-- An entry of a batch. -/
structure En where
  s : Int
  t : Int
  v : Int

def En.cells (x : En) : List Value := [.int .i64 x.s, .int .i64 x.t, .int .i64 x.v]
set_option maxRecDepth 100000 in
theorem En.three (x : En) : x.cells.length = 3 := rfl
structure En.Wf (x : En) : Prop where
  s : (Lit.int .i64 x.s).wf = true
  t : (Lit.int .i64 x.t).wf = true
  v : (Lit.int .i64 x.v).wf = true

set_option maxRecDepth 100000 in
theorem open_en {H : Type} {enc : TypeId × Value → H} {W : World} (cs : List Value) (x : DataW H × List MemPlace) (m : Nat) (hl : cs.length = 3) (h : DataW.trod enc Try.prog W 0 (fun _ => true) true m 49 cs = some x) (_ : Light 49 x.1) :
    ∃ y : En, cs = y.cells ∧ y.Wf := by
  obtain ⟨c0, c1, c2, rfl⟩ := list3 hl
  obtain ⟨y0, y1, y2, n, rfl, _, h0, h1, h2⟩ := Go.Deep.trod_struct3 Try.underlying49 h
  simp only [cellsOfInt, List.drop_zero, List.drop_succ_cons, List.take_succ_cons, List.take_zero] at h0 h1 h2
  obtain ⟨a0, e0, rfl, w0⟩ := DataW.trod_int Try.underlying3 h0
  obtain ⟨a1, e1, rfl, w1⟩ := DataW.trod_int Try.underlying3 h1
  obtain ⟨a2, e2, rfl, w2⟩ := DataW.trod_int Try.underlying3 h2
  simp at e0 e1 e2
  subst e0 e1 e2
  exact ⟨⟨a0, a1, a2⟩, rfl, w0, w1, w2⟩

set_option maxRecDepth 100000 in
theorem open_entries {H : Type} {enc : TypeId × Value → H} {W : World} {ao : Option Addr} {n cap : Nat} {d : DataW H} {ps : List MemPlace}
    (h : DataW.Trod enc Try.prog W 0 (fun _ => true) true 25 (.slice ao n cap) d ps) (hw : Light 25 d) :
    ∃ l : List En, l.length = n ∧ SlW En.cells W ao cap l ∧ (∀ x ∈ l, x.Wf) ∧ cap * 24 ≤ 140737488351232 := by
  obtain ⟨fuel, hf⟩ := h
  obtain ⟨l, hl, s, g, r⟩ := open_wide (ao := ao) (n := n) (cap := cap) En.cells En.Wf Try.underlying25 (by kernel_rfl) (by decide) En.three (fun cs x m => open_en cs x m) (by simpa [Value.cells] using hf) hw
  rw [show Try.prog.bytesOf 49 = 24 by kernel_rfl] at r
  exact ⟨l, hl, s, g, r⟩

end Go.Proofs.Ytnpikbpngohimaa

/-
  What a batch makes of a shelf, as plain lists; how a copy of a shelf stays. No function of the program is named.
-/
namespace Go.Proofs.Ytnpikbpngohimaa
open Go.RowKit

def putRow (l : List Rw) (x : En) : Rw := ⟨(l.getD x.s.toNat rw0).blocks, (l.getD x.s.toNat rw0).head ++ [(x.t, x.v)]⟩

def putRowE (l : List Rw) (x : En) : Int := if inI x.s 0 3 = false then 5 else rowE (putRow l x)

def putRowL (l : List Rw) (x : En) : List Rw := l.set x.s.toNat (putRow l x)

def putsE : List Rw → List En → Int
  | _, [] => 0
  | l, x :: r => if putRowE l x = 0 then putsE (putRowL l x) r else putRowE l x

def putsL : List Rw → List En → List Rw
  | l, [] => l
  | l, x :: r => putsL (putRowL l x) r

def bputE (l : List Rw) (b : List En) : Int := if 10 < b.length then 2 else putsE l b

def bputL (l : List Rw) (b : List En) : List Rw := if bputE l b = 0 then putsL l b else []

theorem putRowE_zero {l : List Rw} {x : En} (h : putRowE l x = 0) : inI x.s 0 3 = true ∧ rowE (putRow l x) = 0 := by
  unfold putRowE at h
  split at h
  · cases h
  · rename_i h0
    exact ⟨by simpa using h0, h⟩

theorem Right.put {l : List Rw} (h : Right l) {x : En} (hx : putRowE l x = 0) : Right (putRowL l x) := by
  obtain ⟨_, h1⟩ := putRowE_zero hx
  obtain ⟨z1, z2, z3⟩ := rowE_zero h1
  refine ⟨by unfold putRowL; rw [List.length_set]; exact h.four, fun r hr => ?_⟩
  rcases List.mem_or_eq_of_mem_set hr with hr | rfl
  · exact h.few r hr
  · have := (checkE_zero z3).1
    unfold allPts at this
    rw [List.length_append] at this
    exact ⟨z1, by omega⟩

theorem inI_nat {s : Int} (h : inI s 0 3 = true) : ∃ k : Nat, s = k ∧ k < 4 := by
  unfold inI at h
  have : 0 ≤ s ∧ s ≤ 3 := by simpa using h
  exact ⟨s.toNat, by omega, by omega⟩

end Go.Proofs.Ytnpikbpngohimaa

/-
  What a drop makes of a shelf, as plain lists. No program is named.
-/
namespace Go.Proofs.Ytnpikbpngohimaa
open Go.RowKit

def dropE (n : Int) : Int := if inI n 0 100001 = false then 3 else 0

def dropRw (n : Int) (r : Rw) : Rw := ⟨r.blocks.filter (fun b => !decide (b.to < n)), r.head⟩

def dropL (l : List Rw) (n : Int) : List Rw := if dropE n = 0 then l.map (dropRw n) else []

end Go.Proofs.Ytnpikbpngohimaa

/-
  What a batch, a seal, a merge and a drop do to the points of each series, as plain lists. No program is named.
-/
namespace Go.Proofs.Ytnpikbpngohimaa
open Go.RowKit

/-- What a batch says of one series. -/
def entPts (s : Int) (L : List En) : List Pt := (L.filter (fun x => decide (x.s = s))).map (fun x => (x.t, x.v))

theorem rowsE_of : ∀ {l : List Rw}, (∀ r ∈ l, rowE r = 0) → rowsE l = 0
  | [], _ => rfl
  | x :: l, h => by
    unfold rowsE
    rw [if_pos (h x List.mem_cons_self)]
    exact rowsE_of (fun r hr => h r (List.mem_cons_of_mem _ hr))

theorem shelfE_of {l : List Rw} (h4 : l.length = 4) (h : ∀ r ∈ l, rowE r = 0) : shelfE l = 0 := by
  unfold shelfE
  rw [if_pos h4]
  exact rowsE_of h

theorem shelfE_mem {l : List Rw} (h : shelfE l = 0) : l.length = 4 ∧ ∀ r ∈ l, rowE r = 0 :=
  ⟨(shelfE_zero h).1, rowsE_zero (shelfE_zero h).2⟩

theorem getD_mem {l : List Rw} {k : Nat} (hk : k < l.length) : l.getD k rw0 ∈ l := by
  rw [List.getD, List.getElem?_eq_getElem hk]
  exact List.getElem_mem hk

theorem shelfE_set {l : List Rw} {k : Nat} {r : Rw} (h : shelfE l = 0) (hr : rowE r = 0) : shelfE (l.set k r) = 0 := by
  obtain ⟨h4, hm⟩ := shelfE_mem h
  refine shelfE_of (by rw [List.length_set]; exact h4) (fun x hx => ?_)
  rcases List.mem_or_eq_of_mem_set hx with hx | rfl
  · exact hm x hx
  · exact hr

theorem getD_set {l : List Rw} {k j : Nat} {r : Rw} (hk : k < l.length) : (l.set k r).getD j rw0 = if j = k then r else l.getD j rw0 := by
  rw [List.getD, List.getD]
  by_cases h : j = k
  · subst h
    rw [if_pos rfl, List.getElem?_set_self hk]
    rfl
  · rw [if_neg h, List.getElem?_set_ne (fun e => h e.symm)]

theorem puts_all : ∀ (L : List En) (l : List Rw), l.length = 4 → putsE l L = 0 → ∀ s : Nat, s < 4 → allPts ((putsL l L).getD s rw0) = allPts (l.getD s rw0) ++ entPts s L
  | [], l, _, _, s, _ => by simp [putsL, entPts]
  | x :: r, l, h4, h, s, hs => by
    unfold putsE at h
    split at h
    · rename_i h0
      obtain ⟨h1, _⟩ := putRowE_zero h0
      obtain ⟨k, ek, hk⟩ := inI_nat h1
      have ih := puts_all r (putRowL l x) (by unfold putRowL; rw [List.length_set]; exact h4) h s hs
      rw [putsL, ih]
      unfold putRowL
      rw [getD_set (by rw [ek, Int.toNat_natCast, h4]; exact hk)]
      unfold entPts
      by_cases e : s = k
      · subst e
        rw [if_pos (by rw [ek, Int.toNat_natCast]), List.filter_cons_of_pos (by simpa using ek), List.map_cons]
        unfold putRow allPts
        rw [ek, Int.toNat_natCast]
        simp only [List.append_assoc, List.cons_append, List.nil_append]
      · rw [if_neg (by rw [ek, Int.toNat_natCast]; exact e), List.filter_cons_of_neg (by simp [ek]; omega)]
    · rename_i h0
      exact absurd h h0

theorem puts_shelf : ∀ (L : List En) (l : List Rw), shelfE l = 0 → putsE l L = 0 → shelfE (putsL l L) = 0
  | [], l, h, _ => h
  | x :: r, l, h, h' => by
    unfold putsE at h'
    split at h'
    · rename_i h0
      exact puts_shelf r _ (shelfE_set h (putRowE_zero h0).2) h'
    · rename_i h0
      exact absurd h' h0

theorem bput_zero {l : List Rw} {L : List En} (h : bputE l L = 0) : L.length ≤ 10 ∧ putsE l L = 0 ∧ bputL l L = putsL l L := by
  have h' := h
  unfold bputE at h
  split at h
  · cases h
  · exact ⟨by omega, h, by unfold bputL; rw [if_pos h']⟩

theorem seal_zero {l : List Rw} {s n : Int} (h : shelfE l = 0) (hs : sealE l s n = 0) :
    shelfE (sealL l s n) = 0 ∧ ∀ j : Nat, allPts ((sealL l s n).getD j rw0) = allPts (l.getD j rw0) := by
  have hs' := hs
  unfold sealE at hs
  split at hs
  · cases hs
  · rename_i h0
    split at hs
    · cases hs
    · rename_i h1
      split at hs
      · cases hs
      · rename_i h2
        obtain ⟨k, rfl, hk⟩ := inI_nat (by simpa using h0)
        rw [Int.toNat_natCast] at h1 h2
        have hn : 1 ≤ n ∧ n ≤ (l.getD k rw0).head.length := by
          have : inI n 1 (l.getD k rw0).head.length = true := by simpa using h1
          exact of_decide_eq_true this
        obtain ⟨h4, hm⟩ := shelfE_mem h
        have hr := hm _ (getD_mem (l := l) (k := k) (by omega))
        obtain ⟨a1, a2⟩ := row_seal hr n.toNat (by omega) (by omega) (by omega)
        unfold sealL
        rw [if_pos hs', Int.toNat_natCast]
        refine ⟨shelfE_set h a1, fun j => ?_⟩
        rw [getD_set (by omega)]
        split
        · rename_i e
          rw [e, a2]
        · rfl

theorem blk_get {r : Rw} {q : Nat} (h : q < r.blocks.length) : r.blocks[q]? = some (blkAt r q) := by
  unfold blkAt
  rw [List.getD, List.getElem?_eq_getElem h]
  rfl

theorem mrg_zero {l : List Rw} {s n : Int} (h : shelfE l = 0) (hs : mrgE l s n = 0) :
    shelfE (mrgL l s n) = 0 ∧ ∀ j : Nat, allPts ((mrgL l s n).getD j rw0) = allPts (l.getD j rw0) := by
  have hs' := hs
  unfold mrgE at hs
  split at hs
  · cases hs
  · rename_i h0
    split at hs
    · cases hs
    · rename_i h1
      obtain ⟨k, rfl, hk⟩ := inI_nat (by simpa using h0)
      rw [Int.toNat_natCast] at h1 hs
      have hn : 0 ≤ n ∧ n ≤ (l.getD k rw0).blocks.length - 2 := by
        have : inI n 0 ((l.getD k rw0).blocks.length - 2) = true := by simpa using h1
        exact of_decide_eq_true this
      obtain ⟨q, rfl⟩ := Int.eq_ofNat_of_zero_le hn.1
      obtain ⟨h4, hm⟩ := shelfE_mem h
      have hr := hm _ (getD_mem (l := l) (k := k) (by omega))
      rw [Int.toNat_natCast] at hs
      have b0 := blk_get (r := l.getD k rw0) (q := q) (by omega)
      have b1 := blk_get (r := l.getD k rw0) (q := q + 1) (by omega)
      obtain ⟨a1, a2⟩ := row_merge hr q _ _ b0 b1
      unfold mrgL
      rw [if_pos hs', Int.toNat_natCast, Int.toNat_natCast]
      refine ⟨shelfE_set h a1, fun j => ?_⟩
      rw [getD_set (by omega)]
      split
      · rename_i e
        rw [e, a2]
      · rfl

/-- Points that are right rise by time. -/
theorem chk_rises : ∀ (l : List Pt) (a : Int), chk a l = 0 → l.Pairwise (fun p q => p.1 < q.1) ∧ ∀ p ∈ l, a < p.1 ∧ ptOk p = true
  | [], _, _ => ⟨List.Pairwise.nil, fun p hp => by simp at hp⟩
  | p :: r, a, h => by
    obtain ⟨h1, h2, h3⟩ := chk_cons h
    obtain ⟨i1, i2⟩ := chk_rises r p.1 h3
    refine ⟨List.Pairwise.cons (fun q hq => (i2 q hq).1) i1, fun q hq => ?_⟩
    rcases List.mem_cons.1 hq with rfl | hq
    · exact ⟨h2, h1⟩
    · exact ⟨by have := (i2 q hq).1; omega, (i2 q hq).2⟩

theorem check_rises {l : List Pt} (h : checkE l = 0) : l.Pairwise (fun p q => p.1 < q.1) ∧ ∀ p ∈ l, ptOk p = true := by
  unfold checkE at h
  split at h
  · cases h
  · obtain ⟨h1, h2⟩ := chk_rises l _ h
    exact ⟨h1, fun p hp => (h2 p hp).2⟩

theorem pts_to {b : Bk} (h : ptsE b = 0) : b.to = endT (ptsL b) := by
  have h' := h
  unfold ptsE at h
  split at h
  · split at h
    · rename_i hf
      have := (of_decide_eq_true hf : 0 < _ ∧ _).2.2
      unfold ptsL
      rw [if_pos h']
      exact this
    · cases h
  · rename_i hn
    exact absurd h hn

theorem endT_mem {l : List Pt} (h : 0 < l.length) : ∃ p ∈ l, p.1 = endT l ∧ l.getLast? = some p := by
  have hk : l.length - 1 < l.length := by omega
  refine ⟨l[l.length - 1], List.getElem_mem hk, ?_, ?_⟩
  · unfold endT
    rw [List.getD, List.getElem?_eq_getElem hk]
    rfl
  · rw [List.getLast?_eq_getElem?, List.getElem?_eq_getElem hk]

theorem rises_end {l : List Pt} (h : l.Pairwise (fun p q => p.1 < q.1)) (p : Pt) (hp : p ∈ l) : p.1 ≤ endT l := by
  obtain ⟨i, hi, rfl⟩ := List.mem_iff_getElem.1 hp
  unfold endT
  have hk : l.length - 1 < l.length := by omega
  rw [List.getD, List.getElem?_eq_getElem hk]
  show l[i].1 ≤ l[l.length - 1].1
  by_cases e : i = l.length - 1
  · subst e
    exact Int.le_refl _
  · exact Int.le_of_lt (List.pairwise_iff_getElem.1 h i (l.length - 1) hi hk (by omega))

/-- The blocks that go are the first ones. -/
theorem drop_blocks (n : Int) : ∀ (bs : List Bk), blksE bs = 0 → (blksL bs).Pairwise (fun p q => p.1 < q.1) →
    ∃ A B, bs = A ++ B ∧ bs.filter (fun b => !decide (b.to < n)) = B ∧ ∀ p ∈ blksL A, p.1 < n
  | [], _, _ => ⟨[], [], rfl, rfl, fun p hp => by simp [blksL] at hp⟩
  | b :: r, h, hp => by
    unfold blksE at h
    split at h
    · rename_i h0
      have hl : blksL (b :: r) = ptsL b ++ blksL r := rfl
      rw [hl, List.pairwise_append] at hp
      obtain ⟨p1, p2, p3⟩ := hp
      have et := pts_to h0
      have pos := ptsL_pos h0
      by_cases hb : b.to < n
      · obtain ⟨A, B, e1, e2, e3⟩ := drop_blocks n r h p2
        refine ⟨b :: A, B, by rw [e1]; rfl, by rw [List.filter_cons_of_neg (by simpa using hb)]; exact e2, fun p hp => ?_⟩
        rw [show blksL (b :: A) = ptsL b ++ blksL A from rfl, List.mem_append] at hp
        rcases hp with hp | hp
        · have := rises_end p1 p hp
          omega
        · exact e3 p hp
      · refine ⟨[], b :: r, rfl, ?_, fun p hp => by simp [blksL] at hp⟩
        rw [List.filter_eq_self]
        intro c hc
        rcases List.mem_cons.1 hc with rfl | hc
        · simpa using hb
        · have hc0 := blksE_mem h c hc
          obtain ⟨q, hq, eq, _⟩ := endT_mem (ptsL_pos hc0)
          obtain ⟨u, hu, eu, _⟩ := endT_mem pos
          have := p3 u hu q (List.mem_flatMap.2 ⟨c, hc, hq⟩)
          have ec := pts_to hc0
          have : ¬ c.to < n := by omega
          simpa using this
    · rename_i h0
      exact absurd h h0

theorem drop_row {n : Int} {r : Rw} (h : rowE r = 0) : rowE (dropRw n r) = 0 ∧ ∃ m, m ≤ (allPts r).length ∧ allPts (dropRw n r) = (allPts r).drop m ∧ ∀ p ∈ (allPts r).take m, p.1 < n := by
  obtain ⟨z1, z2, z3⟩ := rowE_zero h
  have hr := (check_rises z3).1
  unfold allPts at hr
  rw [List.pairwise_append] at hr
  obtain ⟨A, B, e1, e2, e3⟩ := drop_blocks n r.blocks z2 hr.1
  have ea : allPts (dropRw n r) = (allPts r).drop (blksL A).length := by
    unfold allPts dropRw
    simp only
    rw [e2]
    conv => rhs; rw [e1, blksL_append, List.append_assoc, List.drop_left' rfl]
  have zB : blksE B = 0 := by
    rw [e1, blksE_append] at z2
    by_cases h0 : blksE A = 0
    · rwa [if_pos h0] at z2
    · rw [if_neg h0] at z2
      exact absurd z2 h0
  refine ⟨rowE_of ?_ (by show blksE (r.blocks.filter _) = 0; rw [e2]; exact zB) (by rw [ea]; exact check_drop z3 _), (blksL A).length, ?_, ea, ?_⟩
  · show (r.blocks.filter _).length ≤ 8
    exact Nat.le_trans (List.length_filter_le _ _) z1
  · unfold allPts
    rw [e1, blksL_append, List.length_append, List.length_append]
    omega
  · intro p hp
    unfold allPts at hp
    rw [e1, blksL_append, List.append_assoc, List.take_left' rfl] at hp
    exact e3 p hp

theorem drop_zero {l : List Rw} {n : Int} (h : shelfE l = 0) : shelfE (l.map (dropRw n)) = 0 ∧ ∀ j : Nat, j < 4 → (l.map (dropRw n)).getD j rw0 = dropRw n (l.getD j rw0) := by
  obtain ⟨h4, hm⟩ := shelfE_mem h
  refine ⟨shelfE_of (by rw [List.length_map]; exact h4) (fun r hr => ?_), fun j hj => ?_⟩
  · obtain ⟨x, hx, rfl⟩ := List.mem_map.1 hr
    exact (drop_row (hm x hx)).1
  · rw [List.getD, List.getD, List.getElem?_map, List.getElem?_eq_getElem (by omega)]
    rfl

end Go.Proofs.Ytnpikbpngohimaa

/-
  More of sums as plain numbers: sums of parts, whichever is joined first; the least and the greatest of few small numbers, and all together between.
-/
namespace Go.Proofs.Ytnpikbpngohimaa
open Go.RowKit

theorem joinS_nil (a b : Sm) (h : a.n = 0) : joinS a b = b := if_pos h
theorem joinS_end (a b : Sm) (h : a.n ≠ 0) (h2 : b.n = 0) : joinS a b = a := by
  unfold joinS
  rw [if_neg h, if_pos h2]
theorem joinS_both (a b : Sm) (h : a.n ≠ 0) (h2 : b.n ≠ 0) : joinS a b = ⟨wrap64 (a.n + b.n), min a.lo b.lo, max a.hi b.hi, wrap64 (a.tot + b.tot)⟩ := by
  unfold joinS
  rw [if_neg h, if_neg h2]

theorem wrap_id {x : Int} (h0 : 0 ≤ x) (h1 : x ≤ 9223372036854775807) : wrap64 x = x := by
  unfold wrap64
  omega

theorem joinS_n (a b : Sm) (ha : 0 ≤ a.n) (hb : 0 ≤ b.n) (h : a.n + b.n ≤ 9223372036854775807) : (joinS a b).n = a.n + b.n := by
  by_cases h1 : a.n = 0
  · rw [joinS_nil a b h1]; omega
  · by_cases h2 : b.n = 0
    · rw [joinS_end a b h1 h2]; omega
    · rw [joinS_both a b h1 h2]
      exact wrap_id (by omega) h

theorem joinS_assoc (a b c : Sm) (ha : 0 ≤ a.n) (hb : 0 ≤ b.n) (hc : 0 ≤ c.n) (h : a.n + b.n + c.n ≤ 9223372036854775807) : joinS (joinS a b) c = joinS a (joinS b c) := by
  by_cases h1 : a.n = 0
  · rw [joinS_nil a b h1, joinS_nil a _ h1]
  · by_cases h2 : b.n = 0
    · rw [joinS_end a b h1 h2, joinS_nil b c h2]
    · have n1 := joinS_n a b ha hb (by omega)
      by_cases h3 : c.n = 0
      · rw [joinS_end b c h2 h3, joinS_end (joinS a b) c (by omega) h3]
      · have n2 := joinS_n b c hb hc (by omega)
        rw [joinS_both (joinS a b) c (by omega) h3, joinS_both a (joinS b c) h1 (by omega), n1, n2, joinS_both a b h1 h2, joinS_both b c h2 h3]
        simp only [Sm.mk.injEq]
        refine ⟨by rw [Int.add_assoc], by omega, by omega, ?_⟩
        unfold wrap64
        omega

theorem joinS_comm (a b : Sm) (h : a.n ≠ 0 ∨ b.n ≠ 0 ∨ a = b) : joinS a b = joinS b a := by
  by_cases h1 : a.n = 0
  · rw [joinS_nil a b h1]
    by_cases h2 : b.n = 0
    · rcases h with h | h | h
      · exact absurd h1 h
      · exact absurd h2 h
      · rw [h, joinS_nil b b h2]
    · rw [joinS_end b a h2 h1]
  · by_cases h2 : b.n = 0
    · rw [joinS_end a b h1 h2, joinS_nil b a h2]
    · rw [joinS_both a b h1 h2, joinS_both b a h2 h1, Int.add_comm a.n, Int.min_comm a.lo, Int.max_comm a.hi, Int.add_comm a.tot]

theorem sumFrom_join : ∀ (l : List Pt) (s t : Sm), 0 ≤ s.n → 0 ≤ t.n → s.n + t.n + l.length ≤ 9223372036854775807 → joinS s (sumFrom t l) = sumFrom (joinS s t) l
  | [], _, _, _, _, _ => rfl
  | p :: r, s, t, hs, ht, h => by
    rw [List.length_cons] at h
    have e1 : (sm1 p.2).n = 1 := rfl
    have n1 := joinS_n t (sm1 p.2) ht (by omega) (by omega)
    rw [sumFrom, sumFrom_join r s _ hs (by omega) (by omega), sumFrom, joinS_assoc s t _ hs ht (by omega) (by omega)]

theorem sumFrom_n : ∀ (l : List Pt) (s : Sm), 0 ≤ s.n → s.n + l.length ≤ 9223372036854775807 → (sumFrom s l).n = s.n + l.length
  | [], s, _, _ => by simp [sumFrom]
  | p :: r, s, hs, h => by
    rw [List.length_cons] at h ⊢
    have e1 : (sm1 p.2).n = 1 := rfl
    have n1 := joinS_n s (sm1 p.2) hs (by omega) (by omega)
    rw [sumFrom, sumFrom_n r _ (by omega) (by omega)]
    omega

theorem sumS_n (l : List Pt) (h : l.length ≤ 9223372036854775807) : (sumS l).n = l.length := by
  rw [sumS, sumFrom_n l sm0 (Int.le_refl 0) (by simp only [sm0]; omega)]
  simp [sm0]

theorem sumFrom_append : ∀ (x y : List Pt) (s : Sm), sumFrom s (x ++ y) = sumFrom (sumFrom s x) y
  | [], _, _ => rfl
  | p :: r, y, s => sumFrom_append r y (joinS s (sm1 p.2))

/-- The sum of two parts is that of the whole. -/
theorem sumS_append (x y : List Pt) (h : x.length + y.length ≤ 9223372036854775807) : joinS (sumS x) (sumS y) = sumS (x ++ y) := by
  have hx := sumS_n x (by omega)
  have e0 : sm0.n = 0 := rfl
  have hj : joinS (sumS x) sm0 = sumS x := by
    by_cases h0 : (sumS x).n = 0
    · rw [joinS_nil _ _ h0]
      have : x = [] := List.eq_nil_of_length_eq_zero (by omega)
      rw [this]
      rfl
    · exact joinS_end _ _ h0 rfl
  have e : joinS (sumS x) (sumFrom sm0 y) = sumFrom (joinS (sumS x) sm0) y := sumFrom_join y (sumS x) sm0 (by omega) (by omega) (by omega)
  have a : sumS (x ++ y) = sumFrom (sumS x) y := sumFrom_append x y sm0
  rw [a, show sumS y = sumFrom sm0 y from rfl, e, hj]

/-- Whichever comes first. -/
theorem sumS_comm (x y : List Pt) (h : x.length + y.length ≤ 9223372036854775807) : joinS (sumS y) (sumS x) = sumS (x ++ y) := by
  have hx := sumS_n x (by omega)
  have hy := sumS_n y (by omega)
  rw [← sumS_append x y h]
  apply joinS_comm
  by_cases h1 : y = []
  · by_cases h2 : x = []
    · right; right; rw [h1, h2]
    · right; left
      have : x.length ≠ 0 := fun e => h2 (List.eq_nil_of_length_eq_zero e)
      omega
  · left
    have : y.length ≠ 0 := fun e => h1 (List.eq_nil_of_length_eq_zero e)
    omega

/-- What a sum of few small numbers is held to. -/
structure Few (s : Sm) : Prop where
  one : 1 ≤ s.n
  lo : -1000000 ≤ s.lo
  hi : s.hi ≤ 1000000
  le : s.lo ≤ s.hi
  low : s.n * s.lo ≤ s.tot
  high : s.tot ≤ s.n * s.hi
  small : -1000000 * s.n ≤ s.tot
  great : s.tot ≤ 1000000 * s.n

theorem Few.step {s : Sm} (h : Few s) (v : Int) (h0 : -1000000 ≤ v) (h1 : v ≤ 1000000) (hn : s.n ≤ 40) : joinS s (sm1 v) = ⟨s.n + 1, min s.lo v, max s.hi v, s.tot + v⟩ ∧ Few ⟨s.n + 1, min s.lo v, max s.hi v, s.tot + v⟩ := by
  obtain ⟨n, lo, hi, tot⟩ := s
  obtain ⟨g1, g2, g3, g4, g5, g6, g7, g8⟩ := h
  simp only at *
  constructor
  · rw [joinS_both _ _ (by simp only; omega) (by simp [sm1])]
    simp only [sm1, Sm.mk.injEq, true_and]
    constructor
    · unfold wrap64; omega
    · unfold wrap64; omega
  · have k1 : n * min lo v ≤ n * lo := Int.mul_le_mul_of_nonneg_left (by omega) (by omega)
    have k2 : n * hi ≤ n * max hi v := Int.mul_le_mul_of_nonneg_left (by omega) (by omega)
    refine ⟨by simp only; omega, by simp only; omega, by simp only; omega, by simp only; omega, ?_, ?_, by simp only; omega, by simp only; omega⟩
    · simp only
      rw [Int.add_mul, Int.one_mul]
      omega
    · simp only
      rw [Int.add_mul, Int.one_mul]
      omega

/-- What few small numbers come to. -/
theorem sum_bounds : ∀ (l : List Pt) (s : Sm), Few s → s.n + l.length ≤ 40 → (∀ p ∈ l, -1000000 ≤ p.2 ∧ p.2 ≤ 1000000) →
    Few (sumFrom s l) ∧ (sumFrom s l).lo ≤ s.lo ∧ s.hi ≤ (sumFrom s l).hi ∧ (∀ p ∈ l, (sumFrom s l).lo ≤ p.2 ∧ p.2 ≤ (sumFrom s l).hi) ∧ ((sumFrom s l).lo = s.lo ∨ ∃ p ∈ l, p.2 = (sumFrom s l).lo) ∧ ((sumFrom s l).hi = s.hi ∨ ∃ p ∈ l, p.2 = (sumFrom s l).hi)
  | [], s, f, _, _ => ⟨f, Int.le_refl _, Int.le_refl _, fun p hp => by simp at hp, .inl rfl, .inl rfl⟩
  | p :: r, s, f, h, hv => by
    rw [List.length_cons] at h
    obtain ⟨v0, v1⟩ := hv p List.mem_cons_self
    obtain ⟨e, f'⟩ := f.step p.2 v0 v1 (by omega)
    obtain ⟨i1, i2, i3, i4, i5, i6⟩ := sum_bounds r _ f' (by simp only; omega) (fun q hq => hv q (List.mem_cons_of_mem _ hq))
    rw [sumFrom, e]
    simp only at i2 i3 i5 i6
    clear e f' hv f
    generalize sumFrom _ r = R at *
    refine ⟨i1, by clear i5 i6; omega, by clear i5 i6; omega, ?_, ?_, ?_⟩
    · clear i5 i6
      intro q hq
      rcases List.mem_cons.1 hq with rfl | hq
      · omega
      · exact i4 q hq
    · clear i6
      rcases i5 with i5 | ⟨q, hq, eq⟩
      · by_cases hm : s.lo ≤ p.2
        · left; omega
        · right; exact ⟨p, List.mem_cons_self, by omega⟩
      · right; exact ⟨q, List.mem_cons_of_mem _ hq, eq⟩
    · clear i5
      rcases i6 with i6 | ⟨q, hq, eq⟩
      · by_cases hm : p.2 ≤ s.hi
        · left; omega
        · right; exact ⟨p, List.mem_cons_self, by omega⟩
      · right; exact ⟨q, List.mem_cons_of_mem _ hq, eq⟩

/-- Of a list that has some. -/
theorem sumS_bounds (l : List Pt) (hne : l ≠ []) (h : l.length ≤ 40) (hv : ∀ p ∈ l, -1000000 ≤ p.2 ∧ p.2 ≤ 1000000) :
    Few (sumS l) ∧ (∀ p ∈ l, (sumS l).lo ≤ p.2 ∧ p.2 ≤ (sumS l).hi) ∧ (∃ p ∈ l, p.2 = (sumS l).lo) ∧ (∃ p ∈ l, p.2 = (sumS l).hi) := by
  cases l with
  | nil => exact absurd rfl hne
  | cons p r =>
    rw [List.length_cons] at h
    obtain ⟨v0, v1⟩ := hv p List.mem_cons_self
    have f : Few (sm1 p.2) := by
      refine ⟨Int.le_refl _, v0, v1, Int.le_refl _, ?_, ?_, ?_, ?_⟩ <;> simp only [sm1] <;> omega
    obtain ⟨i1, i2, i3, i4, i5, i6⟩ := sum_bounds r (sm1 p.2) f (by simp only [sm1]; omega) (fun q hq => hv q (List.mem_cons_of_mem _ hq))
    rw [sumS_cons]
    have e1 : (sm1 p.2).lo = p.2 := rfl
    have e2 : (sm1 p.2).hi = p.2 := rfl
    refine ⟨i1, ?_, ?_, ?_⟩
    · clear i5 i6
      intro q hq
      rcases List.mem_cons.1 hq with rfl | hq
      · omega
      · exact i4 q hq
    · clear i6
      rcases i5 with i5 | ⟨q, hq, eq⟩
      · exact ⟨p, List.mem_cons_self, by omega⟩
      · exact ⟨q, List.mem_cons_of_mem _ hq, eq⟩
    · clear i5
      rcases i6 with i6 | ⟨q, hq, eq⟩
      · exact ⟨p, List.mem_cons_self, by omega⟩
      · exact ⟨q, List.mem_cons_of_mem _ hq, eq⟩

end Go.Proofs.Ytnpikbpngohimaa
