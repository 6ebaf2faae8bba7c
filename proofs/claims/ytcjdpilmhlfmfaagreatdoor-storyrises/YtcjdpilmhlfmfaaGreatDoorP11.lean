/-
  Rows and shelves as plain lists: what is wrong with a row (rowE), all its points (rowL), what is wrong with a shelf (shelfE). No program is named.
-/
import Derived.Test.YtcjdpilmhlfmfaaGreatDoorP06
import Derived.Test.YtcjdpilmhlfmfaaGreatDoorP05
namespace Go.Proofs.YtcjdpilmhlfmfaaGreatDoor
open Go.RowKit

def blksE : List Bk → Int
  | [] => 0
  | b :: r => if ptsE b = 0 then blksE r else ptsE b

def blksL (l : List Bk) : List Pt := l.flatMap ptsL

def allPts (r : Rw) : List Pt := blksL r.blocks ++ r.head

def rowE (r : Rw) : Int := if 8 < r.blocks.length then 2 else if blksE r.blocks = 0 then checkE (allPts r) else blksE r.blocks

def rowL (r : Rw) : List Pt := if rowE r = 0 then allPts r else []

def rowsE : List Rw → Int
  | [] => 0
  | r :: l => if rowE r = 0 then rowsE l else rowE r

def shelfE (l : List Rw) : Int := if l.length = 4 then rowsE l else 4

end Go.Proofs.YtcjdpilmhlfmfaaGreatDoor

/-
  What the operations on a shelf make of it, as plain lists: seal, merge, drop, put; what a shelf that is right has. No program is named.
-/
namespace Go.Proofs.YtcjdpilmhlfmfaaGreatDoor
open Go.RowKit

def rw0 : Rw := ⟨[], []⟩

def inI (x a b : Int) : Bool := decide (a ≤ x ∧ x ≤ b)

def sealE (l : List Rw) (s n : Int) : Int :=
  if inI s 0 3 = false then 5 else if inI n 1 (l.getD s.toNat rw0).head.length = false then 3 else if 8 ≤ (l.getD s.toNat rw0).blocks.length then 2 else 0

def sealL (l : List Rw) (s n : Int) : List Rw :=
  if sealE l s n = 0 then l.set s.toNat ⟨(l.getD s.toNat rw0).blocks ++ [makeB ((l.getD s.toNat rw0).head.take n.toNat)], (l.getD s.toNat rw0).head.drop n.toNat⟩ else []

def blkAt (r : Rw) (k : Nat) : Bk := r.blocks.getD k bk0

def mrgE (l : List Rw) (s k : Int) : Int :=
  if inI s 0 3 = false then 5 else if inI k 0 ((l.getD s.toNat rw0).blocks.length - 2) = false then 3 else mergeE (blkAt (l.getD s.toNat rw0) k.toNat) (blkAt (l.getD s.toNat rw0) (k.toNat + 1))

def mrgL (l : List Rw) (s k : Int) : List Rw :=
  if mrgE l s k = 0 then l.set s.toNat ⟨(l.getD s.toNat rw0).blocks.take k.toNat ++ (mergeB (blkAt (l.getD s.toNat rw0) k.toNat) (blkAt (l.getD s.toNat rw0) (k.toNat + 1)) :: (l.getD s.toNat rw0).blocks.drop (k.toNat + 2)), (l.getD s.toNat rw0).head⟩ else []

/-- A shelf that is right has four rows, of few blocks and few points. -/
structure Right (l : List Rw) : Prop where
  four : l.length = 4
  few : ∀ r ∈ l, r.blocks.length ≤ 8 ∧ r.head.length ≤ 40

theorem rowsE_zero : ∀ {l : List Rw}, rowsE l = 0 → ∀ r ∈ l, rowE r = 0
  | [], _, r, hr => by simp at hr
  | x :: l, h, r, hr => by
    unfold rowsE at h
    split at h
    · rename_i h0
      rcases List.mem_cons.1 hr with rfl | hr
      · exact h0
      · exact rowsE_zero h r hr
    · rename_i h0
      exact absurd h h0

theorem rowE_zero {r : Rw} (h : rowE r = 0) : r.blocks.length ≤ 8 ∧ blksE r.blocks = 0 ∧ checkE (allPts r) = 0 := by
  unfold rowE at h
  split at h
  · cases h
  · split at h
    · exact ⟨by omega, by assumption, h⟩
    · rename_i h1
      exact absurd h h1

theorem shelfE_zero {l : List Rw} (h : shelfE l = 0) : l.length = 4 ∧ rowsE l = 0 := by
  unfold shelfE at h
  split at h
  · exact ⟨by assumption, h⟩
  · cases h

theorem right_of {l : List Rw} (h : shelfE l = 0) : Right l := by
  obtain ⟨h4, hr⟩ := shelfE_zero h
  refine ⟨h4, fun r hr' => ?_⟩
  obtain ⟨h1, _, h3⟩ := rowE_zero (rowsE_zero hr r hr')
  have := (checkE_zero h3).1
  unfold allPts at this
  rw [List.length_append] at this
  exact ⟨h1, by omega⟩

theorem flat_set {α : Type} {f : α → List Value} (x : α) (u v : Value) (hu : f x = [u, v]) (hf : ∀ x, (f x).length = 2) : ∀ (l : List α) (k : Nat), k < l.length → ((l.flatMap f).set (k * 2) u).set (k * 2 + 1) v = (l.set k x).flatMap f
  | [], k, h => by simp at h
  | y :: r, 0, _ => by
    have h := hf y
    obtain ⟨y0, y1, e⟩ : ∃ y0 y1, f y = [y0, y1] := by
      match f y, h with
      | [y0, y1], _ => exact ⟨y0, y1, rfl⟩
    rw [List.flatMap_cons, List.set_cons_zero, List.flatMap_cons, e, hu]
    rfl
  | y :: r, k + 1, h => by
    have ih := flat_set x u v hu hf r k (by simpa using h)
    have e : (f y).length = 2 := hf y
    rw [List.flatMap_cons, List.set_cons_succ, List.flatMap_cons, ← ih, List.set_append_right _ _ (by rw [e]; omega), e, List.set_append_right _ _ (by rw [e]; omega), e,
      show (k + 1) * 2 - 2 = k * 2 by omega, show (k + 1) * 2 + 1 - 2 = k * 2 + 1 by omega]

end Go.Proofs.YtcjdpilmhlfmfaaGreatDoor

/-
  What the walks over blocks share: four cells written at once, where bits may lie, the first and the last time of a slice of points. No function of the program is named.
-/
namespace Go.Proofs.YtcjdpilmhlfmfaaGreatDoor
open Go.RowKit

theorem Blk.put4 {w : World} {g : Nat} {c0 c1 c2 c3 : Value} {t : TypeId} (h : Blk w g [c0, c1, c2, c3] t) (u0 u1 u2 u3 : Value) :
    Blk ((((w.setCell ⟨g, 0, none⟩ u0).setCell ⟨g, 1, none⟩ u1).setCell ⟨g, 2, none⟩ u2).setCell ⟨g, 3, none⟩ u3) g [u0, u1, u2, u3] t :=
  (((h.set 0 u0).set 1 u1).set 2 u2).set 3 u3

theorem below4 {B : Nat} {w W : World} (h : Below B w W) {g : Nat} (hg : B ≤ g) (u0 u1 u2 u3 : Value) :
    Below B w ((((W.setCell ⟨g, 0, none⟩ u0).setCell ⟨g, 1, none⟩ u1).setCell ⟨g, 2, none⟩ u2).setCell ⟨g, 3, none⟩ u3) :=
  (((h.setCell hg _).setCell hg _).setCell hg _).setCell hg _

/-- Bits lie in no block that holds three numbers and a slice. -/
theorem Sl.offBlock {w : World} {ao : Option Addr} {cap g : Nat} {P : List Bool} {x y z : Int} {a : Option Addr} {n c : Nat} {t : TypeId} (s : Sl w ao cap (P.map Value.bool)) (B : Blk w g [.int .i64 x, .int .i64 y, .int .i64 z, .slice a n c] t) (hP : P ≠ []) : Off g ao := by
  obtain ⟨b, off, rfl, hb, hc⟩ := s.row.at (by simpa using hP)
  intro ad e
  cases e
  intro e
  have e : b = g := e
  subst e
  obtain ⟨p, r, rfl⟩ := List.exists_cons_of_ne_nil hP
  have h0 := hc 0 (.bool p) (by simp)
  rw [Nat.add_zero, B.cell] at h0
  match off, h0 with
  | 0, h0 => simp at h0
  | 1, h0 => simp at h0
  | 2, h0 => simp at h0
  | 3, h0 => simp at h0
  | k + 4, h0 => simp at h0

theorem Sl.put4 {w : World} {ao : Option Addr} {cap g : Nat} {P : List Bool} {x y z : Int} {a : Option Addr} {n c : Nat} {t : TypeId} (s : Sl w ao cap (P.map Value.bool)) (B : Blk w g [.int .i64 x, .int .i64 y, .int .i64 z, .slice a n c] t) (u0 u1 u2 u3 : Value) :
    Sl ((((w.setCell ⟨g, 0, none⟩ u0).setCell ⟨g, 1, none⟩ u1).setCell ⟨g, 2, none⟩ u2).setCell ⟨g, 3, none⟩ u3) ao cap (P.map Value.bool) := by
  by_cases hP : P = []
  · subst hP
    exact ⟨.inl rfl, s.le, s.max, s.nil⟩
  · exact s.off (grownSet (grownSet (grownSet (grownSet (grownRefl _ _) 0 u0) 1 u1) 2 u2) 3 u3) (s.offBlock B hP)

theorem Sl.drewS {w : World} {ao : Option Addr} {cap : Nat} {cs : List Value} (h : Sl w ao cap cs) : Sl w.drew ao cap cs := h.drewN 1

theorem SlP.drewS {w : World} {ao : Option Addr} {cap : Nat} {l : List Pt} (h : SlP w ao cap l) : SlP w.drew ao cap l := h.drewN 1

theorem SlP.first {w : World} {b off cap : Nat} {l : List Pt} (h : SlP w (some ⟨b, off, none⟩) cap l) (hl : 0 < l.length) : w.cell? ⟨b, off, none⟩ = some (.int .i64 (firstT l)) := by
  obtain ⟨x, y, e0, _, hx, _⟩ := h.pt 0 hl
  rw [Nat.zero_mul, Nat.add_zero] at e0
  rw [e0]
  simp [firstT, List.getD, hx]

theorem SlP.last {w : World} {b off cap : Nat} {l : List Pt} (h : SlP w (some ⟨b, off, none⟩) cap l) (hl : 0 < l.length) : w.cell? ⟨b, off + (l.length - 1) * 2, none⟩ = some (.int .i64 (endT l)) := by
  obtain ⟨x, y, e0, _, hx, _⟩ := h.pt (l.length - 1) (by omega)
  rw [e0]
  simp [endT, List.getD, hx]

/-- Three blocks of four cells, laid one behind the other: the second and the third. -/
theorem three (w : World) (x y z : List Value) (t : TypeId) : Blk (((w.alloc (.cells x.toArray t)).alloc (.cells y.toArray t)).alloc (.cells z.toArray t)) (w.heap.size + 1) y t ∧
    Blk (((w.alloc (.cells x.toArray t)).alloc (.cells y.toArray t)).alloc (.cells z.toArray t)) (w.heap.size + 2) z t ∧ Below w.heap.size w (((w.alloc (.cells x.toArray t)).alloc (.cells y.toArray t)).alloc (.cells z.toArray t)) :=
  ⟨(Blk.laid _ y t _ (by simp)).alc _, Blk.laid _ z t _ (by simp), below3 w _ _ _⟩

theorem ptsL_pos {b : Bk} (h : ptsE b = 0) : 0 < (ptsL b).length := by
  unfold ptsL
  rw [if_pos h]
  unfold ptsE at h
  split at h
  · split at h
    · rename_i hf
      exact (of_decide_eq_true hf : 0 < _ ∧ _).1
    · cases h
  · rename_i hn
    exact absurd h hn

theorem sizePt : (Tryz.prog.info? 50).map (·.size) = some 2 := by kernel_rfl

/-- A part of a slice of points, as the slice expression makes it. -/
theorem SlP.part {w : World} {ao : Option Addr} {cap : Nat} {l : List Pt} (h : SlP w ao cap l) (p q : Nat) (hpq : p ≤ q) (hq : q ≤ l.length) : SlP w (if cap = p then ao else Option.map (fun x => x.add (p * 2)) ao) (cap - p) ((l.take q).drop p) := by
  have hle := h.le
  have hlen : ((l.take q).drop p).length = q - p := by rw [List.length_drop, List.length_take]; omega
  refine ⟨?_, by rw [hlen]; omega, by have := h.max; omega, ?_⟩
  · by_cases he : p = q
    · left
      have e : (l.take q).drop p = [] := List.eq_nil_of_length_eq_zero (by rw [hlen]; omega)
      rw [e]
      rfl
    · right
      obtain ⟨b, off, rfl, hb, hc⟩ := (h.front q).row.at (fun e => by
        have h0 := cellsP_nil e
        have : (l.take q).length = 0 := by rw [h0]; rfl
        rw [List.length_take] at this
        omega)
      rw [if_neg (by omega)]
      refine ⟨b, off + p * 2, by rw [Option.map_some, Addr.add_lit], hb, fun i v hv => ?_⟩
      rw [← cellsP_drop, List.getElem?_drop] at hv
      rw [Nat.add_assoc]
      exact hc _ _ hv
  · intro e
    by_cases hc : cap = p
    · omega
    · rw [if_neg hc] at e
      have := h.nil (by simpa using e)
      omega

theorem belowNew {w W : World} (h : Below w.heap.size w W) (o : Obj) : Below w.heap.size w (W.alloc o) := h.alloc h.size o

end Go.Proofs.YtcjdpilmhlfmfaaGreatDoor

/-
  Seal and merge change no points of a row: plain lists. No program is named.
-/
namespace Go.Proofs.YtcjdpilmhlfmfaaGreatDoor
open Go.RowKit

theorem blksE_append : ∀ a b : List Bk, blksE (a ++ b) = if blksE a = 0 then blksE b else blksE a
  | [], b => by simp [blksE]
  | x :: r, b => by
    rw [List.cons_append, blksE, blksE, blksE_append r b]
    split
    · rfl
    · rfl

theorem blksL_append (a b : List Bk) : blksL (a ++ b) = blksL a ++ blksL b := by unfold blksL; rw [List.flatMap_append]

theorem rowE_of {r : Rw} (h1 : r.blocks.length ≤ 8) (h2 : blksE r.blocks = 0) (h3 : checkE (allPts r) = 0) : rowE r = 0 := by
  unfold rowE
  rw [if_neg (by omega), if_pos h2]
  exact h3

theorem blksE_mem : ∀ {l : List Bk}, blksE l = 0 → ∀ b ∈ l, ptsE b = 0
  | [], _, b, hb => by simp at hb
  | x :: r, h, b, hb => by
    unfold blksE at h
    split at h
    · rename_i h0
      rcases List.mem_cons.1 hb with rfl | hb
      · exact h0
      · exact blksE_mem h b hb
    · rename_i h0
      exact absurd h h0

theorem row_seal {r : Rw} (h : rowE r = 0) (q : Nat) (h1 : 1 ≤ q) (h2 : q ≤ r.head.length) (hb : r.blocks.length < 8) :
    rowE ⟨r.blocks ++ [makeB (r.head.take q)], r.head.drop q⟩ = 0 ∧ allPts ⟨r.blocks ++ [makeB (r.head.take q)], r.head.drop q⟩ = allPts r := by
  obtain ⟨_, z2, z3⟩ := rowE_zero h
  have c1 := check_drop z3 (blksL r.blocks).length
  unfold allPts at c1
  rw [List.drop_left' rfl] at c1
  obtain ⟨p1, p2⟩ := pts_make (check_take c1 q) (by rw [List.length_take]; omega)
  have e : allPts ⟨r.blocks ++ [makeB (r.head.take q)], r.head.drop q⟩ = allPts r := by
    unfold allPts
    simp only [blksL_append]
    rw [show blksL [makeB (r.head.take q)] = r.head.take q by unfold blksL; simp [p2], List.append_assoc, List.take_append_drop]
  refine ⟨rowE_of (by simp only [List.length_append, List.length_singleton]; omega) ?_ (by rw [e]; exact z3), e⟩
  simp only [blksE_append, z2, if_true]
  rw [blksE, if_pos p1, blksE]

theorem row_merge {r : Rw} (h : rowE r = 0) (q : Nat) (x y : Bk) (hx : r.blocks[q]? = some x) (hy : r.blocks[q + 1]? = some y) :
    rowE ⟨r.blocks.take q ++ mergeB x y :: r.blocks.drop (q + 2), r.head⟩ = 0 ∧ allPts ⟨r.blocks.take q ++ mergeB x y :: r.blocks.drop (q + 2), r.head⟩ = allPts r := by
  obtain ⟨z1, z2, z3⟩ := rowE_zero h
  have hsplit : r.blocks = r.blocks.take q ++ (x :: y :: r.blocks.drop (q + 2)) := by
    have e1 : r.blocks.drop q = x :: r.blocks.drop (q + 1) := by
      obtain ⟨h', rfl⟩ := List.getElem?_eq_some_iff.1 hx
      exact List.drop_eq_getElem_cons h'
    have e2 : r.blocks.drop (q + 1) = y :: r.blocks.drop (q + 2) := by
      obtain ⟨h', rfl⟩ := List.getElem?_eq_some_iff.1 hy
      exact List.drop_eq_getElem_cons h'
    rw [← e2, ← e1, List.take_append_drop]
  have px := blksE_mem z2 x (List.mem_of_getElem? hx)
  have py := blksE_mem z2 y (List.mem_of_getElem? hy)
  generalize r.blocks.take q = A at *
  generalize r.blocks.drop (q + 2) = D at *
  have eall : allPts r = blksL A ++ ((ptsL x ++ ptsL y) ++ (blksL D ++ r.head)) := by
    unfold allPts
    rw [hsplit, blksL_append]
    unfold blksL
    simp [List.append_assoc]
  have c1 := check_drop z3 (blksL A).length
  rw [eall, List.drop_left' rfl] at c1
  have c2 := check_take c1 (ptsL x ++ ptsL y).length
  rw [List.take_left' rfl] at c2
  have lp : 0 < (ptsL x ++ ptsL y).length := by rw [List.length_append]; have := ptsL_pos px; omega
  obtain ⟨p1, p2⟩ := pts_make c2 lp
  have em : mergeB x y = makeB (ptsL x ++ ptsL y) := by unfold mergeB; rw [if_pos ⟨px, py⟩]
  have e : allPts ⟨A ++ mergeB x y :: D, r.head⟩ = allPts r := by
    rw [eall, em]
    unfold allPts
    simp only [blksL_append]
    rw [show blksL (makeB (ptsL x ++ ptsL y) :: D) = (ptsL x ++ ptsL y) ++ blksL D by unfold blksL; rw [List.flatMap_cons, p2], List.append_assoc, List.append_assoc]
  have zz := z2
  rw [hsplit, blksE_append] at zz
  have zA : blksE A = 0 := by
    by_cases h0 : blksE A = 0
    · exact h0
    · rw [if_neg h0] at zz
      exact zz
  rw [if_pos zA, blksE, if_pos px, blksE, if_pos py] at zz
  refine ⟨rowE_of ?_ ?_ (by rw [e]; exact z3), e⟩
  · have := z1
    rw [hsplit] at this
    simp only [List.length_append, List.length_cons] at this ⊢
    omega
  · simp only [blksE_append, zA, if_true]
    rw [em, blksE, if_pos p1]
    exact zz

end Go.Proofs.YtcjdpilmhlfmfaaGreatDoor

/-
  What a batch makes of a shelf, as plain lists; how a copy of a shelf stays. No function of the program is named.
-/
namespace Go.Proofs.YtcjdpilmhlfmfaaGreatDoor
open Go.RowKit

def putRow (l : List Rw) (x : En) : Rw := ⟨(l.getD x.s.toNat rw0).blocks, (l.getD x.s.toNat rw0).head ++ [(x.t, x.v)]⟩

def putRowE (l : List Rw) (x : En) : Int := if inI x.s 0 3 = false then 5 else rowE (putRow l x)

def putRowL (l : List Rw) (x : En) : List Rw := l.set x.s.toNat (putRow l x)

def putsE : List Rw → List En → Int
  | _, [] => 0
  | l, x :: r => if putRowE l x = 0 then putsE (putRowL l x) r else putRowE l x

def putsL : List Rw → List En → List Rw
  | l, [] => l
  | l, x :: r => putsL (putRowL l x) r

def bputE (l : List Rw) (b : List En) : Int := if 10 < b.length then 2 else putsE l b

def bputL (l : List Rw) (b : List En) : List Rw := if bputE l b = 0 then putsL l b else []

theorem putRowE_zero {l : List Rw} {x : En} (h : putRowE l x = 0) : inI x.s 0 3 = true ∧ rowE (putRow l x) = 0 := by
  unfold putRowE at h
  split at h
  · cases h
  · rename_i h0
    exact ⟨by simpa using h0, h⟩

theorem Right.put {l : List Rw} (h : Right l) {x : En} (hx : putRowE l x = 0) : Right (putRowL l x) := by
  obtain ⟨_, h1⟩ := putRowE_zero hx
  obtain ⟨z1, z2, z3⟩ := rowE_zero h1
  refine ⟨by unfold putRowL; rw [List.length_set]; exact h.four, fun r hr => ?_⟩
  rcases List.mem_or_eq_of_mem_set hr with hr | rfl
  · exact h.few r hr
  · have := (checkE_zero z3).1
    unfold allPts at this
    rw [List.length_append] at this
    exact ⟨z1, by omega⟩

theorem inI_nat {s : Int} (h : inI s 0 3 = true) : ∃ k : Nat, s = k ∧ k < 4 := by
  unfold inI at h
  have : 0 ≤ s ∧ s ≤ 3 := by simpa using h
  exact ⟨s.toNat, by omega, by omega⟩

end Go.Proofs.YtcjdpilmhlfmfaaGreatDoor

/-
  What a drop makes of a shelf, as plain lists. No program is named.
-/
namespace Go.Proofs.YtcjdpilmhlfmfaaGreatDoor
open Go.RowKit

def dropE (n : Int) : Int := if inI n 0 100001 = false then 3 else 0

def dropRw (n : Int) (r : Rw) : Rw := ⟨r.blocks.filter (fun b => !decide (b.to < n)), r.head⟩

def dropL (l : List Rw) (n : Int) : List Rw := if dropE n = 0 then l.map (dropRw n) else []

end Go.Proofs.YtcjdpilmhlfmfaaGreatDoor
