/-
  Slices of points, two cells an element: what it means that a slice holds a list of points, and how such an argument is opened.
-/
import Derived.Test.YthoclnjfbigdiaaDoorArgs
import Derived.Deep.SlicePairs
namespace Go.Proofs.YthoclnjfbigdiaaDoor
open Go.RowKit Go.ChangeShapes Go.WideShapes Go.ChangeAt

abbrev Pt := Int × Int

def ptV (p : Pt) : Value := .agg #[.int .i64 p.1, .int .i64 p.2]

def cellsP : List Pt → List Value
  | [] => []
  | p :: r => .int .i64 p.1 :: .int .i64 p.2 :: cellsP r

theorem cellsP_length : ∀ l : List Pt, (cellsP l).length = l.length * 2
  | [] => rfl
  | p :: r => by simp [cellsP, cellsP_length r]; omega

theorem cellsP_append : ∀ l m : List Pt, cellsP (l ++ m) = cellsP l ++ cellsP m
  | [], m => rfl
  | p :: r, m => by simp [cellsP, cellsP_append r m]

theorem cellsP_nil {l : List Pt} (h : cellsP l = []) : l = [] := by
  cases l with
  | nil => rfl
  | cons p r => simp [cellsP] at h

theorem cellsP_get : ∀ (l : List Pt) (k : Nat) (p : Pt), l[k]? = some p → (cellsP l)[k * 2]? = some (.int .i64 p.1) ∧ (cellsP l)[k * 2 + 1]? = some (.int .i64 p.2)
  | [], k, p, h => by simp at h
  | q :: r, 0, p, h => by simp at h; subst h; simp [cellsP]
  | q :: r, k + 1, p, h => by
    have := cellsP_get r k p (by simpa using h)
    rw [show (k + 1) * 2 = k * 2 + 1 + 1 by omega]
    simpa [cellsP] using this

theorem cellsP_drop : ∀ (l : List Pt) (k : Nat), (cellsP l).drop (k * 2) = cellsP (l.drop k)
  | l, 0 => by simp
  | [], k + 1 => by simp [cellsP]
  | q :: r, k + 1 => by
    rw [show (k + 1) * 2 = k * 2 + 1 + 1 by omega]
    simpa [cellsP] using cellsP_drop r k

theorem cellsP_take : ∀ (l : List Pt) (k : Nat), (cellsP l).take (k * 2) = cellsP (l.take k)
  | l, 0 => by simp [cellsP]
  | [], k + 1 => by simp [cellsP]
  | q :: r, k + 1 => by
    rw [show (k + 1) * 2 = k * 2 + 1 + 1 by omega]
    simpa [cellsP] using cellsP_take r k

theorem cellsP_one (l : List Pt) : ∀ v ∈ cellsP l, v.oneCell' = true := by
  induction l with
  | nil => intro v hv; simp [cellsP] at hv
  | cons p r ih =>
    intro v hv
    simp only [cellsP, List.mem_cons] at hv
    rcases hv with rfl | rfl | hv
    · rfl
    · rfl
    · exact ih v hv

/-- A slice of points: its address, its capacity, and the points. -/
structure SlP (w : World) (ao : Option Addr) (cap : Nat) (l : List Pt) : Prop where
  row : Row w ao (cellsP l)
  le : l.length ≤ cap
  max : cap ≤ 9223372036854775807
  nil : ao = none → cap = 0

theorem SlP.keep {w w' : World} {ao : Option Addr} {cap : Nat} {l : List Pt} {B : Nat} (h : SlP w ao cap l) (hb : Below B w w') (hB : w.heap.size ≤ B) : SlP w' ao cap l :=
  ⟨h.row.keep hb hB, h.le, h.max, h.nil⟩

theorem SlP.call {w w' : World} {ao : Option Addr} {cap : Nat} {l : List Pt} (h : SlP w ao cap l) (hb : Below w.heap.size w w') : SlP w' ao cap l := h.keep hb (Nat.le_refl _)

theorem SlP.alloc {w : World} {ao : Option Addr} {cap : Nat} {l : List Pt} (h : SlP w ao cap l) (o : Obj) : SlP (w.alloc o) ao cap l :=
  ⟨h.row.alloc o, h.le, h.max, h.nil⟩

theorem SlP.off {w w' : World} {ao : Option Addr} {cap : Nat} {l : List Pt} {g : Nat} (h : SlP w ao cap l) (hg : w.grownBy w' (some g)) (ho : Off g ao) : SlP w' ao cap l :=
  ⟨h.row.off hg ho, h.le, h.max, h.nil⟩

theorem SlP.drewN {w : World} {ao : Option Addr} {cap : Nat} {l : List Pt} (h : SlP w ao cap l) (n : Nat) : SlP (w.drewN n) ao cap l := ⟨h.row.drewN n, h.le, h.max, h.nil⟩

theorem SlP.ofNil (w : World) : SlP w none 0 [] := ⟨.inl rfl, Nat.le_refl _, by decide, fun _ => rfl⟩

theorem SlP.laid (w : World) (l : List Pt) (cs : Array Value) (hcs : cs.toList = cellsP l) (t : TypeId) (n : Nat) (hn : n = w.heap.size) (cap : Nat) (hc : l.length = cap) (hm : cap ≤ 9223372036854775807) : SlP (w.alloc (.cells cs t)) (some ⟨n, 0, none⟩) cap l := by
  have h := Row.laid w cs.toList t n hn
  rw [Array.toArray_toList, hcs] at h
  exact ⟨h, by omega, hm, fun e => by cases e⟩

theorem SlP.where {w : World} {ao : Option Addr} {cap : Nat} {l : List Pt} (h : SlP w ao cap l) (hne : l ≠ []) : ∃ b off, ao = some ⟨b, off, none⟩ ∧ b < w.heap.size := by
  obtain ⟨b, off, e, hb, _⟩ := h.row.at (fun e => hne (cellsP_nil e))
  exact ⟨b, off, e, hb⟩

theorem SlP.pt {w : World} {b off cap : Nat} {l : List Pt} (h : SlP w (some ⟨b, off, none⟩) cap l) (k : Nat) (hk : k < l.length) :
    ∃ x y, w.cell? ⟨b, off + k * 2, none⟩ = some (.int .i64 x) ∧ w.cell? ⟨b, off + k * 2 + 1, none⟩ = some (.int .i64 y) ∧ l[k]? = some (x, y) ∧ l.drop k = (x, y) :: l.drop (k + 1) := by
  obtain ⟨b', off', e, _, hc⟩ := h.row.at (fun e => by rw [cellsP_nil e] at hk; simp at hk)
  simp only [Option.some.injEq, Addr.mk.injEq, and_true] at e
  obtain ⟨rfl, rfl⟩ := e
  have hg : l[k]? = some (l[k].1, l[k].2) := by simp [hk]
  obtain ⟨h0, h1⟩ := cellsP_get l k _ hg
  exact ⟨_, _, hc _ _ h0, hc _ _ h1, hg, by rw [List.drop_eq_getElem_cons hk]⟩

/-- The first ones of a slice. -/
theorem SlP.front {w : World} {ao : Option Addr} {cap : Nat} {l : List Pt} (h : SlP w ao cap l) (k : Nat) : SlP w ao cap (l.take k) := by
  refine ⟨?_, by have := h.le; rw [List.length_take]; omega, h.max, h.nil⟩
  rcases h.row with h0 | ⟨b, off, e, hb, hc⟩
  · left; rw [cellsP_nil h0]; simp [cellsP]
  · right
    refine ⟨b, off, e, hb, fun i v hv => hc i v ?_⟩
    rw [← cellsP_take] at hv
    rw [List.getElem?_take] at hv
    split at hv
    · exact hv
    · cases hv

theorem SlP.ofOwn {w : World} {base : Nat} {e : TypeId} {n : Nat} {v : Value} {l : List Pt} (h : w.ownsRow base e 2 v n (cellsP l)) : ∃ ao cap, v = .slice ao n cap ∧ SlP w ao cap l ∧ l.length = n ∧ ∀ g, g < base → Off g ao := by
  have hl : l.length = n := by have := h.1; rw [cellsP_length] at this; omega
  rcases h.2 with ⟨rfl, rfl⟩ | ⟨g, cap, cur, rfl, hbg, hh, hnc, hcm, hcs, htk⟩
  · obtain rfl := List.eq_nil_of_length_eq_zero hl
    exact ⟨none, 0, rfl, SlP.ofNil w, rfl, fun _ _ => Off.nil _⟩
  · refine ⟨_, _, rfl, ⟨.inr ⟨g, 0, rfl, (Array.getElem?_eq_some_iff.1 hh).1, fun i u hu => ?_⟩, by omega, by unfold maxLen at hcm; exact hcm, fun e => by cases e⟩, hl, fun g' hg' ad e => by cases e; show g ≠ g'; omega⟩
    rw [Nat.zero_add, h.cellAt i (by have := (List.getElem?_eq_some_iff.1 hu).1; rw [cellsP_length] at this; omega)]
    exact hu

theorem open_points {H : Type} {enc : TypeId × Value → H} {W : World} {t e : TypeId} {f0 f1 : Field} {ao : Option Addr} {n cap : Nat} {d : DataW H} {ps : List MemPlace} (ht : Tryd.prog.underlying t = some (.slice e)) (he : Tryd.prog.underlying e = some (.struct #[f0, f1]))
    (ce : Tryd.prog.cellsOf e = 2) (o0 : f0.offset = 0) (o1 : f1.offset = 1) (c0 : Tryd.prog.cellsOf f0.type = 1) (c1 : Tryd.prog.cellsOf f1.type = 1) (u0 : Tryd.prog.underlying f0.type = some (.int .i64)) (u1 : Tryd.prog.underlying f1.type = some (.int .i64))
    (h : DataW.Trod enc Tryd.prog W 0 (fun _ => true) true t (.slice ao n cap) d ps) :
    ∃ l : List Pt, l.length = n ∧ SlP W ao cap l ∧ (∀ p ∈ l, (Lit.int .i64 p.1).wf = true ∧ (Lit.int .i64 p.2).wf = true) ∧ ((n = 0 ∧ cap = 0) ∨ ∃ elems spare, d = .slice elems spare ∧ elems.length + spare.length = cap) := by
  obtain ⟨fuel, hf⟩ := h
  rcases Go.Deep.open_slice_pairs ht he ce o0 o1 c0 c1 hf with ⟨hcs, _⟩ | ⟨a, len, cp, m, k, V0, V1, D0, D1, P0, P1, hcs, _, hl, hm, hmm, hx, hel⟩
  · simp [Value.cells] at hcs
    obtain ⟨rfl, rfl, rfl⟩ := hcs
    exact ⟨[], rfl, SlP.ofNil W, fun p hp => by simp at hp, .inl ⟨rfl, rfl⟩⟩
  · simp [Value.cells] at hcs
    obtain ⟨rfl, rfl, rfl⟩ := hcs
    simp only [if_true] at hmm
    subst hmm
    simp only [Prod.mk.injEq] at hx
    have key : ∀ i, i < n → (V0 i = .int .i64 (intOf (V0 i)) ∧ (Lit.int .i64 (intOf (V0 i))).wf = true) ∧ (V1 i = .int .i64 (intOf (V1 i)) ∧ (Lit.int .i64 (intOf (V1 i))).wf = true) := by
      intro i hi
      obtain ⟨_, _, t0, t1⟩ := hel i (by omega)
      obtain ⟨z0, hb0, _, hw0⟩ := DataW.trod_int u0 t0
      obtain ⟨z1, hb1, _, hw1⟩ := DataW.trod_int u1 t1
      simp at hb0 hb1
      rw [hb0, hb1]
      exact ⟨⟨rfl, hw0⟩, ⟨rfl, hw1⟩⟩
    refine ⟨(List.range n).map fun i => (intOf (V0 i), intOf (V1 i)), by simp, ⟨?_, by simpa using hl, by unfold maxLen at hm; exact hm, fun e => by cases e⟩, ?_, .inr ⟨_, _, hx.1, by simp; omega⟩⟩
    · by_cases h0 : n = 0
      · subst h0; exact .inl rfl
      · obtain ⟨b, off, spot⟩ := a
        have c0 := (hel 0 (by omega)).1
        have hspot : spot = none := by simpa [Addr.add] using World.cell?_spot c0
        subst hspot
        have hlt := lt_of_cell c0
        refine .inr ⟨b, off, rfl, by simpa [Addr.add] using hlt, fun i v hv => ?_⟩
        have hi : i < n * 2 := by have := (List.getElem?_eq_some_iff.1 hv).1; rw [cellsP_length] at this; simpa using this
        have hk : i / 2 < n := by omega
        have hg := cellsP_get ((List.range n).map fun i => (intOf (V0 i), intOf (V1 i))) (i / 2) (intOf (V0 (i / 2)), intOf (V1 (i / 2))) (by simp [hk])
        obtain ⟨e0, e1, _, _⟩ := hel (i / 2) (by omega)
        obtain ⟨⟨k0, _⟩, ⟨k1, _⟩⟩ := key (i / 2) hk
        rcases Nat.mod_two_eq_zero_or_one i with hm2 | hm2
        · have hi2 : i / 2 * 2 = i := by omega
          rw [hi2] at hg e0
          rw [hg.1] at hv
          rw [Addr.add_lit, k0] at e0
          rw [e0, hv]
        · have hi2 : i / 2 * 2 + 1 = i := by omega
          rw [hi2] at hg e1
          rw [hg.2] at hv
          rw [Addr.add_lit, k1] at e1
          rw [e1, hv]
    · intro p hp
      obtain ⟨i, hi, rfl⟩ := List.mem_map.1 hp
      have := key i (by simpa using hi)
      exact ⟨this.1.2, this.2.2⟩

end Go.Proofs.YthoclnjfbigdiaaDoor
