/-
  How arguments are opened: a slice of bools, a slice of ints, as the walks are told of them.
-/
import Derived.Test.YthoclnjfbigdiaaDoorPlain
import Derived.SizedLaws
import Derived.ChangeOld
import Derived.Below
import Derived.Deep.Slices
namespace Go.Proofs.YthoclnjfbigdiaaDoor
open Go.RowKit Go.ChangeShapes Go.WideShapes Go.ChangeAt

theorem own : ownKnob Tryd.prog.godebug = none := by kernel_rfl
theorem laidOut : laidOutB Tryd.prog = true := by kernel_rfl

theorem lt_of_cell {w : World} {a : Addr} {v : Value} (h : w.cell? a = some v) : a.block < w.heap.size := by
  unfold World.cell? at h
  cases hh : w.heap[a.block]? with
  | none => rw [hh] at h; cases h
  | some o => exact (Array.getElem?_eq_some_iff.1 hh).1

def boolOf : Value → Bool
  | .bool b => b
  | _ => false

/-- A slice of one-cell elements that came in. -/
theorem open_cells {H : Type} {enc : TypeId × Value → H} {W : World} {t e : TypeId} {ao : Option Addr} {n cap : Nat} {d : DataW H} {ps : List MemPlace} (ht : Tryd.prog.underlying t = some (.slice e)) (hc : Tryd.prog.cellsOf e = 1)
    (h : DataW.Trod enc Tryd.prog W 0 (fun _ => true) true t (.slice ao n cap) d ps) :
    ∃ V : Nat → Value, Sl W ao cap ((List.range n).map V) ∧ (∀ i, i < n → ∃ m D Pl, DataW.trod enc Tryd.prog W 0 (fun _ => true) true m e [V i] = some (D, Pl)) ∧ ((n = 0 ∧ cap = 0) ∨ ∃ elems spare, d = .slice elems spare ∧ elems.length + spare.length = cap) := by
  obtain ⟨fuel, hf⟩ := h
  rcases Go.Deep.open_slice1 ht hc hf with ⟨hcs, _⟩ | ⟨a, len, cp, m, k, V, D, Pl, hcs, _, hl, hm, hmm, hx, hel⟩
  · simp [Value.cells] at hcs
    obtain ⟨rfl, rfl, rfl⟩ := hcs
    exact ⟨fun _ => undef, by simpa using Sl.ofNil W, fun i hi => absurd hi (Nat.not_lt_zero _), .inl ⟨rfl, rfl⟩⟩
  · simp [Value.cells] at hcs
    obtain ⟨rfl, rfl, rfl⟩ := hcs
    simp only [if_true] at hmm
    subst hmm
    simp only [Prod.mk.injEq] at hx
    refine ⟨V, ⟨?_, by simpa using hl, by unfold maxLen at hm; exact hm, fun e => by cases e⟩, fun i hi => ⟨k, _, _, (hel i (by omega)).2⟩, .inr ⟨_, _, hx.1, by simp; omega⟩⟩
    by_cases h0 : n = 0
    · subst h0; exact .inl rfl
    · obtain ⟨b, off, spot⟩ := a
      have c0 := (hel 0 (by omega)).1
      have hspot : spot = none := by simpa [Addr.add] using World.cell?_spot c0
      subst hspot
      have hlt := lt_of_cell c0
      refine .inr ⟨b, off, rfl, by simpa [Addr.add] using hlt, fun i v hv => ?_⟩
      obtain ⟨hi, rfl⟩ := List.getElem?_eq_some_iff.1 hv
      have hi' : i < n := by simpa using hi
      have := (hel i (by omega)).1
      rw [Addr.add_lit] at this
      simpa using this

theorem open_bools {H : Type} {enc : TypeId × Value → H} {W : World} {t e : TypeId} {ao : Option Addr} {n cap : Nat} {d : DataW H} {ps : List MemPlace} (ht : Tryd.prog.underlying t = some (.slice e)) (he : Tryd.prog.underlying e = some .bool) (hc : Tryd.prog.cellsOf e = 1)
    (h : DataW.Trod enc Tryd.prog W 0 (fun _ => true) true t (.slice ao n cap) d ps) :
    ∃ l : List Bool, l.length = n ∧ Sl W ao cap (l.map Value.bool) ∧ ((n = 0 ∧ cap = 0) ∨ ∃ elems spare, d = .slice elems spare ∧ elems.length + spare.length = cap) := by
  obtain ⟨V, hs, hv, hd⟩ := open_cells ht hc h
  refine ⟨(List.range n).map fun i => boolOf (V i), by simp, ?_, hd⟩
  have e : ((List.range n).map fun i => boolOf (V i)).map Value.bool = (List.range n).map V := by
    rw [List.map_map]
    apply List.map_congr_left
    intro i hi
    obtain ⟨m, D, Pl, hb⟩ := hv i (by simpa using hi)
    obtain ⟨b, hb1, _⟩ := DataW.trod_bool he hb
    simp at hb1
    simp [hb1, boolOf]
  rw [e]
  exact hs

theorem open_intsS {H : Type} {enc : TypeId × Value → H} {W : World} {t e : TypeId} {ao : Option Addr} {n cap : Nat} {d : DataW H} {ps : List MemPlace} (ht : Tryd.prog.underlying t = some (.slice e)) (he : Tryd.prog.underlying e = some (.int .i64)) (hc : Tryd.prog.cellsOf e = 1)
    (h : DataW.Trod enc Tryd.prog W 0 (fun _ => true) true t (.slice ao n cap) d ps) :
    ∃ l : List Int, l.length = n ∧ Sl W ao cap (l.map (Value.int .i64)) ∧ (∀ z ∈ l, (Lit.int .i64 z).wf = true) ∧ ((n = 0 ∧ cap = 0) ∨ ∃ elems spare, d = .slice elems spare ∧ elems.length + spare.length = cap) := by
  obtain ⟨V, hs, hv, hd⟩ := open_cells ht hc h
  have key : ∀ i, i < n → V i = .int .i64 (intOf (V i)) ∧ (Lit.int .i64 (intOf (V i))).wf = true := by
    intro i hi
    obtain ⟨m, D, Pl, hb⟩ := hv i hi
    obtain ⟨z, hb1, _, hw⟩ := DataW.trod_int he hb
    simp at hb1
    rw [hb1]
    exact ⟨rfl, hw⟩
  refine ⟨(List.range n).map fun i => intOf (V i), by simp, ?_, ?_, hd⟩
  · have e : ((List.range n).map fun i => intOf (V i)).map (Value.int .i64) = (List.range n).map V := by
      rw [List.map_map]
      apply List.map_congr_left
      intro i hi
      exact (key i (by simpa using hi)).1.symm
    rw [e]
    exact hs
  · intro z hz
    obtain ⟨i, hi, rfl⟩ := List.mem_map.1 hz
    exact (key i (by simpa using hi)).2

/-- The form's own reach, of a slice of which an element takes so many bytes. -/
theorem reach_of {H : Type} {ts : List TypeId} {ds : List (DataW H)} {t e : TypeId} {j n cap bytes : Nat} {d : DataW H} (hsz : (DataW.weightsEach Tryd.prog ts ds).all (· ≤ reachBytes) = true) (ht : ts[j]? = some t) (hd : ds[j]? = some d)
    (hu : Tryd.prog.underlying t = some (.slice e)) (hb : Tryd.prog.bytesOf e = bytes) (h : (n = 0 ∧ cap = 0) ∨ ∃ elems spare, d = .slice elems spare ∧ elems.length + spare.length = cap) : cap * bytes ≤ 140737488351232 := by
  rcases h with ⟨_, rfl⟩ | ⟨el, sp, rfl, rfl⟩
  · simp
  · have := sized_slice hsz ht hd hu
    rw [hb] at this
    simpa [reachBytes] using this

end Go.Proofs.YthoclnjfbigdiaaDoor
