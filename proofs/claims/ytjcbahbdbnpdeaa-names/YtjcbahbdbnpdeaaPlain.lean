/-
  Plain facts that name no function of the program: what it means that a slice's cells hold a list of values ('Row'), and how that stays true while a call makes new memory.
-/
import Derived.Test.YtjcbahbdbnpdeaaChecked
import Derived.WalkKit
import Derived.ProofKit
import Derived.OpenShut
import Derived.Deep.QuietTactic
import Derived.BigQuiet
import Derived.Deep.Draws
import Derived.Deep.LoopGhost
import Derived.WalkLawsBesides
import Derived.WalkSpells
namespace Go.Proofs.Ytjcbahbdbnpdeaa
open Go.RowKit

/-- The cells from the address on hold the values; of an empty list nothing is asked. -/
def Row (w : World) (ao : Option Addr) (cs : List Value) : Prop :=
  cs = [] ∨ ∃ b off, ao = some ⟨b, off, none⟩ ∧ b < w.heap.size ∧ ∀ i v, cs[i]? = some v → w.cell? ⟨b, off + i, none⟩ = some v

theorem Row.nil (w : World) (ao : Option Addr) : Row w ao [] := .inl rfl

theorem Row.keep {w w' : World} {ao : Option Addr} {cs : List Value} {B : Nat} (h : Row w ao cs) (hb : Below B w w') (hB : w.heap.size ≤ B) : Row w' ao cs := by
  rcases h with h | ⟨b, off, e, hlt, hc⟩
  · exact .inl h
  · refine .inr ⟨b, off, e, Nat.lt_of_lt_of_le hlt hb.size, fun i v hv => ?_⟩
    rw [hb.cell (p := ⟨b, off + i, none⟩) (by show b < B; omega)]
    exact hc i v hv

theorem Row.drewN {w : World} {ao : Option Addr} {cs : List Value} (h : Row w ao cs) (n : Nat) : Row (w.drewN n) ao cs := h

/-- Below over draws. -/
theorem belowDrewN {B : Nat} {a w : World} (h : Below B a w) (n : Nat) : Below B a (w.drewN n) := ⟨h.os, h.tape, h.output, h.size, h.block⟩

theorem Row.at {w : World} {ao : Option Addr} {cs : List Value} (h : Row w ao cs) (hne : cs ≠ []) : ∃ b off, ao = some ⟨b, off, none⟩ ∧ b < w.heap.size ∧ ∀ i v, cs[i]? = some v → w.cell? ⟨b, off + i, none⟩ = some v := by
  rcases h with h | h
  · exact absurd h hne
  · exact h

/-- A row of bools, asked at one place. -/
theorem boolAt {w : World} {b off : Nat} {l : List Bool} (hc : ∀ i v, (l.map Value.bool)[i]? = some v → w.cell? ⟨b, off + i, none⟩ = some v) (k : Nat) (hk : k < l.length) : w.cell? ⟨b, off + k, none⟩ = some (.bool (l.getD k false)) :=
  hc k _ (by simp [hk])

theorem intAt {w : World} {b off : Nat} {l : List Int} (hc : ∀ i v, (l.map (Value.int .i64))[i]? = some v → w.cell? ⟨b, off + i, none⟩ = some v) (k : Nat) (hk : k < l.length) : w.cell? ⟨b, off + k, none⟩ = some (.int .i64 (l.getD k 0)) :=
  hc k _ (by simp [hk])

/-- Two lists of one length are the same where each place is. -/
theorem listEq {α : Type} {l m : List α} {d : α} (hl : l.length = m.length) (h : ∀ j, j < l.length → l.getD j d = m.getD j d) : l = m := by
  apply List.ext_getElem hl
  intro i h1 h2
  have := h i h1
  simpa [List.getD, List.getElem?_eq_getElem h1, List.getElem?_eq_getElem h2] using this

theorem listNe {α : Type} {l m : List α} {d : α} {k : Nat} (h : l.getD k d ≠ m.getD k d) : l ≠ m := fun e => h (by rw [e])

theorem Row.alloc {w : World} {ao : Option Addr} {cs : List Value} (h : Row w ao cs) (o : Obj) : Row (w.alloc o) ao cs :=
  h.keep ((Below.refl w.heap.size w).alloc (Nat.le_refl _) o) (Nat.le_refl _)

/-- A row that was just laid. -/
theorem Row.laid (w : World) (cs : List Value) (t : TypeId) (n : Nat) (hn : n = w.heap.size) : Row (w.alloc (.cells cs.toArray t)) (some ⟨n, 0, none⟩) cs := by
  subst hn
  refine .inr ⟨w.heap.size, 0, rfl, by simp, fun i v hv => ?_⟩
  rw [World.cell?_alloc_at (hn := rfl)]
  simpa using hv

end Go.Proofs.Ytjcbahbdbnpdeaa
