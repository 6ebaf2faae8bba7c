/-
  Plain facts that name no function of the program: what it means that a slice's cells hold a list of values ('Row'), and how that stays true while a call makes new memory.
-/
import Derived.Test.YthoclnjfbigdiaaDoorChecked
import Derived.WalkKit
import Derived.ProofKit
import Derived.OpenShut
import Derived.Deep.QuietTactic
import Derived.BigQuiet
import Derived.Deep.Draws
import Derived.Deep.LoopGhost
import Derived.WalkLawsBesides
import Derived.WalkSpells
namespace Go.Proofs.YthoclnjfbigdiaaDoor
open Go.RowKit

/-- The cells from the address on hold the values; of an empty list nothing is asked. -/
def Row (w : World) (ao : Option Addr) (cs : List Value) : Prop :=
  cs = [] ∨ ∃ b off, ao = some ⟨b, off, none⟩ ∧ b < w.heap.size ∧ ∀ i v, cs[i]? = some v → w.cell? ⟨b, off + i, none⟩ = some v

theorem Row.nil (w : World) (ao : Option Addr) : Row w ao [] := .inl rfl

theorem Row.keep {w w' : World} {ao : Option Addr} {cs : List Value} {B : Nat} (h : Row w ao cs) (hb : Below B w w') (hB : w.heap.size ≤ B) : Row w' ao cs := by
  rcases h with h | ⟨b, off, e, hlt, hc⟩
  · exact .inl h
  · refine .inr ⟨b, off, e, Nat.lt_of_lt_of_le hlt hb.size, fun i v hv => ?_⟩
    rw [hb.cell (p := ⟨b, off + i, none⟩) (by show b < B; omega)]
    exact hc i v hv

theorem Row.drewN {w : World} {ao : Option Addr} {cs : List Value} (h : Row w ao cs) (n : Nat) : Row (w.drewN n) ao cs := h

/-- Below over draws. -/
theorem belowDrewN {B : Nat} {a w : World} (h : Below B a w) (n : Nat) : Below B a (w.drewN n) := ⟨h.os, h.tape, h.output, h.size, h.block⟩

theorem belowDrew {B : Nat} {a w : World} (h : Below B a w) : Below B a w.drew := ⟨h.os, h.tape, h.output, h.size, h.block⟩

theorem Row.at {w : World} {ao : Option Addr} {cs : List Value} (h : Row w ao cs) (hne : cs ≠ []) : ∃ b off, ao = some ⟨b, off, none⟩ ∧ b < w.heap.size ∧ ∀ i v, cs[i]? = some v → w.cell? ⟨b, off + i, none⟩ = some v := by
  rcases h with h | h
  · exact absurd h hne
  · exact h

/-- A row of bools, asked at one place. -/
theorem boolAt {w : World} {b off : Nat} {l : List Bool} (hc : ∀ i v, (l.map Value.bool)[i]? = some v → w.cell? ⟨b, off + i, none⟩ = some v) (k : Nat) (hk : k < l.length) : w.cell? ⟨b, off + k, none⟩ = some (.bool (l.getD k false)) :=
  hc k _ (by simp [hk])

theorem intAt {w : World} {b off : Nat} {l : List Int} (hc : ∀ i v, (l.map (Value.int .i64))[i]? = some v → w.cell? ⟨b, off + i, none⟩ = some v) (k : Nat) (hk : k < l.length) : w.cell? ⟨b, off + k, none⟩ = some (.int .i64 (l.getD k 0)) :=
  hc k _ (by simp [hk])

/-- Two lists of one length are the same where each place is. -/
theorem listEq {α : Type} {l m : List α} {d : α} (hl : l.length = m.length) (h : ∀ j, j < l.length → l.getD j d = m.getD j d) : l = m := by
  apply List.ext_getElem hl
  intro i h1 h2
  have := h i h1
  simpa [List.getD, List.getElem?_eq_getElem h1, List.getElem?_eq_getElem h2] using this

theorem listNe {α : Type} {l m : List α} {d : α} {k : Nat} (h : l.getD k d ≠ m.getD k d) : l ≠ m := fun e => h (by rw [e])

theorem Row.alloc {w : World} {ao : Option Addr} {cs : List Value} (h : Row w ao cs) (o : Obj) : Row (w.alloc o) ao cs :=
  h.keep ((Below.refl w.heap.size w).alloc (Nat.le_refl _) o) (Nat.le_refl _)

/-- A row that was just laid. -/
theorem Row.laid (w : World) (cs : List Value) (t : TypeId) (n : Nat) (hn : n = w.heap.size) : Row (w.alloc (.cells cs.toArray t)) (some ⟨n, 0, none⟩) cs := by
  subst hn
  refine .inr ⟨w.heap.size, 0, rfl, by simp, fun i v hv => ?_⟩
  rw [World.cell?_alloc_at (hn := rfl)]
  simpa using hv

/-- A block that the call itself laid: its cells, none of them frozen. -/
def Blk (w : World) (g : Nat) (cs : List Value) (t : TypeId) : Prop := w.heap[g]? = some (.cells cs.toArray t (0, 0))

theorem Blk.lt {w : World} {g : Nat} {cs : List Value} {t : TypeId} (h : Blk w g cs t) : g < w.heap.size := by
  unfold Blk at h
  exact (Array.getElem?_eq_some_iff.1 h).1

theorem Blk.cell {w : World} {g : Nat} {cs : List Value} {t : TypeId} (h : Blk w g cs t) (i : Nat) : w.cell? ⟨g, i, none⟩ = cs[i]? := by
  rw [cell_of_row w g i cs.toArray t (0, 0) h]
  simp

theorem Blk.free {w : World} {g : Nat} {cs : List Value} {t : TypeId} (h : Blk w g cs t) (i : Nat) : w.frozen? ⟨g, i, none⟩ = false :=
  frozen_of_row w g i cs.toArray t h

theorem Blk.set {w : World} {g : Nat} {cs : List Value} {t : TypeId} (h : Blk w g cs t) (i : Nat) (u : Value) : Blk (w.setCell ⟨g, i, none⟩ u) g (cs.set i u) t := by
  unfold Blk
  rw [heap_setCell_same w g i cs.toArray t u h]
  simp

theorem Blk.keep {w w' : World} {g B : Nat} {cs : List Value} {t : TypeId} (h : Blk w g cs t) (hb : Below B w w') (hg : g < B) : Blk w' g cs t :=
  (hb.block g hg).trans h

theorem Blk.laid (w : World) (cs : List Value) (t : TypeId) (n : Nat) (hn : n = w.heap.size) : Blk (w.alloc (.cells cs.toArray t)) n cs t := by
  subst hn
  exact heap_alloc_new w _

theorem Blk.row {w : World} {g : Nat} {cs : List Value} {t : TypeId} (h : Blk w g cs t) (off : Nat) (l : List Value) (hl : ∀ i v, l[i]? = some v → cs[off + i]? = some v) : Row w (some ⟨g, off, none⟩) l :=
  .inr ⟨g, off, rfl, h.lt, fun i v hv => by rw [h.cell]; exact hl i v hv⟩

/-- A slice of one-cell elements: its address, length and capacity, and the values that its elements are. -/
structure Sl (w : World) (ao : Option Addr) (cap : Nat) (cs : List Value) : Prop where
  row : Row w ao cs
  le : cs.length ≤ cap
  max : cap ≤ 9223372036854775807
  nil : ao = none → cap = 0

theorem Sl.keep {w w' : World} {ao : Option Addr} {cap : Nat} {cs : List Value} {B : Nat} (h : Sl w ao cap cs) (hb : Below B w w') (hB : w.heap.size ≤ B) : Sl w' ao cap cs :=
  ⟨h.row.keep hb hB, h.le, h.max, h.nil⟩

theorem Sl.ofBlk {w : World} {g : Nat} {cs : List Value} {t : TypeId} (h : Blk w g cs t) (hm : cs.length ≤ 9223372036854775807) : Sl w (some ⟨g, 0, none⟩) cs.length cs :=
  ⟨h.row 0 cs (fun i v hv => by rw [Nat.zero_add]; exact hv), Nat.le_refl _, hm, fun e => by cases e⟩

theorem Sl.ofNil (w : World) : Sl w none 0 [] := ⟨.inl rfl, Nat.le_refl _, by decide, fun _ => rfl⟩

/-- The source of an append: its cells, wherever it lies. -/
theorem Sl.src {w : World} {ao : Option Addr} {cap : Nat} {cs : List Value} (h : Sl w ao cap cs) : ∀ ad, ao = some ad → ∀ j u, cs[j]? = some u → w.cell? (ad.add j) = some u := by
  intro ad had j u hu
  obtain ⟨b, off, e, _, hc⟩ := h.row.at (by intro e; rw [e] at hu; simp at hu)
  rw [e] at had
  obtain rfl := Option.some.inj had
  rw [Addr.add_lit]
  exact hc j u hu

theorem Sl.src0 {w : World} {ao : Option Addr} {cap : Nat} {cs : List Value} (h : Sl w ao cap cs) : ao = none → cs.length = 0 ∧ cap = 0 := by
  intro e
  have h1 := h.nil e
  have h2 := h.le
  exact ⟨by omega, h1⟩

theorem ownOfBlk {w : World} {g : Nat} {cs : List Value} {t : TypeId} (h : Blk w g cs t) (base : Nat) (hb : base ≤ g) (n : Nat) (hn : n ≤ cs.length) (hm : cs.length ≤ maxLen) : w.ownsRow base t 1 (.slice (some ⟨g, 0, none⟩) n cs.length) n (cs.take n) :=
  ⟨by simp; omega, .inr ⟨g, cs.length, cs.toArray, rfl, hb, h, hn, hm, by simp, by simp⟩⟩

theorem slOfOwn {w : World} {base g n cap : Nat} {xs : List Value} {t : TypeId} (h : w.ownsRow base t 1 (.slice (some ⟨g, 0, none⟩) n cap) n xs) : Sl w (some ⟨g, 0, none⟩) cap xs ∧ xs.length = n := by
  have hx : xs.length = n := by simpa using h.1
  rcases h.2 with ⟨h', _⟩ | ⟨g', cap', cur, h', _, hg, hnc, hcm, _, _⟩
  · simp at h'
  · simp only [Value.slice.injEq, Option.some.injEq, Addr.mk.injEq, and_true, true_and] at h'
    obtain ⟨rfl, rfl⟩ := h'
    refine ⟨⟨.inr ⟨g, 0, rfl, (Array.getElem?_eq_some_iff.1 hg).1, fun i v hv => ?_⟩, by omega, by unfold maxLen at hcm; exact hcm, fun e => by cases e⟩, hx⟩
    rw [Nat.zero_add, h.cellAt i (by have := (List.getElem?_eq_some_iff.1 hv).1; omega)]
    exact hv

theorem Sl.alloc {w : World} {ao : Option Addr} {cap : Nat} {cs : List Value} (h : Sl w ao cap cs) (o : Obj) : Sl (w.alloc o) ao cap cs :=
  ⟨h.row.alloc o, h.le, h.max, h.nil⟩

theorem Sl.drewN {w : World} {ao : Option Addr} {cap : Nat} {cs : List Value} (h : Sl w ao cap cs) (n : Nat) : Sl (w.drewN n) ao cap cs :=
  ⟨h.row.drewN n, h.le, h.max, h.nil⟩

theorem Sl.call {w w' : World} {ao : Option Addr} {cap : Nat} {cs : List Value} (h : Sl w ao cap cs) (hb : Below w.heap.size w w') : Sl w' ao cap cs := h.keep hb (Nat.le_refl _)

/-- A row that was just laid, as a slice. -/
theorem Sl.laid (w : World) (cs : List Value) (t : TypeId) (n : Nat) (hn : n = w.heap.size) (cap : Nat) (hc : cs.length = cap) (hm : cap ≤ 9223372036854775807) : Sl (w.alloc (.cells cs.toArray t)) (some ⟨n, 0, none⟩) cap cs :=
  ⟨Row.laid w cs t n hn, by omega, hm, fun e => by cases e⟩

/-- What a call behind leaves of the world ahead. -/
theorem belowCall {w W w' : World} (h : Below w.heap.size w W) (hb : Below W.heap.size W w') : Below w.heap.size w w' := h.trans (hb.mono h.size)

/-- One cell of a slice of ints. -/
theorem Sl.int {w : World} {b off cap : Nat} {l : List Int} (h : Sl w (some ⟨b, off, none⟩) cap (l.map (Value.int .i64))) (k : Nat) (hk : k < l.length) : w.cell? ⟨b, off + k, none⟩ = some (.int .i64 (l.getD k 0)) := by
  have := h.src ⟨b, off, none⟩ rfl k (.int .i64 (l.getD k 0)) (by simp [hk])
  rw [Addr.add_lit] at this
  exact this

theorem Sl.bool {w : World} {b off cap : Nat} {l : List Bool} (h : Sl w (some ⟨b, off, none⟩) cap (l.map Value.bool)) (k : Nat) (hk : k < l.length) : w.cell? ⟨b, off + k, none⟩ = some (.bool (l.getD k false)) := by
  have := h.src ⟨b, off, none⟩ rfl k (.bool (l.getD k false)) (by simp [hk])
  rw [Addr.add_lit] at this
  exact this

/-- Where a call's slice lies: where the one lay that it was handed, or in new memory. -/
def Kin (B : Nat) (ao a' : Option Addr) : Prop := a' = ao ∨ ∀ ad, a' = some ad → B ≤ ad.block

/-- A slice does not lie in this block. -/
def Off (g : Nat) (ao : Option Addr) : Prop := ∀ ad, ao = some ad → ad.block ≠ g

theorem Kin.refl (B : Nat) (ao : Option Addr) : Kin B ao ao := .inl rfl
theorem Kin.nil (B : Nat) (ao : Option Addr) : Kin B ao none := .inr (fun _ h => by cases h)
theorem Kin.new (B off : Nat) (ao : Option Addr) : Kin B ao (some ⟨B, off, none⟩) := .inr (fun _ h => by cases h; exact Nat.le_refl _)
theorem Kin.fresh {B B0 : Nat} {ao a' : Option Addr} (h : Kin B none a') (hb : B0 ≤ B) : Kin B0 ao a' := by
  rcases h with rfl | h
  · exact Kin.nil _ _
  · exact .inr (fun ad e => Nat.le_trans hb (h ad e))
theorem Kin.trans {B B' : Nat} {ao a1 a2 : Option Addr} (h : Kin B ao a1) (h2 : Kin B' a1 a2) (hb : B ≤ B') : Kin B ao a2 := by
  rcases h2 with rfl | h2
  · exact h
  · exact .inr (fun ad e => Nat.le_trans hb (h2 ad e))
theorem Off.kin {g B : Nat} {ao a' : Option Addr} (h : Off g ao) (hk : Kin B ao a') (hg : g < B) : Off g a' := by
  intro ad e
  rcases hk with rfl | hk
  · exact h ad e
  · have := hk ad e
    omega
theorem Off.nil (g : Nat) : Off g none := fun _ h => by cases h

/-- A row that lies elsewhere stays while one block alone is written. -/
theorem Row.off {w w' : World} {ao : Option Addr} {cs : List Value} {g : Nat} (h : Row w ao cs) (hg : w.grownBy w' (some g)) (ho : Off g ao) : Row w' ao cs := by
  rcases h with h | ⟨b, off, rfl, hb, hc⟩
  · exact .inl h
  · refine .inr ⟨b, off, rfl, Nat.lt_of_lt_of_le hb hg.size, fun i u hu => ?_⟩
    exact hg.cell (hc i u hu) (fun e => ho _ rfl (Option.some.inj e))

theorem Sl.off {w w' : World} {ao : Option Addr} {cap : Nat} {cs : List Value} {g : Nat} (h : Sl w ao cap cs) (hg : w.grownBy w' (some g)) (ho : Off g ao) : Sl w' ao cap cs :=
  ⟨h.row.off hg ho, h.le, h.max, h.nil⟩

/-- A slice that lay there ahead lies in no block that came behind. -/
theorem Sl.offNew {w : World} {ao : Option Addr} {cap : Nat} {cs : List Value} {g : Nat} (h : Sl w ao cap cs) (hg : w.heap.size ≤ g) (hne : cs ≠ []) : Off g ao := by
  obtain ⟨b, off, rfl, hb, _⟩ := h.row.at hne
  intro ad e
  cases e
  show b ≠ g
  omega

end Go.Proofs.YthoclnjfbigdiaaDoor
