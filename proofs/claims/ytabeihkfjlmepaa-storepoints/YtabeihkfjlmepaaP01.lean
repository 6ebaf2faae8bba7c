/-
  Plain facts that name no function of the program: what it means that a slice's cells hold a list of values ('Row'), and how that stays true while a call makes new memory.
-/
import Derived.Test.YtabeihkfjlmepaaChecked
import Derived.WalkKit
import Derived.ProofKit
import Derived.OpenShut
import Derived.Deep.QuietTactic
import Derived.BigQuiet
import Derived.Deep.Draws
import Derived.Deep.LoopGhost
import Derived.WalkLawsBesides
import Derived.WalkSpells
import Derived.SizedLaws
import Derived.ChangeOld
import Derived.Below
import Derived.Deep.Slices
import Derived.Deep.SlicePairs
namespace Go.Proofs.Ytabeihkfjlmepaa
open Go.RowKit

/-- The cells from the address on hold the values; of an empty list nothing is asked. -/
def Row (w : World) (ao : Option Addr) (cs : List Value) : Prop :=
  cs = [] ∨ ∃ b off, ao = some ⟨b, off, none⟩ ∧ b < w.heap.size ∧ ∀ i v, cs[i]? = some v → w.cell? ⟨b, off + i, none⟩ = some v

theorem Row.nil (w : World) (ao : Option Addr) : Row w ao [] := .inl rfl

theorem Row.keep {w w' : World} {ao : Option Addr} {cs : List Value} {B : Nat} (h : Row w ao cs) (hb : Below B w w') (hB : w.heap.size ≤ B) : Row w' ao cs := by
  rcases h with h | ⟨b, off, e, hlt, hc⟩
  · exact .inl h
  · refine .inr ⟨b, off, e, Nat.lt_of_lt_of_le hlt hb.size, fun i v hv => ?_⟩
    rw [hb.cell (p := ⟨b, off + i, none⟩) (by show b < B; omega)]
    exact hc i v hv

theorem Row.drewN {w : World} {ao : Option Addr} {cs : List Value} (h : Row w ao cs) (n : Nat) : Row (w.drewN n) ao cs := h

/-- Below over draws. -/
theorem belowDrewN {B : Nat} {a w : World} (h : Below B a w) (n : Nat) : Below B a (w.drewN n) := ⟨h.os, h.tape, h.output, h.size, h.block⟩

theorem belowDrew {B : Nat} {a w : World} (h : Below B a w) : Below B a w.drew := ⟨h.os, h.tape, h.output, h.size, h.block⟩

theorem Row.at {w : World} {ao : Option Addr} {cs : List Value} (h : Row w ao cs) (hne : cs ≠ []) : ∃ b off, ao = some ⟨b, off, none⟩ ∧ b < w.heap.size ∧ ∀ i v, cs[i]? = some v → w.cell? ⟨b, off + i, none⟩ = some v := by
  rcases h with h | h
  · exact absurd h hne
  · exact h

/-- A row of bools, asked at one place. -/
theorem boolAt {w : World} {b off : Nat} {l : List Bool} (hc : ∀ i v, (l.map Value.bool)[i]? = some v → w.cell? ⟨b, off + i, none⟩ = some v) (k : Nat) (hk : k < l.length) : w.cell? ⟨b, off + k, none⟩ = some (.bool (l.getD k false)) :=
  hc k _ (by simp [hk])

theorem intAt {w : World} {b off : Nat} {l : List Int} (hc : ∀ i v, (l.map (Value.int .i64))[i]? = some v → w.cell? ⟨b, off + i, none⟩ = some v) (k : Nat) (hk : k < l.length) : w.cell? ⟨b, off + k, none⟩ = some (.int .i64 (l.getD k 0)) :=
  hc k _ (by simp [hk])

/-- Two lists of one length are the same where each place is. -/
theorem listEq {α : Type} {l m : List α} {d : α} (hl : l.length = m.length) (h : ∀ j, j < l.length → l.getD j d = m.getD j d) : l = m := by
  apply List.ext_getElem hl
  intro i h1 h2
  have := h i h1
  simpa [List.getD, List.getElem?_eq_getElem h1, List.getElem?_eq_getElem h2] using this

theorem listNe {α : Type} {l m : List α} {d : α} {k : Nat} (h : l.getD k d ≠ m.getD k d) : l ≠ m := fun e => h (by rw [e])

theorem Row.alloc {w : World} {ao : Option Addr} {cs : List Value} (h : Row w ao cs) (o : Obj) : Row (w.alloc o) ao cs :=
  h.keep ((Below.refl w.heap.size w).alloc (Nat.le_refl _) o) (Nat.le_refl _)

/-- A row that was just laid. -/
theorem Row.laid (w : World) (cs : List Value) (t : TypeId) (n : Nat) (hn : n = w.heap.size) : Row (w.alloc (.cells cs.toArray t)) (some ⟨n, 0, none⟩) cs := by
  subst hn
  refine .inr ⟨w.heap.size, 0, rfl, by simp, fun i v hv => ?_⟩
  rw [World.cell?_alloc_at (hn := rfl)]
  simpa using hv

/-- A block that the call itself laid: its cells, none of them frozen. -/
def Blk (w : World) (g : Nat) (cs : List Value) (t : TypeId) : Prop := w.heap[g]? = some (.cells cs.toArray t (0, 0))

theorem Blk.lt {w : World} {g : Nat} {cs : List Value} {t : TypeId} (h : Blk w g cs t) : g < w.heap.size := by
  unfold Blk at h
  exact (Array.getElem?_eq_some_iff.1 h).1

theorem Blk.cell {w : World} {g : Nat} {cs : List Value} {t : TypeId} (h : Blk w g cs t) (i : Nat) : w.cell? ⟨g, i, none⟩ = cs[i]? := by
  rw [cell_of_row w g i cs.toArray t (0, 0) h]
  simp

theorem Blk.free {w : World} {g : Nat} {cs : List Value} {t : TypeId} (h : Blk w g cs t) (i : Nat) : w.frozen? ⟨g, i, none⟩ = false :=
  frozen_of_row w g i cs.toArray t h

theorem Blk.set {w : World} {g : Nat} {cs : List Value} {t : TypeId} (h : Blk w g cs t) (i : Nat) (u : Value) : Blk (w.setCell ⟨g, i, none⟩ u) g (cs.set i u) t := by
  unfold Blk
  rw [heap_setCell_same w g i cs.toArray t u h]
  simp

theorem Blk.keep {w w' : World} {g B : Nat} {cs : List Value} {t : TypeId} (h : Blk w g cs t) (hb : Below B w w') (hg : g < B) : Blk w' g cs t :=
  (hb.block g hg).trans h

theorem Blk.laid (w : World) (cs : List Value) (t : TypeId) (n : Nat) (hn : n = w.heap.size) : Blk (w.alloc (.cells cs.toArray t)) n cs t := by
  subst hn
  exact heap_alloc_new w _

theorem Blk.row {w : World} {g : Nat} {cs : List Value} {t : TypeId} (h : Blk w g cs t) (off : Nat) (l : List Value) (hl : ∀ i v, l[i]? = some v → cs[off + i]? = some v) : Row w (some ⟨g, off, none⟩) l :=
  .inr ⟨g, off, rfl, h.lt, fun i v hv => by rw [h.cell]; exact hl i v hv⟩

/-- A slice of one-cell elements: its address, length and capacity, and the values that its elements are. -/
structure Sl (w : World) (ao : Option Addr) (cap : Nat) (cs : List Value) : Prop where
  row : Row w ao cs
  le : cs.length ≤ cap
  max : cap ≤ 9223372036854775807
  nil : ao = none → cap = 0

theorem Sl.keep {w w' : World} {ao : Option Addr} {cap : Nat} {cs : List Value} {B : Nat} (h : Sl w ao cap cs) (hb : Below B w w') (hB : w.heap.size ≤ B) : Sl w' ao cap cs :=
  ⟨h.row.keep hb hB, h.le, h.max, h.nil⟩

theorem Sl.ofBlk {w : World} {g : Nat} {cs : List Value} {t : TypeId} (h : Blk w g cs t) (hm : cs.length ≤ 9223372036854775807) : Sl w (some ⟨g, 0, none⟩) cs.length cs :=
  ⟨h.row 0 cs (fun i v hv => by rw [Nat.zero_add]; exact hv), Nat.le_refl _, hm, fun e => by cases e⟩

theorem Sl.ofNil (w : World) : Sl w none 0 [] := ⟨.inl rfl, Nat.le_refl _, by decide, fun _ => rfl⟩

/-- The source of an append: its cells, wherever it lies. -/
theorem Sl.src {w : World} {ao : Option Addr} {cap : Nat} {cs : List Value} (h : Sl w ao cap cs) : ∀ ad, ao = some ad → ∀ j u, cs[j]? = some u → w.cell? (ad.add j) = some u := by
  intro ad had j u hu
  obtain ⟨b, off, e, _, hc⟩ := h.row.at (by intro e; rw [e] at hu; simp at hu)
  rw [e] at had
  obtain rfl := Option.some.inj had
  rw [Addr.add_lit]
  exact hc j u hu

theorem Sl.src0 {w : World} {ao : Option Addr} {cap : Nat} {cs : List Value} (h : Sl w ao cap cs) : ao = none → cs.length = 0 ∧ cap = 0 := by
  intro e
  have h1 := h.nil e
  have h2 := h.le
  exact ⟨by omega, h1⟩

theorem ownOfBlk {w : World} {g : Nat} {cs : List Value} {t : TypeId} (h : Blk w g cs t) (base : Nat) (hb : base ≤ g) (n : Nat) (hn : n ≤ cs.length) (hm : cs.length ≤ maxLen) : w.ownsRow base t 1 (.slice (some ⟨g, 0, none⟩) n cs.length) n (cs.take n) :=
  ⟨by simp; omega, .inr ⟨g, cs.length, cs.toArray, rfl, hb, h, hn, hm, by simp, by simp⟩⟩

theorem slOfOwn {w : World} {base g n cap : Nat} {xs : List Value} {t : TypeId} (h : w.ownsRow base t 1 (.slice (some ⟨g, 0, none⟩) n cap) n xs) : Sl w (some ⟨g, 0, none⟩) cap xs ∧ xs.length = n := by
  have hx : xs.length = n := by simpa using h.1
  rcases h.2 with ⟨h', _⟩ | ⟨g', cap', cur, h', _, hg, hnc, hcm, _, _⟩
  · simp at h'
  · simp only [Value.slice.injEq, Option.some.injEq, Addr.mk.injEq, and_true, true_and] at h'
    obtain ⟨rfl, rfl⟩ := h'
    refine ⟨⟨.inr ⟨g, 0, rfl, (Array.getElem?_eq_some_iff.1 hg).1, fun i v hv => ?_⟩, by omega, by unfold maxLen at hcm; exact hcm, fun e => by cases e⟩, hx⟩
    rw [Nat.zero_add, h.cellAt i (by have := (List.getElem?_eq_some_iff.1 hv).1; omega)]
    exact hv

theorem Sl.alloc {w : World} {ao : Option Addr} {cap : Nat} {cs : List Value} (h : Sl w ao cap cs) (o : Obj) : Sl (w.alloc o) ao cap cs :=
  ⟨h.row.alloc o, h.le, h.max, h.nil⟩

theorem Sl.drewN {w : World} {ao : Option Addr} {cap : Nat} {cs : List Value} (h : Sl w ao cap cs) (n : Nat) : Sl (w.drewN n) ao cap cs :=
  ⟨h.row.drewN n, h.le, h.max, h.nil⟩

theorem Sl.call {w w' : World} {ao : Option Addr} {cap : Nat} {cs : List Value} (h : Sl w ao cap cs) (hb : Below w.heap.size w w') : Sl w' ao cap cs := h.keep hb (Nat.le_refl _)

/-- A row that was just laid, as a slice. -/
theorem Sl.laid (w : World) (cs : List Value) (t : TypeId) (n : Nat) (hn : n = w.heap.size) (cap : Nat) (hc : cs.length = cap) (hm : cap ≤ 9223372036854775807) : Sl (w.alloc (.cells cs.toArray t)) (some ⟨n, 0, none⟩) cap cs :=
  ⟨Row.laid w cs t n hn, by omega, hm, fun e => by cases e⟩

/-- What a call behind leaves of the world ahead. -/
theorem belowCall {w W w' : World} (h : Below w.heap.size w W) (hb : Below W.heap.size W w') : Below w.heap.size w w' := h.trans (hb.mono h.size)

/-- One cell of a slice of ints. -/
theorem Sl.int {w : World} {b off cap : Nat} {l : List Int} (h : Sl w (some ⟨b, off, none⟩) cap (l.map (Value.int .i64))) (k : Nat) (hk : k < l.length) : w.cell? ⟨b, off + k, none⟩ = some (.int .i64 (l.getD k 0)) := by
  have := h.src ⟨b, off, none⟩ rfl k (.int .i64 (l.getD k 0)) (by simp [hk])
  rw [Addr.add_lit] at this
  exact this

theorem Sl.bool {w : World} {b off cap : Nat} {l : List Bool} (h : Sl w (some ⟨b, off, none⟩) cap (l.map Value.bool)) (k : Nat) (hk : k < l.length) : w.cell? ⟨b, off + k, none⟩ = some (.bool (l.getD k false)) := by
  have := h.src ⟨b, off, none⟩ rfl k (.bool (l.getD k false)) (by simp [hk])
  rw [Addr.add_lit] at this
  exact this

/-- Where a call's slice lies: where the one lay that it was handed, or in new memory. -/
def Kin (B : Nat) (ao a' : Option Addr) : Prop := a' = ao ∨ ∀ ad, a' = some ad → B ≤ ad.block

/-- A slice does not lie in this block. -/
def Off (g : Nat) (ao : Option Addr) : Prop := ∀ ad, ao = some ad → ad.block ≠ g

theorem Kin.refl (B : Nat) (ao : Option Addr) : Kin B ao ao := .inl rfl
theorem Kin.nil (B : Nat) (ao : Option Addr) : Kin B ao none := .inr (fun _ h => by cases h)
theorem Kin.new (B off : Nat) (ao : Option Addr) : Kin B ao (some ⟨B, off, none⟩) := .inr (fun _ h => by cases h; exact Nat.le_refl _)
theorem Kin.fresh {B B0 : Nat} {ao a' : Option Addr} (h : Kin B none a') (hb : B0 ≤ B) : Kin B0 ao a' := by
  rcases h with rfl | h
  · exact Kin.nil _ _
  · exact .inr (fun ad e => Nat.le_trans hb (h ad e))
theorem Kin.trans {B B' : Nat} {ao a1 a2 : Option Addr} (h : Kin B ao a1) (h2 : Kin B' a1 a2) (hb : B ≤ B') : Kin B ao a2 := by
  rcases h2 with rfl | h2
  · exact h
  · exact .inr (fun ad e => Nat.le_trans hb (h2 ad e))
theorem Off.kin {g B : Nat} {ao a' : Option Addr} (h : Off g ao) (hk : Kin B ao a') (hg : g < B) : Off g a' := by
  intro ad e
  rcases hk with rfl | hk
  · exact h ad e
  · have := hk ad e
    omega
theorem Off.nil (g : Nat) : Off g none := fun _ h => by cases h

/-- A row that lies elsewhere stays while one block alone is written. -/
theorem Row.off {w w' : World} {ao : Option Addr} {cs : List Value} {g : Nat} (h : Row w ao cs) (hg : w.grownBy w' (some g)) (ho : Off g ao) : Row w' ao cs := by
  rcases h with h | ⟨b, off, rfl, hb, hc⟩
  · exact .inl h
  · refine .inr ⟨b, off, rfl, Nat.lt_of_lt_of_le hb hg.size, fun i u hu => ?_⟩
    exact hg.cell (hc i u hu) (fun e => ho _ rfl (Option.some.inj e))

theorem Sl.off {w w' : World} {ao : Option Addr} {cap : Nat} {cs : List Value} {g : Nat} (h : Sl w ao cap cs) (hg : w.grownBy w' (some g)) (ho : Off g ao) : Sl w' ao cap cs :=
  ⟨h.row.off hg ho, h.le, h.max, h.nil⟩

/-- A slice that lay there ahead lies in no block that came behind. -/
theorem Sl.offNew {w : World} {ao : Option Addr} {cap : Nat} {cs : List Value} {g : Nat} (h : Sl w ao cap cs) (hg : w.heap.size ≤ g) (hne : cs ≠ []) : Off g ao := by
  obtain ⟨b, off, rfl, hb, _⟩ := h.row.at hne
  intro ad e
  cases e
  show b ≠ g
  omega

end Go.Proofs.Ytabeihkfjlmepaa

/-
  Plain facts on bits and numbers: no program is named.
-/
namespace Go.Proofs.Ytabeihkfjlmepaa
open Go.RowKit

/-- A width that may be asked. -/
def okW (width : Int) : Bool := decide (0 ≤ width ∧ width ≤ 40)
/-- A number that fits. -/
def okN (n width : Int) : Bool := decide (0 ≤ n ∧ n < 2 ^ width.toNat)
/-- A number's bit, counted from the least one. -/
def bitAt (n : Int) (j : Nat) : Bool := decide (n / 2 ^ j % 2 = 1)
/-- A number in so many bits, the greatest one first. -/
def bitsOf (n : Int) (w : Nat) : List Bool := (List.range w).map fun i => bitAt n (w - 1 - i)
/-- The number that bits say. -/
def numOf : List Bool → Nat
  | [] => 0
  | b :: l => b.toNat * 2 ^ l.length + numOf l

theorem length_bitsOf (n : Int) (w : Nat) : (bitsOf n w).length = w := by simp [bitsOf]

theorem bitsOf_get (n : Int) (w i : Nat) (h : i < w) : (bitsOf n w)[i]? = some (bitAt n (w - 1 - i)) := by
  simp [bitsOf, h]

theorem okW_true {w : Int} (h : okW w = true) : 0 ≤ w ∧ w ≤ 40 := of_decide_eq_true h
theorem okW_false {w : Int} (h : okW w = false) : w < 0 ∨ 40 < w := by
  have := of_decide_eq_false h
  omega

theorem pow_le_40 (k : Nat) (h : k ≤ 40) : (2 : Int) ^ k ≤ 1099511627776 := by
  have : (2 : Nat) ^ k ≤ 2 ^ 40 := Nat.pow_le_pow_right (by decide) h
  have h2 : ((2 ^ k : Nat) : Int) ≤ ((2 ^ 40 : Nat) : Int) := Int.ofNat_le.2 this
  simpa using h2

theorem pow_pos (k : Nat) : (0 : Int) < 2 ^ k := Int.pow_pos (by decide)

/-- A number fits just where nothing is left behind its shift. -/
theorem okN_shift {n w : Int} (h0 : 0 ≤ n) : okN n w = (n / 2 ^ w.toNat == 0) := by
  have hp := pow_pos w.toNat
  unfold okN
  rw [Bool.eq_iff_iff]
  simp only [decide_eq_true_eq, beq_iff_eq]
  constructor
  · intro h; exact Int.ediv_eq_zero_of_lt h0 h.2
  · intro h
    refine ⟨h0, ?_⟩
    have := Int.mul_ediv_add_emod n (2 ^ w.toNat)
    rw [h] at this
    have h3 := Int.emod_lt_of_pos n hp
    omega

theorem numOf_snoc (l : List Bool) (b : Bool) : numOf (l ++ [b]) = 2 * numOf l + b.toNat := by
  induction l with
  | nil => simp [numOf]
  | cons a l ih =>
    simp only [List.cons_append, numOf, ih, List.length_append, List.length_singleton, Nat.pow_succ]
    rw [Nat.mul_add, ← Nat.add_assoc]
    congr 2
    rw [← Nat.mul_assoc, Nat.mul_comm _ 2]

theorem numOf_lt (l : List Bool) : numOf l < 2 ^ l.length := by
  induction l with
  | nil => simp [numOf]
  | cons b l ih =>
    simp only [numOf, List.length_cons, Nat.pow_succ]
    cases b <;> simp <;> omega

theorem tmod_up {k n : Int} (hn : 1 ≤ n) (h : 0 ≤ k.tmod n) : k.tmod n = k % n := by
  have h1 := Int.mul_tdiv_add_tmod k n
  have h2 := Int.tmod_lt_of_pos k (show 0 < n by omega)
  conv => rhs; rw [← h1]
  rw [Int.mul_add_emod_self_left, Int.emod_eq_of_lt h h2]

theorem tmod_up' {k n : Int} (hn : 1 ≤ n) (h : k.tmod n < 0) : k.tmod n + n = k % n := by
  have h1 := Int.mul_tdiv_add_tmod k n
  have h2 := Int.lt_tmod_of_pos k (show 0 < n by omega)
  conv => rhs; rw [← h1]
  rw [Int.mul_add_emod_self_left, ← Int.add_emod_right, Int.emod_eq_of_lt (by omega) (by omega)]

theorem ret_int {k : IntKind} {a b : Int} (h : a = b) : Ending.returned (.int k a) = .returned (.int k b) := by rw [h]

/-- '& 1' of a number that is not below 0. -/
theorem and_one (x : Int) (h0 : 0 ≤ x) (h1 : x ≤ 9223372036854775807) : bits BinOp.and IntKind.i64 x 1 = x % 2 := by
  obtain ⟨n, rfl⟩ := Int.eq_ofNat_of_zero_le h0
  have e : (BitVec.ofInt 64 (n : Int)).toNat = n := by
    simp only [BitVec.toNat_ofInt]
    omega
  have e1 : (BitVec.ofInt 64 1).toNat = 1 := by decide
  show IntKind.i64.wrap ((BitVec.ofInt 64 (n : Int) &&& BitVec.ofInt 64 1).toNat : Nat) = _
  rw [BitVec.toNat_and, e, e1, Nat.and_one_is_mod, IntKind.wrap_i64]
  omega

theorem shifted_bounds (n : Int) (j : Nat) (h0 : 0 ≤ n) (h1 : n ≤ 9223372036854775807) : 0 ≤ n / 2 ^ j ∧ n / 2 ^ j ≤ 9223372036854775807 := by
  have hp := pow_pos j
  refine ⟨Int.ediv_nonneg h0 (Int.le_of_lt hp), ?_⟩
  have := Int.ediv_le_self (b := (2 : Int) ^ j) (a := n) h0
  omega

/-- The bit that Put stores. -/
theorem bit_stored (n : Int) (j : Nat) (h0 : 0 ≤ n) (h1 : n ≤ 9223372036854775807) : (bits BinOp.and IntKind.i64 (n / 2 ^ j) 1 == 1) = bitAt n j := by
  have hb := shifted_bounds n j h0 h1
  rw [and_one _ hb.1 hb.2]
  unfold bitAt
  rw [Bool.eq_iff_iff]
  simp

/-- The first bits of a number put, and as many zeros as are still to come. -/
theorem put_step (P : List Bool) (n : Int) (k i : Nat) (h : i < k) :
    ((P ++ (bitsOf n k).take i).map Value.bool ++ List.replicate (k - i) (Value.bool false)).set (P.length + i) (.bool (bitAt n (k - 1 - i))) = (P ++ (bitsOf n k).take (i + 1)).map Value.bool ++ List.replicate (k - (i + 1)) (Value.bool false) := by
  have hl : ((P ++ (bitsOf n k).take i).map Value.bool).length = P.length + i := by simp [length_bitsOf]; omega
  rw [List.set_append_right _ _ (by rw [hl]; exact Nat.le_refl _), hl, Nat.sub_self]
  obtain ⟨m, hm⟩ : ∃ m, k - i = m + 1 := ⟨k - i - 1, by omega⟩
  have hm2 : k - (i + 1) = m := by omega
  rw [hm, hm2, List.replicate_succ, List.set_cons_zero]
  have ht : (bitsOf n k).take (i + 1) = (bitsOf n k).take i ++ [bitAt n (k - 1 - i)] := by
    rw [List.take_add_one, bitsOf_get n k i h]
    simp
  rw [ht]
  simp

/-- '| 1' of an even number. -/
theorem or_one (n : Nat) (h : n < 1099511627776) : bits BinOp.or IntKind.i64 ((n : Int) * 2) 1 = (n : Int) * 2 + 1 := by
  have e : (BitVec.ofInt 64 ((n : Int) * 2)).toNat = n * 2 := by
    simp only [BitVec.toNat_ofInt]
    omega
  have e1 : (BitVec.ofInt 64 1).toNat = 1 := by decide
  show IntKind.i64.wrap ((BitVec.ofInt 64 ((n : Int) * 2) ||| BitVec.ofInt 64 1).toNat : Nat) = _
  have e2 : (n * 2) ||| 1 = n * 2 + 1 := by
    rw [Nat.mul_comm, ← Nat.two_pow_add_eq_or_of_lt (i := 1) (b := 1) (by decide) n]
  rw [BitVec.toNat_or, e, e1, e2, IntKind.wrap_i64]
  omega

theorem numOf_take (l : List Bool) (j : Nat) (h : j < l.length) : numOf (l.take (j + 1)) = 2 * numOf (l.take j) + (l.getD j false).toNat := by
  rw [List.take_add_one, List.getElem?_eq_getElem h]
  simp only [Option.toList_some]
  rw [numOf_snoc]
  simp [List.getD, List.getElem?_eq_getElem h]

theorem numOf_take_lt (l : List Bool) (j : Nat) : numOf (l.take j) < 2 ^ j := by
  have h1 := numOf_lt (l.take j)
  have h2 : (2 : Nat) ^ (l.take j).length ≤ 2 ^ j := Nat.pow_le_pow_right (by decide) (List.length_take_le _ _)
  omega

theorem pow_le_nat (k m : Nat) (h : k ≤ m) : (2 : Nat) ^ k ≤ 2 ^ m := Nat.pow_le_pow_right (by decide) h

/-- The last bits of a number laid from behind, and as many zeros as are still to be laid over. -/
theorem ref_step (n : Int) (k j : Nat) (h : j < k) :
    (List.replicate (k - j) (Value.bool false) ++ ((bitsOf n k).drop (k - j)).map Value.bool).set (k - 1 - j) (.bool (bitAt n j)) = List.replicate (k - (j + 1)) (Value.bool false) ++ ((bitsOf n k).drop (k - (j + 1))).map Value.bool := by
  obtain ⟨m, hm⟩ : ∃ m, k - j = m + 1 := ⟨k - j - 1, by omega⟩
  have h1 : k - 1 - j = m := by omega
  have h2 : k - (j + 1) = m := by omega
  have hd : (bitsOf n k).drop m = bitAt n j :: (bitsOf n k).drop (m + 1) := by
    have hlt : m < (bitsOf n k).length := by rw [length_bitsOf]; omega
    rw [List.drop_eq_getElem_cons hlt]
    congr 1
    have hg := bitsOf_get n k m (by omega)
    rw [List.getElem?_eq_getElem hlt] at hg
    have := Option.some.inj hg
    rw [this]
    congr 1
    omega
  rw [hm, h1, h2, hd, List.replicate_succ', List.append_assoc, List.set_append_right _ _ (by simp)]
  simp

theorem half_half (n : Int) (j : Nat) : n / 2 ^ j / 2 = n / 2 ^ (j + 1) := by
  rw [Int.pow_succ, Int.ediv_ediv_of_nonneg (Int.le_of_lt (pow_pos j))]

theorem bit_ref (n : Int) (j : Nat) : (n / 2 ^ j % 2 == 1) = bitAt n j := by
  unfold bitAt
  rw [Bool.eq_iff_iff]
  simp

/-- What Put answers: the error, the bits. -/
def putOk (n width : Int) : Bool := okW width && okN n width
def putE (n width : Int) : Int := if putOk n width then 0 else 3
def putL (l : List Bool) (n width : Int) : List Bool := if putOk n width then l ++ bitsOf n width.toNat else []
/-- What Take answers: the number, the bits behind, the error. -/
def takeOk (l : List Bool) (width : Int) : Bool := okW width && decide (width ≤ l.length)
def takeN (l : List Bool) (width : Int) : Int := if takeOk l width then numOf (l.take width.toNat) else 0
def takeL (l : List Bool) (width : Int) : List Bool := if takeOk l width then l.drop width.toNat else []
def takeE (l : List Bool) (width : Int) : Int := if takeOk l width then 0 else if okW width then 8 else 3

theorem putL_length (l : List Bool) (n width : Int) (hl : l.length ≤ 140737488351232) : (putL l n width).length ≤ 140737488355328 := by
  unfold putL
  split
  · rename_i h
    have hw := okW_true (by unfold putOk at h; simp at h; exact h.1)
    rw [List.length_append, length_bitsOf]
    omega
  · simp

theorem takeL_length (l : List Bool) (width : Int) (hl : l.length ≤ 140737488355328) : (takeL l width).length ≤ 140737488355328 := by
  unfold takeL
  split
  · rw [List.length_drop]; omega
  · simp

/-- The number of the last bits, one more from behind. -/
theorem numOf_behind (l : List Bool) (k j : Nat) (hk : k ≤ l.length) (h : j < k) : numOf ((l.take k).drop (k - (j + 1))) = (l.getD (k - 1 - j) false).toNat * 2 ^ j + numOf ((l.take k).drop (k - j)) := by
  obtain ⟨m, hm⟩ : ∃ m, k - (j + 1) = m := ⟨_, rfl⟩
  have h1 : k - 1 - j = m := by omega
  have h2 : k - j = m + 1 := by omega
  have hlt : m < (l.take k).length := by simp; omega
  rw [hm, h1, h2, List.drop_eq_getElem_cons hlt, numOf]
  have hl : ((l.take k).drop (m + 1)).length = j := by simp; omega
  rw [hl]
  congr 2
  simp [List.getD, List.getElem?_eq_getElem (show m < l.length by omega)]

theorem numOf_behind_lt (l : List Bool) (k j : Nat) (hk : k ≤ l.length) (h : j ≤ k) : numOf ((l.take k).drop (k - j)) < 2 ^ j := by
  have h1 := numOf_lt ((l.take k).drop (k - j))
  have hl : ((l.take k).drop (k - j)).length = j := by simp; omega
  rw [hl] at h1
  exact h1

end Go.Proofs.Ytabeihkfjlmepaa

/-
  The numbers of chapter 2: folded, in groups of four bits, and back. No function of the program is named here.
-/
namespace Go.Proofs.Ytabeihkfjlmepaa
open Go.RowKit

theorem hide {p : Prop} (h : p) : Hid p := h

/-- A number that may be put. -/
def zigOk (v : Int) : Bool := decide (-4000000 ≤ v ∧ v ≤ 4000000)
def foldN (v : Int) : Nat := if v < 0 then (-2 * v - 1).toNat else (2 * v).toNat
def unfoldN (n : Nat) : Int := if n % 2 = 1 then -(((n : Int) + 1) / 2) else (n : Int) / 2
/-- A group: whether there are more, and three bits. -/
def grp (m : Bool) (d : Nat) : List Bool := [m, decide (4 ≤ d), decide (2 ≤ d % 4), decide (d % 2 = 1)]
/-- The groups of a number, so many at most. -/
def code : Nat → Nat → List Bool
  | 0, _ => []
  | f + 1, n => grp (decide (0 < n / 8)) (n % 8) ++ (if n / 8 = 0 then [] else code f (n / 8))
def zigL (l : List Bool) (v : Int) : List Bool := if zigOk v then l ++ code 8 (foldN v) else []
def zigE (v : Int) : Int := if zigOk v then 0 else 3
/-- What is taken, from the group with that number on. -/
def decode : Nat → Nat → Nat → List Bool → Int × List Bool × Int
  | 0, _, _, _ => (0, [], 3)
  | f + 1, i, n, l =>
    if l.length < 4 then (0, [], 8)
    else if 0 < i ∧ numOf (l.take 4) = 0 then (0, [], 4)
    else if 8000000 < n + numOf (l.take 4) % 8 * 8 ^ i then (0, [], 3)
    else if numOf (l.take 4) < 8 then (unfoldN (n + numOf (l.take 4) % 8 * 8 ^ i), l.drop 4, 0)
    else decode f (i + 1) (n + numOf (l.take 4) % 8 * 8 ^ i) (l.drop 4)
def zigN (l : List Bool) : Int := (decode 8 0 0 l).1
def zigR (l : List Bool) : List Bool := (decode 8 0 0 l).2.1
def zigF (l : List Bool) : Int := (decode 8 0 0 l).2.2

theorem grp_length (m : Bool) (d : Nat) : (grp m d).length = 4 := rfl

theorem grp_low (d : Nat) (h : d < 8) : bitsOf (d : Int) 4 = grp false d := by
  have : ∀ d : Fin 8, bitsOf ((d.val : Nat) : Int) 4 = grp false d.val := by decide
  exact this ⟨d, h⟩

theorem grp_high (d : Nat) (h : d < 8) : bitsOf ((d : Int) + 8) 4 = grp true d := by
  have : ∀ d : Fin 8, bitsOf (((d.val : Nat) : Int) + 8) 4 = grp true d.val := by decide
  exact this ⟨d, h⟩

theorem numOf_grp (m : Bool) (d : Nat) (h : d < 8) : numOf (grp m d) = m.toNat * 8 + d := by
  have : ∀ (m : Bool) (d : Fin 8), numOf (grp m d.val) = m.toNat * 8 + d.val := by decide
  exact this m ⟨d, h⟩

theorem four (l : List Bool) (h : ¬ l.length < 4) : ∃ a b c d r, l = a :: b :: c :: d :: r := by
  match l, h with
  | [], h => exact absurd (by simp) h
  | [_], h => exact absurd (by simp) h
  | [_, _], h => exact absurd (by simp) h
  | [_, _, _], h => exact absurd (by simp) h
  | a :: b :: c :: d :: r, _ => exact ⟨a, b, c, d, r, rfl⟩

theorem numOf_four (a b c d : Bool) : numOf [a, b, c, d] = 8 * a.toNat + (4 * b.toNat + 2 * c.toNat + d.toNat) := by
  revert a b c d; decide

theorem grp_four (a b c d : Bool) : grp (decide (8 ≤ numOf [a, b, c, d])) (numOf [a, b, c, d] % 8) = [a, b, c, d] := by
  revert a b c d; decide

theorem foldN_le (v : Int) (h : zigOk v = true) : foldN v ≤ 8000000 := by
  have := of_decide_eq_true h
  unfold foldN; split <;> omega

theorem unfold_fold (v : Int) : unfoldN (foldN v) = v := by
  unfold unfoldN foldN
  by_cases h : v < 0
  · rw [if_pos h]
    obtain ⟨m, hm⟩ : ∃ m : Nat, m = (-2 * v - 1).toNat := ⟨_, rfl⟩
    rw [← hm]
    split <;> omega
  · rw [if_neg h]
    obtain ⟨m, hm⟩ : ∃ m : Nat, m = (2 * v).toNat := ⟨_, rfl⟩
    rw [← hm]
    split <;> omega

theorem fold_unfold (n : Nat) : foldN (unfoldN n) = n := by
  unfold unfoldN
  by_cases h : n % 2 = 1
  · rw [if_pos h]
    unfold foldN
    split <;> omega
  · rw [if_neg h]
    unfold foldN
    split <;> omega

theorem unfold_ok (n : Nat) (h : n ≤ 8000000) : zigOk (unfoldN n) = true := by
  unfold zigOk unfoldN
  apply decide_eq_true
  split <;> omega

theorem code_len_le : ∀ (f n : Nat), (code f n).length ≤ 4 * f
  | 0, _ => by simp [code]
  | f + 1, n => by
    have := code_len_le f (n / 8)
    unfold code
    rw [List.length_append, grp_length]
    split
    · simp; omega
    · omega

theorem code_mono : ∀ (f m n : Nat), m ≤ n → (code f m).length ≤ (code f n).length
  | 0, _, _, _ => by simp [code]
  | f + 1, m, n, h => by
    have := code_mono f (m / 8) (n / 8) (by omega)
    unfold code
    rw [List.length_append, grp_length, List.length_append, grp_length]
    by_cases hm : m / 8 = 0
    · rw [if_pos hm]; simp
    · rw [if_neg hm, if_neg (by omega)]
      omega

theorem step_pow (m i : Nat) : m % 8 * 8 ^ i + m / 8 * 8 ^ (i + 1) = m * 8 ^ i := by
  rw [Nat.pow_succ, Nat.mul_comm (8 ^ i) 8, ← Nat.mul_assoc, ← Nat.add_mul]
  congr 1
  omega

/-- What was put is taken. -/
theorem decode_code : ∀ (f i n m : Nat) (r : List Bool), m < 8 ^ f → 0 < f → (0 < i → 0 < m) → n + m * 8 ^ i ≤ 8000000 → decode f i n (code f m ++ r) = (unfoldN (n + m * 8 ^ i), r, 0)
  | 0, _, _, _, _, _, h, _, _ => absurd h (by simp)
  | f + 1, i, n, m, r, hm, _, hi, hb => by
    have hstep := step_pow m i
    have hpi : 0 < 8 ^ i := Nat.pow_pos (by decide)
    have hg := numOf_grp (decide (0 < m / 8)) (m % 8) (Nat.mod_lt _ (by decide))
    have hle : n + m % 8 * 8 ^ i ≤ 8000000 := by
      have : 0 ≤ m / 8 * 8 ^ (i + 1) := Nat.zero_le _
      omega
    have htake : ∀ t : List Bool, (grp (decide (0 < m / 8)) (m % 8) ++ t).take 4 = grp (decide (0 < m / 8)) (m % 8) := fun t => rfl
    have hdrop : ∀ t : List Bool, (grp (decide (0 < m / 8)) (m % 8) ++ t).drop 4 = t := fun t => rfl
    rw [code, List.append_assoc, decode, htake, hdrop, hg]
    rw [if_neg (by rw [List.length_append, grp_length]; omega)]
    by_cases hz : m / 8 = 0
    · have h0 : ¬ 0 < m / 8 := by omega
      have hmm : m % 8 = m := by omega
      rw [decide_eq_false h0, if_pos hz, hmm]
      simp only [Bool.toNat_false, Nat.zero_mul, Nat.zero_add, hmm, List.nil_append]
      rw [if_neg (by rintro ⟨h1, h2⟩; have := hi h1; omega), if_neg (by omega), if_pos (by omega)]
    · have h0 : 0 < m / 8 := by omega
      rw [decide_eq_true h0, if_neg hz]
      simp only [Bool.toNat_true, Nat.one_mul]
      have h8 : (8 + m % 8) % 8 = m % 8 := by omega
      rw [h8, if_neg (by rintro ⟨h1, h2⟩; omega), if_neg (by omega), if_neg (by omega)]
      have hf : 0 < f := by
        cases f with
        | zero => simp at hm; omega
        | succ f => omega
      have hpf : m / 8 < 8 ^ f := by
        rw [Nat.pow_succ] at hm
        exact Nat.div_lt_of_lt_mul (by rw [Nat.mul_comm]; exact hm)
      rw [decode_code f (i + 1) _ (m / 8) r hpf hf (fun _ => h0) (by omega)]
      have : n + m % 8 * 8 ^ i + m / 8 * 8 ^ (i + 1) = n + m * 8 ^ i := by omega
      rw [this]

/-- What is taken was put. -/
theorem code_decode : ∀ (f i n : Nat) (l : List Bool) (z : Int) (r : List Bool), decode f i n l = (z, r, 0) → ∃ m, m < 8 ^ f ∧ (0 < i → 0 < m) ∧ n + m * 8 ^ i ≤ 8000000 ∧ z = unfoldN (n + m * 8 ^ i) ∧ l = code f m ++ r
  | 0, _, _, _, _, _, h => by simp [decode] at h
  | f + 1, i, n, l, z, r, h => by
    rw [decode] at h
    by_cases h4 : l.length < 4
    · rw [if_pos h4] at h; simp at h
    rw [if_neg h4] at h
    obtain ⟨a, b, c, d, t, rfl⟩ := four l h4
    have ht : (a :: b :: c :: d :: t).take 4 = [a, b, c, d] := rfl
    have hd : (a :: b :: c :: d :: t).drop 4 = t := rfl
    rw [ht, hd] at h
    have hg := grp_four a b c d
    have hlt : numOf [a, b, c, d] < 16 := numOf_lt [a, b, c, d]
    have hl : a :: b :: c :: d :: t = [a, b, c, d] ++ t := rfl
    rw [hl, ← hg]
    generalize numOf [a, b, c, d] = g at *
    by_cases h1 : 0 < i ∧ g = 0
    · rw [if_pos h1] at h; simp at h
    rw [if_neg h1] at h
    by_cases h2 : 8000000 < n + g % 8 * 8 ^ i
    · rw [if_pos h2] at h; simp at h
    rw [if_neg h2] at h
    by_cases h3 : g < 8
    · rw [if_pos h3] at h
      simp only [Prod.mk.injEq, and_true] at h
      have hgg : g % 8 = g := by omega
      rw [hgg] at h2 h
      have hz : g / 8 = 0 := by omega
      refine ⟨g, ?_, fun hi => ?_, by omega, ?_, ?_⟩
      · rw [Nat.pow_succ]
        have : 0 < 8 ^ f := Nat.pow_pos (by decide)
        omega
      · by_cases g0 : g = 0
        · exact absurd ⟨hi, g0⟩ h1
        · omega
      · exact h.1.symm
      · rw [code, if_pos hz, decide_eq_false (show ¬ 8 ≤ g by omega), decide_eq_false (show ¬ 0 < g / 8 by omega), h.2]
        simp
    · rw [if_neg h3] at h
      obtain ⟨m, q1, q2, q3, q4, q5⟩ := code_decode f (i + 1) _ t z r h
      have hm := q2 (by omega)
      have e1 : (g % 8 + 8 * m) / 8 = m := by omega
      have e2 : (g % 8 + 8 * m) % 8 = g % 8 := by omega
      have hst := step_pow (g % 8 + 8 * m) i
      rw [e1, e2] at hst
      refine ⟨g % 8 + 8 * m, ?_, fun _ => by omega, by omega, ?_, ?_⟩
      · rw [Nat.pow_succ]; omega
      · rw [q4]; congr 1; omega
      · rw [code, e1, e2, if_neg (by omega), decide_eq_true (show 8 ≤ g by omega), decide_eq_true hm, List.append_assoc, ← q5]

/-- The digits of a number, so many at most. -/
def digs : Nat → Nat → List Nat
  | 0, _ => []
  | f + 1, n => n % 8 :: (if n / 8 = 0 then [] else digs f (n / 8))
def enc : List Nat → List Bool
  | [] => []
  | d :: r => grp (decide (0 < r.length)) d ++ enc r

theorem digs_pos (f n : Nat) (h : 0 < f) : 0 < (digs f n).length := by
  cases f with
  | zero => omega
  | succ f => simp [digs]

theorem digs_len_le : ∀ (f n : Nat), (digs f n).length ≤ f
  | 0, _ => by simp [digs]
  | f + 1, n => by
    have := digs_len_le f (n / 8)
    unfold digs
    split
    · simp
    · simp; omega

theorem digs_lt : ∀ (f n : Nat), ∀ d ∈ digs f n, d < 8
  | 0, _, d, h => by simp [digs] at h
  | f + 1, n, d, h => by
    unfold digs at h
    rcases List.mem_cons.1 h with rfl | h
    · exact Nat.mod_lt _ (by decide)
    · split at h
      · simp at h
      · exact digs_lt f (n / 8) d h

theorem enc_digs : ∀ (f n : Nat), n < 8 ^ f → 0 < f → enc (digs f n) = code f n
  | 0, _, _, h => absurd h (by simp)
  | f + 1, n, hn, _ => by
    rw [digs, enc, code]
    by_cases hz : n / 8 = 0
    · rw [if_pos hz, if_pos hz, decide_eq_false (show ¬ 0 < n / 8 by omega)]
      simp [enc]
    · have hf : 0 < f := by
        cases f with
        | zero => simp at hn; omega
        | succ f => omega
      have hpf : n / 8 < 8 ^ f := by
        rw [Nat.pow_succ] at hn
        exact Nat.div_lt_of_lt_mul (by rw [Nat.mul_comm]; exact hn)
      rw [if_neg hz, if_neg hz, enc_digs f _ hpf hf, decide_eq_true (digs_pos f _ hf), decide_eq_true (show 0 < n / 8 by omega)]

theorem zigL_length (l : List Bool) (v : Int) : (zigL l v).length ≤ l.length + 32 := by
  unfold zigL
  split
  · have := code_len_le 8 (foldN v)
    rw [List.length_append]; omega
  · simp

theorem decode_length : ∀ (f i n : Nat) (l : List Bool), (decode f i n l).2.1.length ≤ l.length
  | 0, _, _, _ => by simp [decode]
  | f + 1, i, n, l => by
    have := decode_length f (i + 1) (n + numOf (l.take 4) % 8 * 8 ^ i) (l.drop 4)
    rw [decode]
    split
    · simp
    · split
      · simp
      · split
        · simp
        · split
          · simp
          · refine Nat.le_trans this ?_
            simp

theorem zigR_length (l : List Bool) : (zigR l).length ≤ l.length := decode_length 8 0 0 l

/-- P2.3, of a number: put, then taken. -/
theorem zig_taken (v : Int) (r : List Bool) (h : zigOk v = true) : decode 8 0 0 (code 8 (foldN v) ++ r) = (v, r, 0) := by
  have hb := foldN_le v h
  rw [decode_code 8 0 0 (foldN v) r (by omega) (by decide) (fun h => absurd h (by decide)) (by omega)]
  simp [unfold_fold]

/-- P2.3, of bits: taken, then put. -/
theorem zig_put (l : List Bool) (h : zigF l = 0) : zigOk (zigN l) = true ∧ code 8 (foldN (zigN l)) ++ zigR l = l := by
  obtain ⟨m, _, _, q3, q4, q5⟩ := code_decode 8 0 0 l (zigN l) (zigR l) (by
    unfold zigN zigR
    rw [show (0 : Int) = (decode 8 0 0 l).2.2 from h.symm])
  simp only [Nat.zero_add, Nat.pow_zero, Nat.mul_one] at q3 q4
  rw [q4, fold_unfold]
  exact ⟨unfold_ok m q3, q5.symm⟩

theorem near_less (v w : Int) (h : max v (-v) < max w (-w)) : (code 8 (foldN v)).length ≤ (code 8 (foldN w)).length := by
  apply code_mono
  unfold foldN
  split <;> split <;> omega

end Go.Proofs.Ytabeihkfjlmepaa

/-
  How arguments are opened: a slice of bools, a slice of ints, as the walks are told of them.
-/
namespace Go.Proofs.Ytabeihkfjlmepaa
open Go.RowKit Go.ChangeShapes Go.WideShapes Go.ChangeAt

theorem own : ownKnob Try.prog.godebug = none := by kernel_rfl
theorem laidOut : laidOutB Try.prog = true := by kernel_rfl

theorem lt_of_cell {w : World} {a : Addr} {v : Value} (h : w.cell? a = some v) : a.block < w.heap.size := by
  unfold World.cell? at h
  cases hh : w.heap[a.block]? with
  | none => rw [hh] at h; cases h
  | some o => exact (Array.getElem?_eq_some_iff.1 hh).1

def boolOf : Value → Bool
  | .bool b => b
  | _ => false

/-- A slice of one-cell elements that came in. -/
theorem open_cells {H : Type} {enc : TypeId × Value → H} {W : World} {t e : TypeId} {ao : Option Addr} {n cap : Nat} {d : DataW H} {ps : List MemPlace} (ht : Try.prog.underlying t = some (.slice e)) (hc : Try.prog.cellsOf e = 1)
    (h : DataW.Trod enc Try.prog W 0 (fun _ => true) true t (.slice ao n cap) d ps) :
    ∃ V : Nat → Value, Sl W ao cap ((List.range n).map V) ∧ (∀ i, i < n → ∃ m D Pl, DataW.trod enc Try.prog W 0 (fun _ => true) true m e [V i] = some (D, Pl)) ∧ ((n = 0 ∧ cap = 0) ∨ ∃ elems spare, d = .slice elems spare ∧ elems.length + spare.length = cap) := by
  obtain ⟨fuel, hf⟩ := h
  rcases Go.Deep.open_slice1 ht hc hf with ⟨hcs, _⟩ | ⟨a, len, cp, m, k, V, D, Pl, hcs, _, hl, hm, hmm, hx, hel⟩
  · simp [Value.cells] at hcs
    obtain ⟨rfl, rfl, rfl⟩ := hcs
    exact ⟨fun _ => undef, by simpa using Sl.ofNil W, fun i hi => absurd hi (Nat.not_lt_zero _), .inl ⟨rfl, rfl⟩⟩
  · simp [Value.cells] at hcs
    obtain ⟨rfl, rfl, rfl⟩ := hcs
    simp only [if_true] at hmm
    subst hmm
    simp only [Prod.mk.injEq] at hx
    refine ⟨V, ⟨?_, by simpa using hl, by unfold maxLen at hm; exact hm, fun e => by cases e⟩, fun i hi => ⟨k, _, _, (hel i (by omega)).2⟩, .inr ⟨_, _, hx.1, by simp; omega⟩⟩
    by_cases h0 : n = 0
    · subst h0; exact .inl rfl
    · obtain ⟨b, off, spot⟩ := a
      have c0 := (hel 0 (by omega)).1
      have hspot : spot = none := by simpa [Addr.add] using World.cell?_spot c0
      subst hspot
      have hlt := lt_of_cell c0
      refine .inr ⟨b, off, rfl, by simpa [Addr.add] using hlt, fun i v hv => ?_⟩
      obtain ⟨hi, rfl⟩ := List.getElem?_eq_some_iff.1 hv
      have hi' : i < n := by simpa using hi
      have := (hel i (by omega)).1
      rw [Addr.add_lit] at this
      simpa using this

theorem open_bools {H : Type} {enc : TypeId × Value → H} {W : World} {t e : TypeId} {ao : Option Addr} {n cap : Nat} {d : DataW H} {ps : List MemPlace} (ht : Try.prog.underlying t = some (.slice e)) (he : Try.prog.underlying e = some .bool) (hc : Try.prog.cellsOf e = 1)
    (h : DataW.Trod enc Try.prog W 0 (fun _ => true) true t (.slice ao n cap) d ps) :
    ∃ l : List Bool, l.length = n ∧ Sl W ao cap (l.map Value.bool) ∧ ((n = 0 ∧ cap = 0) ∨ ∃ elems spare, d = .slice elems spare ∧ elems.length + spare.length = cap) := by
  obtain ⟨V, hs, hv, hd⟩ := open_cells ht hc h
  refine ⟨(List.range n).map fun i => boolOf (V i), by simp, ?_, hd⟩
  have e : ((List.range n).map fun i => boolOf (V i)).map Value.bool = (List.range n).map V := by
    rw [List.map_map]
    apply List.map_congr_left
    intro i hi
    obtain ⟨m, D, Pl, hb⟩ := hv i (by simpa using hi)
    obtain ⟨b, hb1, _⟩ := DataW.trod_bool he hb
    simp at hb1
    simp [hb1, boolOf]
  rw [e]
  exact hs

theorem open_intsS {H : Type} {enc : TypeId × Value → H} {W : World} {t e : TypeId} {ao : Option Addr} {n cap : Nat} {d : DataW H} {ps : List MemPlace} (ht : Try.prog.underlying t = some (.slice e)) (he : Try.prog.underlying e = some (.int .i64)) (hc : Try.prog.cellsOf e = 1)
    (h : DataW.Trod enc Try.prog W 0 (fun _ => true) true t (.slice ao n cap) d ps) :
    ∃ l : List Int, l.length = n ∧ Sl W ao cap (l.map (Value.int .i64)) ∧ (∀ z ∈ l, (Lit.int .i64 z).wf = true) ∧ ((n = 0 ∧ cap = 0) ∨ ∃ elems spare, d = .slice elems spare ∧ elems.length + spare.length = cap) := by
  obtain ⟨V, hs, hv, hd⟩ := open_cells ht hc h
  have key : ∀ i, i < n → V i = .int .i64 (intOf (V i)) ∧ (Lit.int .i64 (intOf (V i))).wf = true := by
    intro i hi
    obtain ⟨m, D, Pl, hb⟩ := hv i hi
    obtain ⟨z, hb1, _, hw⟩ := DataW.trod_int he hb
    simp at hb1
    rw [hb1]
    exact ⟨rfl, hw⟩
  refine ⟨(List.range n).map fun i => intOf (V i), by simp, ?_, ?_, hd⟩
  · have e : ((List.range n).map fun i => intOf (V i)).map (Value.int .i64) = (List.range n).map V := by
      rw [List.map_map]
      apply List.map_congr_left
      intro i hi
      exact (key i (by simpa using hi)).1.symm
    rw [e]
    exact hs
  · intro z hz
    obtain ⟨i, hi, rfl⟩ := List.mem_map.1 hz
    exact (key i (by simpa using hi)).2

/-- The form's own reach, of a slice of which an element takes so many bytes. -/
theorem reach_of {H : Type} {ts : List TypeId} {ds : List (DataW H)} {t e : TypeId} {j n cap bytes : Nat} {d : DataW H} (hsz : (DataW.weightsEach Try.prog ts ds).all (· ≤ reachBytes) = true) (ht : ts[j]? = some t) (hd : ds[j]? = some d)
    (hu : Try.prog.underlying t = some (.slice e)) (hb : Try.prog.bytesOf e = bytes) (h : (n = 0 ∧ cap = 0) ∨ ∃ elems spare, d = .slice elems spare ∧ elems.length + spare.length = cap) : cap * bytes ≤ 140737488351232 := by
  rcases h with ⟨_, rfl⟩ | ⟨el, sp, rfl, rfl⟩
  · simp
  · have := sized_slice hsz ht hd hu
    rw [hb] at this
    simpa [reachBytes] using this

end Go.Proofs.Ytabeihkfjlmepaa

/-
  Slices of points, two cells an element: what it means that a slice holds a list of points, and how such an argument is opened.
-/
namespace Go.Proofs.Ytabeihkfjlmepaa
open Go.RowKit Go.ChangeShapes Go.WideShapes Go.ChangeAt

abbrev Pt := Int × Int

def ptV (p : Pt) : Value := .agg #[.int .i64 p.1, .int .i64 p.2]

def cellsP : List Pt → List Value
  | [] => []
  | p :: r => .int .i64 p.1 :: .int .i64 p.2 :: cellsP r

theorem cellsP_length : ∀ l : List Pt, (cellsP l).length = l.length * 2
  | [] => rfl
  | p :: r => by simp [cellsP, cellsP_length r]; omega

theorem cellsP_append : ∀ l m : List Pt, cellsP (l ++ m) = cellsP l ++ cellsP m
  | [], m => rfl
  | p :: r, m => by simp [cellsP, cellsP_append r m]

theorem cellsP_nil {l : List Pt} (h : cellsP l = []) : l = [] := by
  cases l with
  | nil => rfl
  | cons p r => simp [cellsP] at h

theorem cellsP_get : ∀ (l : List Pt) (k : Nat) (p : Pt), l[k]? = some p → (cellsP l)[k * 2]? = some (.int .i64 p.1) ∧ (cellsP l)[k * 2 + 1]? = some (.int .i64 p.2)
  | [], k, p, h => by simp at h
  | q :: r, 0, p, h => by simp at h; subst h; simp [cellsP]
  | q :: r, k + 1, p, h => by
    have := cellsP_get r k p (by simpa using h)
    rw [show (k + 1) * 2 = k * 2 + 1 + 1 by omega]
    simpa [cellsP] using this

theorem cellsP_drop : ∀ (l : List Pt) (k : Nat), (cellsP l).drop (k * 2) = cellsP (l.drop k)
  | l, 0 => by simp
  | [], k + 1 => by simp [cellsP]
  | q :: r, k + 1 => by
    rw [show (k + 1) * 2 = k * 2 + 1 + 1 by omega]
    simpa [cellsP] using cellsP_drop r k

theorem cellsP_take : ∀ (l : List Pt) (k : Nat), (cellsP l).take (k * 2) = cellsP (l.take k)
  | l, 0 => by simp [cellsP]
  | [], k + 1 => by simp [cellsP]
  | q :: r, k + 1 => by
    rw [show (k + 1) * 2 = k * 2 + 1 + 1 by omega]
    simpa [cellsP] using cellsP_take r k

theorem cellsP_one (l : List Pt) : ∀ v ∈ cellsP l, v.oneCell' = true := by
  induction l with
  | nil => intro v hv; simp [cellsP] at hv
  | cons p r ih =>
    intro v hv
    simp only [cellsP, List.mem_cons] at hv
    rcases hv with rfl | rfl | hv
    · rfl
    · rfl
    · exact ih v hv

/-- A slice of points: its address, its capacity, and the points. -/
structure SlP (w : World) (ao : Option Addr) (cap : Nat) (l : List Pt) : Prop where
  row : Row w ao (cellsP l)
  le : l.length ≤ cap
  max : cap ≤ 9223372036854775807
  nil : ao = none → cap = 0

theorem SlP.keep {w w' : World} {ao : Option Addr} {cap : Nat} {l : List Pt} {B : Nat} (h : SlP w ao cap l) (hb : Below B w w') (hB : w.heap.size ≤ B) : SlP w' ao cap l :=
  ⟨h.row.keep hb hB, h.le, h.max, h.nil⟩

theorem SlP.call {w w' : World} {ao : Option Addr} {cap : Nat} {l : List Pt} (h : SlP w ao cap l) (hb : Below w.heap.size w w') : SlP w' ao cap l := h.keep hb (Nat.le_refl _)

theorem SlP.alloc {w : World} {ao : Option Addr} {cap : Nat} {l : List Pt} (h : SlP w ao cap l) (o : Obj) : SlP (w.alloc o) ao cap l :=
  ⟨h.row.alloc o, h.le, h.max, h.nil⟩

theorem SlP.off {w w' : World} {ao : Option Addr} {cap : Nat} {l : List Pt} {g : Nat} (h : SlP w ao cap l) (hg : w.grownBy w' (some g)) (ho : Off g ao) : SlP w' ao cap l :=
  ⟨h.row.off hg ho, h.le, h.max, h.nil⟩

theorem SlP.drewN {w : World} {ao : Option Addr} {cap : Nat} {l : List Pt} (h : SlP w ao cap l) (n : Nat) : SlP (w.drewN n) ao cap l := ⟨h.row.drewN n, h.le, h.max, h.nil⟩

theorem SlP.ofNil (w : World) : SlP w none 0 [] := ⟨.inl rfl, Nat.le_refl _, by decide, fun _ => rfl⟩

theorem SlP.laid (w : World) (l : List Pt) (cs : Array Value) (hcs : cs.toList = cellsP l) (t : TypeId) (n : Nat) (hn : n = w.heap.size) (cap : Nat) (hc : l.length = cap) (hm : cap ≤ 9223372036854775807) : SlP (w.alloc (.cells cs t)) (some ⟨n, 0, none⟩) cap l := by
  have h := Row.laid w cs.toList t n hn
  rw [Array.toArray_toList, hcs] at h
  exact ⟨h, by omega, hm, fun e => by cases e⟩

theorem SlP.where {w : World} {ao : Option Addr} {cap : Nat} {l : List Pt} (h : SlP w ao cap l) (hne : l ≠ []) : ∃ b off, ao = some ⟨b, off, none⟩ ∧ b < w.heap.size := by
  obtain ⟨b, off, e, hb, _⟩ := h.row.at (fun e => hne (cellsP_nil e))
  exact ⟨b, off, e, hb⟩

theorem SlP.pt {w : World} {b off cap : Nat} {l : List Pt} (h : SlP w (some ⟨b, off, none⟩) cap l) (k : Nat) (hk : k < l.length) :
    ∃ x y, w.cell? ⟨b, off + k * 2, none⟩ = some (.int .i64 x) ∧ w.cell? ⟨b, off + k * 2 + 1, none⟩ = some (.int .i64 y) ∧ l[k]? = some (x, y) ∧ l.drop k = (x, y) :: l.drop (k + 1) := by
  obtain ⟨b', off', e, _, hc⟩ := h.row.at (fun e => by rw [cellsP_nil e] at hk; simp at hk)
  simp only [Option.some.injEq, Addr.mk.injEq, and_true] at e
  obtain ⟨rfl, rfl⟩ := e
  have hg : l[k]? = some (l[k].1, l[k].2) := by simp [hk]
  obtain ⟨h0, h1⟩ := cellsP_get l k _ hg
  exact ⟨_, _, hc _ _ h0, hc _ _ h1, hg, by rw [List.drop_eq_getElem_cons hk]⟩

/-- The first ones of a slice. -/
theorem SlP.front {w : World} {ao : Option Addr} {cap : Nat} {l : List Pt} (h : SlP w ao cap l) (k : Nat) : SlP w ao cap (l.take k) := by
  refine ⟨?_, by have := h.le; rw [List.length_take]; omega, h.max, h.nil⟩
  rcases h.row with h0 | ⟨b, off, e, hb, hc⟩
  · left; rw [cellsP_nil h0]; simp [cellsP]
  · right
    refine ⟨b, off, e, hb, fun i v hv => hc i v ?_⟩
    rw [← cellsP_take] at hv
    rw [List.getElem?_take] at hv
    split at hv
    · exact hv
    · cases hv

theorem SlP.ofOwn {w : World} {base : Nat} {e : TypeId} {n : Nat} {v : Value} {l : List Pt} (h : w.ownsRow base e 2 v n (cellsP l)) : ∃ ao cap, v = .slice ao n cap ∧ SlP w ao cap l ∧ l.length = n ∧ ∀ g, g < base → Off g ao := by
  have hl : l.length = n := by have := h.1; rw [cellsP_length] at this; omega
  rcases h.2 with ⟨rfl, rfl⟩ | ⟨g, cap, cur, rfl, hbg, hh, hnc, hcm, hcs, htk⟩
  · obtain rfl := List.eq_nil_of_length_eq_zero hl
    exact ⟨none, 0, rfl, SlP.ofNil w, rfl, fun _ _ => Off.nil _⟩
  · refine ⟨_, _, rfl, ⟨.inr ⟨g, 0, rfl, (Array.getElem?_eq_some_iff.1 hh).1, fun i u hu => ?_⟩, by omega, by unfold maxLen at hcm; exact hcm, fun e => by cases e⟩, hl, fun g' hg' ad e => by cases e; show g ≠ g'; omega⟩
    rw [Nat.zero_add, h.cellAt i (by have := (List.getElem?_eq_some_iff.1 hu).1; rw [cellsP_length] at this; omega)]
    exact hu

theorem open_points {H : Type} {enc : TypeId × Value → H} {W : World} {t e : TypeId} {f0 f1 : Field} {ao : Option Addr} {n cap : Nat} {d : DataW H} {ps : List MemPlace} (ht : Try.prog.underlying t = some (.slice e)) (he : Try.prog.underlying e = some (.struct #[f0, f1]))
    (ce : Try.prog.cellsOf e = 2) (o0 : f0.offset = 0) (o1 : f1.offset = 1) (c0 : Try.prog.cellsOf f0.type = 1) (c1 : Try.prog.cellsOf f1.type = 1) (u0 : Try.prog.underlying f0.type = some (.int .i64)) (u1 : Try.prog.underlying f1.type = some (.int .i64))
    (h : DataW.Trod enc Try.prog W 0 (fun _ => true) true t (.slice ao n cap) d ps) :
    ∃ l : List Pt, l.length = n ∧ SlP W ao cap l ∧ (∀ p ∈ l, (Lit.int .i64 p.1).wf = true ∧ (Lit.int .i64 p.2).wf = true) ∧ ((n = 0 ∧ cap = 0) ∨ ∃ elems spare, d = .slice elems spare ∧ elems.length + spare.length = cap) := by
  obtain ⟨fuel, hf⟩ := h
  rcases Go.Deep.open_slice_pairs ht he ce o0 o1 c0 c1 hf with ⟨hcs, _⟩ | ⟨a, len, cp, m, k, V0, V1, D0, D1, P0, P1, hcs, _, hl, hm, hmm, hx, hel⟩
  · simp [Value.cells] at hcs
    obtain ⟨rfl, rfl, rfl⟩ := hcs
    exact ⟨[], rfl, SlP.ofNil W, fun p hp => by simp at hp, .inl ⟨rfl, rfl⟩⟩
  · simp [Value.cells] at hcs
    obtain ⟨rfl, rfl, rfl⟩ := hcs
    simp only [if_true] at hmm
    subst hmm
    simp only [Prod.mk.injEq] at hx
    have key : ∀ i, i < n → (V0 i = .int .i64 (intOf (V0 i)) ∧ (Lit.int .i64 (intOf (V0 i))).wf = true) ∧ (V1 i = .int .i64 (intOf (V1 i)) ∧ (Lit.int .i64 (intOf (V1 i))).wf = true) := by
      intro i hi
      obtain ⟨_, _, t0, t1⟩ := hel i (by omega)
      obtain ⟨z0, hb0, _, hw0⟩ := DataW.trod_int u0 t0
      obtain ⟨z1, hb1, _, hw1⟩ := DataW.trod_int u1 t1
      simp at hb0 hb1
      rw [hb0, hb1]
      exact ⟨⟨rfl, hw0⟩, ⟨rfl, hw1⟩⟩
    refine ⟨(List.range n).map fun i => (intOf (V0 i), intOf (V1 i)), by simp, ⟨?_, by simpa using hl, by unfold maxLen at hm; exact hm, fun e => by cases e⟩, ?_, .inr ⟨_, _, hx.1, by simp; omega⟩⟩
    · by_cases h0 : n = 0
      · subst h0; exact .inl rfl
      · obtain ⟨b, off, spot⟩ := a
        have c0 := (hel 0 (by omega)).1
        have hspot : spot = none := by simpa [Addr.add] using World.cell?_spot c0
        subst hspot
        have hlt := lt_of_cell c0
        refine .inr ⟨b, off, rfl, by simpa [Addr.add] using hlt, fun i v hv => ?_⟩
        have hi : i < n * 2 := by have := (List.getElem?_eq_some_iff.1 hv).1; rw [cellsP_length] at this; simpa using this
        have hk : i / 2 < n := by omega
        have hg := cellsP_get ((List.range n).map fun i => (intOf (V0 i), intOf (V1 i))) (i / 2) (intOf (V0 (i / 2)), intOf (V1 (i / 2))) (by simp [hk])
        obtain ⟨e0, e1, _, _⟩ := hel (i / 2) (by omega)
        obtain ⟨⟨k0, _⟩, ⟨k1, _⟩⟩ := key (i / 2) hk
        rcases Nat.mod_two_eq_zero_or_one i with hm2 | hm2
        · have hi2 : i / 2 * 2 = i := by omega
          rw [hi2] at hg e0
          rw [hg.1] at hv
          rw [Addr.add_lit, k0] at e0
          rw [e0, hv]
        · have hi2 : i / 2 * 2 + 1 = i := by omega
          rw [hi2] at hg e1
          rw [hg.2] at hv
          rw [Addr.add_lit, k1] at e1
          rw [e1, hv]
    · intro p hp
      obtain ⟨i, hi, rfl⟩ := List.mem_map.1 hp
      have := key i (by simpa using hi)
      exact ⟨this.1.2, this.2.2⟩

end Go.Proofs.Ytabeihkfjlmepaa

/-
  Points as the document tells of them: what is wrong with a list of points (chk), their bits (pk), and the points of bits (unp); no program is named.
-/
namespace Go.Proofs.Ytabeihkfjlmepaa
open Go.RowKit

def ptOk (p : Pt) : Bool := decide (0 ≤ p.1 ∧ p.1 ≤ 100000 ∧ -1000000 ≤ p.2 ∧ p.2 ≤ 1000000)

def chk : Int → List Pt → Int
  | _, [] => 0
  | last, p :: r => if ptOk p = false then 3 else if p.1 ≤ last then 7 else chk p.1 r

def checkE (l : List Pt) : Int := if 40 < l.length then 2 else chk (-1) l

def pk : Int → Int → Int → List Pt → List Bool
  | _, _, _, [] => []
  | t, v, s, p :: r => code 8 (foldN (p.1 - t - s)) ++ code 8 (foldN (p.2 - v)) ++ pk p.1 p.2 (p.1 - t) r

def packL (l : List Pt) : List Bool := if checkE l = 0 then pk 0 0 0 l else []

def unp : Nat → Int → Int → Int → Int → List Bool → List Pt × Int
  | 0, _, _, _, _, b => ([], if b.length = 0 then 0 else 8)
  | n + 1, t, v, s, last, b =>
    if zigF b ≠ 0 then ([], zigF b) else
    if zigF (zigR b) ≠ 0 then ([], zigF (zigR b)) else
    if ptOk (t + (s + zigN b), v + zigN (zigR b)) = false then ([], 3) else
    if t + (s + zigN b) ≤ last then ([], 7) else
    (if (unp n (t + (s + zigN b)) (v + zigN (zigR b)) (s + zigN b) (t + (s + zigN b)) (zigR (zigR b))).2 = 0 then (t + (s + zigN b), v + zigN (zigR b)) :: (unp n (t + (s + zigN b)) (v + zigN (zigR b)) (s + zigN b) (t + (s + zigN b)) (zigR (zigR b))).1 else [],
      (unp n (t + (s + zigN b)) (v + zigN (zigR b)) (s + zigN b) (t + (s + zigN b)) (zigR (zigR b))).2)

def unpIn (n : Int) : Bool := decide (0 ≤ n ∧ n ≤ 40)
def unpL (b : List Bool) (n : Int) : List Pt := if unpIn n then (unp n.toNat 0 0 0 (-1) b).1 else []
def unpE (b : List Bool) (n : Int) : Int := if unpIn n then (unp n.toNat 0 0 0 (-1) b).2 else 2

theorem ptOk_true {p : Pt} (h : ptOk p = true) : 0 ≤ p.1 ∧ p.1 ≤ 100000 ∧ -1000000 ≤ p.2 ∧ p.2 ≤ 1000000 := of_decide_eq_true h
theorem ptOk_false {p : Pt} (h : ptOk p = false) : ¬ (0 ≤ p.1 ∧ p.1 ≤ 100000 ∧ -1000000 ≤ p.2 ∧ p.2 ≤ 1000000) := of_decide_eq_false h

def lastT : Int → List Pt → Int
  | a, [] => a
  | _, p :: r => lastT p.1 r

theorem lastT_snoc : ∀ (a : Int) (l : List Pt) (p : Pt), lastT a (l ++ [p]) = p.1
  | _, [], p => rfl
  | _, q :: r, p => by simpa [lastT] using lastT_snoc q.1 r p

theorem chk_append : ∀ (a : Int) (l m : List Pt), chk a (l ++ m) = if chk a l = 0 then chk (lastT a l) m else chk a l
  | a, [], m => by simp [chk, lastT]
  | a, q :: r, m => by
    simp only [List.cons_append, chk, lastT]
    split
    · simp
    split
    · simp
    · exact chk_append q.1 r m

theorem chk_cons {a : Int} {p : Pt} {r : List Pt} (h : chk a (p :: r) = 0) : ptOk p = true ∧ a < p.1 ∧ chk p.1 r = 0 := by
  unfold chk at h
  split at h
  · cases h
  split at h
  · cases h
  rename_i h1 h2
  exact ⟨by simpa using h1, by omega, h⟩

/-- Numbers of points that may be, told by the one ahead, can be written. -/
theorem zig_fits {t v s last : Int} {p : Pt} {r : List Pt} (h : chk last (p :: r) = 0) (ht : 0 ≤ t ∧ t ≤ 100000) (hl : t ≤ last + 1) (hv : -1000000 ≤ v ∧ v ≤ 1000000) (hs : 0 ≤ s ∧ s ≤ 100000) :
    zigOk (p.1 - t - s) = true ∧ zigOk (p.2 - v) = true ∧ (0 ≤ p.1 ∧ p.1 ≤ 100000) ∧ (-1000000 ≤ p.2 ∧ p.2 ≤ 1000000) ∧ (0 ≤ p.1 - t ∧ p.1 - t ≤ 100000) := by
  obtain ⟨h1, h2, _⟩ := chk_cons h
  have h3 := ptOk_true h1
  refine ⟨decide_eq_true ?_, decide_eq_true ?_, ?_, ?_, ?_⟩ <;> omega

theorem pk_length : ∀ (t v s : Int) (l : List Pt), (pk t v s l).length ≤ 64 * l.length
  | _, _, _, [] => by simp [pk]
  | t, v, s, p :: r => by
    have h1 := code_len_le 8 (foldN (p.1 - t - s))
    have h2 := code_len_le 8 (foldN (p.2 - v))
    have h3 := pk_length p.1 p.2 (p.1 - t) r
    simp only [pk, List.length_append, List.length_cons]
    omega

theorem chk_errs : ∀ (a : Int) (l : List Pt), chk a l = 0 ∨ chk a l = 3 ∨ chk a l = 7
  | _, [] => .inl rfl
  | a, p :: r => by
    unfold chk
    split
    · simp
    split
    · simp
    · exact chk_errs p.1 r

theorem zigN_bound {b : List Bool} (h : zigF b = 0) : -4000000 ≤ zigN b ∧ zigN b ≤ 4000000 := of_decide_eq_true (zig_put b h).1

end Go.Proofs.Ytabeihkfjlmepaa
