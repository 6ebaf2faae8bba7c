/-
  The shelf's contracts of strings.Builder's WriteByte and WriteString at this seat, laid by hand out of the laying of strings.Join. (The text <Seat>Shelf is the shelf's contracts in plain words: NOTES.md says how it is laid.)
-/
import Derived.Test.YtcjdpilmhlfmfaaGreatDoorShelfP
import Derived.Test.YtcjdpilmhlfmfaaGreatDoorChecked
import Derived.WalkKit
import Derived.ProofKit
import Derived.OpenShut
import Derived.Deep.QuietTactic
import Derived.BigQuiet
import Derived.Deep.Draws
import Derived.Deep.LoopGhost
import Derived.WalkLawsBesides
import Derived.WalkSpells
import Derived.Lib.AppendIntMem
import Derived.Lib.AtoiErrMem
import Derived.Test.YtcjdpilmhlfmfaaGreatDoorRows
import Derived.Stop.LaidErr
import Derived.Lib.LaidTab
import Derived.Lib.LaidU8
import Derived.Shelf.Vars
import Derived.HandedShaped
import Derived.LaidLaws
import Derived.Lay
namespace Go.Proofs.YtcjdpilmhlfmfaaGreatDoor
open Go.RowKit Go.Shelf

theorem laysWs : Go.Proofs.Lays.n166 Tryz.prog Tryz.lays156_ren := { Tryz.lays156 with }
theorem extraWs : Builder.Extra Tryz.prog Tryz.lays156_ren := Tryz.Builder_Extra_156

def renWb : Go.Shelf.Ren := ⟨fun | 167 => 241 | n => Tryz.lays156_ren.f n, Tryz.lays156_ren.t, Tryz.lays156_ren.g⟩

theorem laysWb : Go.Proofs.Lays.n167 Tryz.prog renWb := {
  mixed := Tryz.lays156.mixed
  f167 := Tryz.func241.trans (congrArg some (by kernel_rfl))
  f240 := Tryz.lays156.f240
  f276 := Tryz.lays156.f276
  t0 := Tryz.lays156.t0
  a0 := Tryz.lays156.a0
  z0 := Tryz.lays156.z0
  v0 := Tryz.lays156.v0
  t4 := Tryz.lays156.t4
  a4 := Tryz.lays156.a4
  z4 := Tryz.lays156.z4
  v4 := Tryz.lays156.v4
  t5 := extraWs.t5
  a5 := extraWs.a5
  z5 := extraWs.z5
  v5 := extraWs.v5
  t9 := Tryz.lays156.t9
  a9 := Tryz.lays156.a9
  z9 := Tryz.lays156.z9
  v9 := Tryz.lays156.v9
  t20 := Tryz.lays156.t20
  a20 := Tryz.lays156.a20
  z20 := Tryz.lays156.z20
  v20 := Tryz.lays156.v20
  t37 := Tryz.lays156.t37
  a37 := Tryz.lays156.a37
  z37 := Tryz.lays156.z37
  v37 := Tryz.lays156.v37
  t70 := Tryz.lays156.t70
  a70 := Tryz.lays156.a70
  z70 := Tryz.lays156.z70
  v70 := Tryz.lays156.v70
  t72 := Tryz.lays156.t72
  a72 := Tryz.lays156.a72
  z72 := Tryz.lays156.z72
  v72 := Tryz.lays156.v72
  t75 := Tryz.lays156.t75
  a75 := Tryz.lays156.a75
  z75 := Tryz.lays156.z75
  v75 := Tryz.lays156.v75
  t164 := Tryz.lays156.t164
  a164 := Tryz.lays156.a164
  z164 := Tryz.lays156.z164
  v164 := Tryz.lays156.v164 }

set_option maxRecDepth 100000 in
theorem extraWb : Builder.Extra Tryz.prog renWb := {
  sizeBuilder := extraWs.sizeBuilder
  liesBuilder := extraWs.liesBuilder
  t5 := extraWs.t5
  a5 := extraWs.a5
  z5 := extraWs.z5
  v5 := extraWs.v5
  infoByte := extraWs.infoByte
  cellsByte := extraWs.cellsByte
  sizeByte := extraWs.sizeByte
  neB5 := extraWs.neB5 }

theorem writeByte (B b : Nat) (bs : List Value) (c : Int) (w : World) (h : Lib.IsBuilderF 212 5 B b bs w) (hlen : bs.length + 1 ≤ 140737488355328) (hBw : B ≤ w.heap.size) :
    Calls Tryz.prog 241 #[.pointer (some ⟨b, 0, none⟩), .int .u8 c] w fun e w' => e = .returned .nilIface ∧ (Lib.BuilderAtF 212 5 B b (.pointer (some ⟨b, 0, none⟩)) (bs ++ [.int .u8 c]) w' ∧ Below B w w' ∧ Lib.OthersKept 5 (some b) w w') := Any.Builder_WriteByte_k laysWb extraWb B b bs c w h hlen hBw

theorem writeString (B b : Nat) (bs : List Value) (s : ByteArray) (w : World) (h : Lib.IsBuilderF 212 5 B b bs w) (hlen : bs.length + s.size ≤ 140737488355328) (hBw : B ≤ w.heap.size) :
    Calls Tryz.prog 179 #[.pointer (some ⟨b, 0, none⟩), .string s] w fun e w' => e = .returned (.tuple #[.int .i64 s.size, .nilIface]) ∧ (Lib.BuilderAtF 212 5 B b (.pointer (some ⟨b, 0, none⟩)) (bs ++ Lib.strCells s) w' ∧ Below B w w' ∧ Lib.OthersKept 5 (some b) w w') := Any.Builder_WriteString_k laysWs extraWs B b bs s w h hlen hBw

end Go.Proofs.YtcjdpilmhlfmfaaGreatDoor

/-
  Plain facts that name no function of the program: what it means that a slice's cells hold a list of values ('Row'), and how that stays true while a call makes new memory.
-/
namespace Go.Proofs.YtcjdpilmhlfmfaaGreatDoor
open Go.RowKit

/-- The cells from the address on hold the values; of an empty list nothing is asked. -/
def Row (w : World) (ao : Option Addr) (cs : List Value) : Prop :=
  cs = [] ∨ ∃ b off, ao = some ⟨b, off, none⟩ ∧ b < w.heap.size ∧ ∀ i v, cs[i]? = some v → w.cell? ⟨b, off + i, none⟩ = some v

theorem Row.keep {w w' : World} {ao : Option Addr} {cs : List Value} {B : Nat} (h : Row w ao cs) (hb : Below B w w') (hB : w.heap.size ≤ B) : Row w' ao cs := by
  rcases h with h | ⟨b, off, e, hlt, hc⟩
  · exact .inl h
  · refine .inr ⟨b, off, e, Nat.lt_of_lt_of_le hlt hb.size, fun i v hv => ?_⟩
    rw [hb.cell (p := ⟨b, off + i, none⟩) (by show b < B; omega)]
    exact hc i v hv

theorem Row.drewN {w : World} {ao : Option Addr} {cs : List Value} (h : Row w ao cs) (n : Nat) : Row (w.drewN n) ao cs := h

/-- Below over draws. -/
theorem belowDrewN {B : Nat} {a w : World} (h : Below B a w) (n : Nat) : Below B a (w.drewN n) := ⟨h.os, h.tape, h.output, h.size, h.block⟩

theorem belowDrew {B : Nat} {a w : World} (h : Below B a w) : Below B a w.drew := ⟨h.os, h.tape, h.output, h.size, h.block⟩

theorem Row.at {w : World} {ao : Option Addr} {cs : List Value} (h : Row w ao cs) (hne : cs ≠ []) : ∃ b off, ao = some ⟨b, off, none⟩ ∧ b < w.heap.size ∧ ∀ i v, cs[i]? = some v → w.cell? ⟨b, off + i, none⟩ = some v := by
  rcases h with h | h
  · exact absurd h hne
  · exact h

/-- A row of bools, asked at one place. -/
theorem boolAt {w : World} {b off : Nat} {l : List Bool} (hc : ∀ i v, (l.map Value.bool)[i]? = some v → w.cell? ⟨b, off + i, none⟩ = some v) (k : Nat) (hk : k < l.length) : w.cell? ⟨b, off + k, none⟩ = some (.bool (l.getD k false)) :=
  hc k _ (by simp [hk])

/-- Two lists of one length are the same where each place is. -/
theorem listEq {α : Type} {l m : List α} {d : α} (hl : l.length = m.length) (h : ∀ j, j < l.length → l.getD j d = m.getD j d) : l = m := by
  apply List.ext_getElem hl
  intro i h1 h2
  have := h i h1
  simpa [List.getD, List.getElem?_eq_getElem h1, List.getElem?_eq_getElem h2] using this

theorem listNe {α : Type} {l m : List α} {d : α} {k : Nat} (h : l.getD k d ≠ m.getD k d) : l ≠ m := fun e => h (by rw [e])

theorem Row.alloc {w : World} {ao : Option Addr} {cs : List Value} (h : Row w ao cs) (o : Obj) : Row (w.alloc o) ao cs :=
  h.keep ((Below.refl w.heap.size w).alloc (Nat.le_refl _) o) (Nat.le_refl _)

/-- A row that was just laid. -/
theorem Row.laid (w : World) (cs : List Value) (t : TypeId) (n : Nat) (hn : n = w.heap.size) : Row (w.alloc (.cells cs.toArray t)) (some ⟨n, 0, none⟩) cs := by
  subst hn
  refine .inr ⟨w.heap.size, 0, rfl, by simp, fun i v hv => ?_⟩
  rw [World.cell?_alloc_at (hn := rfl)]
  simpa using hv

/-- A block that the call itself laid: its cells, none of them frozen. -/
def Blk (w : World) (g : Nat) (cs : List Value) (t : TypeId) : Prop := w.heap[g]? = some (.cells cs.toArray t (0, 0))

theorem Blk.lt {w : World} {g : Nat} {cs : List Value} {t : TypeId} (h : Blk w g cs t) : g < w.heap.size := by
  unfold Blk at h
  exact (Array.getElem?_eq_some_iff.1 h).1

theorem Blk.cell {w : World} {g : Nat} {cs : List Value} {t : TypeId} (h : Blk w g cs t) (i : Nat) : w.cell? ⟨g, i, none⟩ = cs[i]? := by
  rw [cell_of_row w g i cs.toArray t (0, 0) h]
  simp

theorem Blk.free {w : World} {g : Nat} {cs : List Value} {t : TypeId} (h : Blk w g cs t) (i : Nat) : w.frozen? ⟨g, i, none⟩ = false :=
  frozen_of_row w g i cs.toArray t h

theorem Blk.set {w : World} {g : Nat} {cs : List Value} {t : TypeId} (h : Blk w g cs t) (i : Nat) (u : Value) : Blk (w.setCell ⟨g, i, none⟩ u) g (cs.set i u) t := by
  unfold Blk
  rw [heap_setCell_same w g i cs.toArray t u h]
  simp

theorem Blk.keep {w w' : World} {g B : Nat} {cs : List Value} {t : TypeId} (h : Blk w g cs t) (hb : Below B w w') (hg : g < B) : Blk w' g cs t :=
  (hb.block g hg).trans h

theorem Blk.laid (w : World) (cs : List Value) (t : TypeId) (n : Nat) (hn : n = w.heap.size) : Blk (w.alloc (.cells cs.toArray t)) n cs t := by
  subst hn
  exact heap_alloc_new w _

theorem Blk.row {w : World} {g : Nat} {cs : List Value} {t : TypeId} (h : Blk w g cs t) (off : Nat) (l : List Value) (hl : ∀ i v, l[i]? = some v → cs[off + i]? = some v) : Row w (some ⟨g, off, none⟩) l :=
  .inr ⟨g, off, rfl, h.lt, fun i v hv => by rw [h.cell]; exact hl i v hv⟩

/-- A slice of one-cell elements: its address, length and capacity, and the values that its elements are. -/
structure Sl (w : World) (ao : Option Addr) (cap : Nat) (cs : List Value) : Prop where
  row : Row w ao cs
  le : cs.length ≤ cap
  max : cap ≤ 9223372036854775807
  nil : ao = none → cap = 0

theorem Sl.keep {w w' : World} {ao : Option Addr} {cap : Nat} {cs : List Value} {B : Nat} (h : Sl w ao cap cs) (hb : Below B w w') (hB : w.heap.size ≤ B) : Sl w' ao cap cs :=
  ⟨h.row.keep hb hB, h.le, h.max, h.nil⟩

theorem Sl.ofBlk {w : World} {g : Nat} {cs : List Value} {t : TypeId} (h : Blk w g cs t) (hm : cs.length ≤ 9223372036854775807) : Sl w (some ⟨g, 0, none⟩) cs.length cs :=
  ⟨h.row 0 cs (fun i v hv => by rw [Nat.zero_add]; exact hv), Nat.le_refl _, hm, fun e => by cases e⟩

theorem Sl.ofNil (w : World) : Sl w none 0 [] := ⟨.inl rfl, Nat.le_refl _, by decide, fun _ => rfl⟩

/-- The source of an append: its cells, wherever it lies. -/
theorem Sl.src {w : World} {ao : Option Addr} {cap : Nat} {cs : List Value} (h : Sl w ao cap cs) : ∀ ad, ao = some ad → ∀ j u, cs[j]? = some u → w.cell? (ad.add j) = some u := by
  intro ad had j u hu
  obtain ⟨b, off, e, _, hc⟩ := h.row.at (by intro e; rw [e] at hu; simp at hu)
  rw [e] at had
  obtain rfl := Option.some.inj had
  rw [Addr.add_lit]
  exact hc j u hu

theorem Sl.src0 {w : World} {ao : Option Addr} {cap : Nat} {cs : List Value} (h : Sl w ao cap cs) : ao = none → cs.length = 0 ∧ cap = 0 := by
  intro e
  have h1 := h.nil e
  have h2 := h.le
  exact ⟨by omega, h1⟩

theorem ownOfBlk {w : World} {g : Nat} {cs : List Value} {t : TypeId} (h : Blk w g cs t) (base : Nat) (hb : base ≤ g) (n : Nat) (hn : n ≤ cs.length) (hm : cs.length ≤ maxLen) : w.ownsRow base t 1 (.slice (some ⟨g, 0, none⟩) n cs.length) n (cs.take n) :=
  ⟨by simp; omega, .inr ⟨g, cs.length, cs.toArray, rfl, hb, h, hn, hm, by simp, by simp⟩⟩

theorem slOfOwn {w : World} {base g n cap : Nat} {xs : List Value} {t : TypeId} (h : w.ownsRow base t 1 (.slice (some ⟨g, 0, none⟩) n cap) n xs) : Sl w (some ⟨g, 0, none⟩) cap xs ∧ xs.length = n := by
  have hx : xs.length = n := by simpa using h.1
  rcases h.2 with ⟨h', _⟩ | ⟨g', cap', cur, h', _, hg, hnc, hcm, _, _⟩
  · simp at h'
  · simp only [Value.slice.injEq, Option.some.injEq, Addr.mk.injEq, and_true, true_and] at h'
    obtain ⟨rfl, rfl⟩ := h'
    refine ⟨⟨.inr ⟨g, 0, rfl, (Array.getElem?_eq_some_iff.1 hg).1, fun i v hv => ?_⟩, by omega, by unfold maxLen at hcm; exact hcm, fun e => by cases e⟩, hx⟩
    rw [Nat.zero_add, h.cellAt i (by have := (List.getElem?_eq_some_iff.1 hv).1; omega)]
    exact hv

theorem Sl.alloc {w : World} {ao : Option Addr} {cap : Nat} {cs : List Value} (h : Sl w ao cap cs) (o : Obj) : Sl (w.alloc o) ao cap cs :=
  ⟨h.row.alloc o, h.le, h.max, h.nil⟩

theorem Sl.drewN {w : World} {ao : Option Addr} {cap : Nat} {cs : List Value} (h : Sl w ao cap cs) (n : Nat) : Sl (w.drewN n) ao cap cs :=
  ⟨h.row.drewN n, h.le, h.max, h.nil⟩

theorem Sl.call {w w' : World} {ao : Option Addr} {cap : Nat} {cs : List Value} (h : Sl w ao cap cs) (hb : Below w.heap.size w w') : Sl w' ao cap cs := h.keep hb (Nat.le_refl _)

/-- What a call behind leaves of the world ahead. -/
theorem belowCall {w W w' : World} (h : Below w.heap.size w W) (hb : Below W.heap.size W w') : Below w.heap.size w w' := h.trans (hb.mono h.size)

/-- One cell of a slice of ints. -/
theorem Sl.int {w : World} {b off cap : Nat} {l : List Int} (h : Sl w (some ⟨b, off, none⟩) cap (l.map (Value.int .i64))) (k : Nat) (hk : k < l.length) : w.cell? ⟨b, off + k, none⟩ = some (.int .i64 (l.getD k 0)) := by
  have := h.src ⟨b, off, none⟩ rfl k (.int .i64 (l.getD k 0)) (by simp [hk])
  rw [Addr.add_lit] at this
  exact this

/-- Where a call's slice lies: where the one lay that it was handed, or in new memory. -/
def Kin (B : Nat) (ao a' : Option Addr) : Prop := a' = ao ∨ ∀ ad, a' = some ad → B ≤ ad.block

/-- A slice does not lie in this block. -/
def Off (g : Nat) (ao : Option Addr) : Prop := ∀ ad, ao = some ad → ad.block ≠ g

theorem Kin.refl (B : Nat) (ao : Option Addr) : Kin B ao ao := .inl rfl
theorem Kin.nil (B : Nat) (ao : Option Addr) : Kin B ao none := .inr (fun _ h => by cases h)
theorem Kin.new (B off : Nat) (ao : Option Addr) : Kin B ao (some ⟨B, off, none⟩) := .inr (fun _ h => by cases h; exact Nat.le_refl _)
theorem Kin.fresh {B B0 : Nat} {ao a' : Option Addr} (h : Kin B none a') (hb : B0 ≤ B) : Kin B0 ao a' := by
  rcases h with rfl | h
  · exact Kin.nil _ _
  · exact .inr (fun ad e => Nat.le_trans hb (h ad e))
theorem Kin.trans {B B' : Nat} {ao a1 a2 : Option Addr} (h : Kin B ao a1) (h2 : Kin B' a1 a2) (hb : B ≤ B') : Kin B ao a2 := by
  rcases h2 with rfl | h2
  · exact h
  · exact .inr (fun ad e => Nat.le_trans hb (h2 ad e))
theorem Off.kin {g B : Nat} {ao a' : Option Addr} (h : Off g ao) (hk : Kin B ao a') (hg : g < B) : Off g a' := by
  intro ad e
  rcases hk with rfl | hk
  · exact h ad e
  · have := hk ad e
    omega
theorem Off.nil (g : Nat) : Off g none := fun _ h => by cases h

/-- A row that lies elsewhere stays while one block alone is written. -/
theorem Row.off {w w' : World} {ao : Option Addr} {cs : List Value} {g : Nat} (h : Row w ao cs) (hg : w.grownBy w' (some g)) (ho : Off g ao) : Row w' ao cs := by
  rcases h with h | ⟨b, off, rfl, hb, hc⟩
  · exact .inl h
  · refine .inr ⟨b, off, rfl, Nat.lt_of_lt_of_le hb hg.size, fun i u hu => ?_⟩
    exact hg.cell (hc i u hu) (fun e => ho _ rfl (Option.some.inj e))

theorem Sl.off {w w' : World} {ao : Option Addr} {cap : Nat} {cs : List Value} {g : Nat} (h : Sl w ao cap cs) (hg : w.grownBy w' (some g)) (ho : Off g ao) : Sl w' ao cap cs :=
  ⟨h.row.off hg ho, h.le, h.max, h.nil⟩

/-- A slice that lay there ahead lies in no block that came behind. -/
theorem Sl.offNew {w : World} {ao : Option Addr} {cap : Nat} {cs : List Value} {g : Nat} (h : Sl w ao cap cs) (hg : w.heap.size ≤ g) (hne : cs ≠ []) : Off g ao := by
  obtain ⟨b, off, rfl, hb, _⟩ := h.row.at hne
  intro ad e
  cases e
  show b ≠ g
  omega

end Go.Proofs.YtcjdpilmhlfmfaaGreatDoor

/-
  Plain facts on bits and numbers: no program is named.
-/
namespace Go.Proofs.YtcjdpilmhlfmfaaGreatDoor
open Go.RowKit

/-- A width that may be asked. -/
def okW (width : Int) : Bool := decide (0 ≤ width ∧ width ≤ 40)
/-- A number that fits. -/
def okN (n width : Int) : Bool := decide (0 ≤ n ∧ n < 2 ^ width.toNat)
/-- A number's bit, counted from the least one. -/
def bitAt (n : Int) (j : Nat) : Bool := decide (n / 2 ^ j % 2 = 1)
/-- A number in so many bits, the greatest one first. -/
def bitsOf (n : Int) (w : Nat) : List Bool := (List.range w).map fun i => bitAt n (w - 1 - i)
/-- The number that bits say. -/
def numOf : List Bool → Nat
  | [] => 0
  | b :: l => b.toNat * 2 ^ l.length + numOf l

theorem length_bitsOf (n : Int) (w : Nat) : (bitsOf n w).length = w := by simp [bitsOf]

theorem bitsOf_get (n : Int) (w i : Nat) (h : i < w) : (bitsOf n w)[i]? = some (bitAt n (w - 1 - i)) := by
  simp [bitsOf, h]

theorem okW_true {w : Int} (h : okW w = true) : 0 ≤ w ∧ w ≤ 40 := of_decide_eq_true h
theorem okW_false {w : Int} (h : okW w = false) : w < 0 ∨ 40 < w := by
  have := of_decide_eq_false h
  omega

theorem pow_le_40 (k : Nat) (h : k ≤ 40) : (2 : Int) ^ k ≤ 1099511627776 := by
  have : (2 : Nat) ^ k ≤ 2 ^ 40 := Nat.pow_le_pow_right (by decide) h
  have h2 : ((2 ^ k : Nat) : Int) ≤ ((2 ^ 40 : Nat) : Int) := Int.ofNat_le.2 this
  simpa using h2

theorem pow_pos (k : Nat) : (0 : Int) < 2 ^ k := Int.pow_pos (by decide)

/-- A number fits just where nothing is left behind its shift. -/
theorem okN_shift {n w : Int} (h0 : 0 ≤ n) : okN n w = (n / 2 ^ w.toNat == 0) := by
  have hp := pow_pos w.toNat
  unfold okN
  rw [Bool.eq_iff_iff]
  simp only [decide_eq_true_eq, beq_iff_eq]
  constructor
  · intro h; exact Int.ediv_eq_zero_of_lt h0 h.2
  · intro h
    refine ⟨h0, ?_⟩
    have := Int.mul_ediv_add_emod n (2 ^ w.toNat)
    rw [h] at this
    have h3 := Int.emod_lt_of_pos n hp
    omega

theorem numOf_snoc (l : List Bool) (b : Bool) : numOf (l ++ [b]) = 2 * numOf l + b.toNat := by
  induction l with
  | nil => simp [numOf]
  | cons a l ih =>
    simp only [List.cons_append, numOf, ih, List.length_append, List.length_singleton, Nat.pow_succ]
    rw [Nat.mul_add, ← Nat.add_assoc]
    congr 2
    rw [← Nat.mul_assoc, Nat.mul_comm _ 2]

theorem numOf_lt (l : List Bool) : numOf l < 2 ^ l.length := by
  induction l with
  | nil => simp [numOf]
  | cons b l ih =>
    simp only [numOf, List.length_cons, Nat.pow_succ]
    cases b <;> simp <;> omega

theorem tmod_up {k n : Int} (hn : 1 ≤ n) (h : 0 ≤ k.tmod n) : k.tmod n = k % n := by
  have h1 := Int.mul_tdiv_add_tmod k n
  have h2 := Int.tmod_lt_of_pos k (show 0 < n by omega)
  conv => rhs; rw [← h1]
  rw [Int.mul_add_emod_self_left, Int.emod_eq_of_lt h h2]

theorem tmod_up' {k n : Int} (hn : 1 ≤ n) (h : k.tmod n < 0) : k.tmod n + n = k % n := by
  have h1 := Int.mul_tdiv_add_tmod k n
  have h2 := Int.lt_tmod_of_pos k (show 0 < n by omega)
  conv => rhs; rw [← h1]
  rw [Int.mul_add_emod_self_left, ← Int.add_emod_right, Int.emod_eq_of_lt (by omega) (by omega)]

theorem ret_int {k : IntKind} {a b : Int} (h : a = b) : Ending.returned (.int k a) = .returned (.int k b) := by rw [h]

/-- '& 1' of a number that is not below 0. -/
theorem and_one (x : Int) (h0 : 0 ≤ x) (h1 : x ≤ 9223372036854775807) : bits BinOp.and IntKind.i64 x 1 = x % 2 := by
  obtain ⟨n, rfl⟩ := Int.eq_ofNat_of_zero_le h0
  have e : (BitVec.ofInt 64 (n : Int)).toNat = n := by
    simp only [BitVec.toNat_ofInt]
    omega
  have e1 : (BitVec.ofInt 64 1).toNat = 1 := by decide
  show IntKind.i64.wrap ((BitVec.ofInt 64 (n : Int) &&& BitVec.ofInt 64 1).toNat : Nat) = _
  rw [BitVec.toNat_and, e, e1, Nat.and_one_is_mod, IntKind.wrap_i64]
  omega

theorem shifted_bounds (n : Int) (j : Nat) (h0 : 0 ≤ n) (h1 : n ≤ 9223372036854775807) : 0 ≤ n / 2 ^ j ∧ n / 2 ^ j ≤ 9223372036854775807 := by
  have hp := pow_pos j
  refine ⟨Int.ediv_nonneg h0 (Int.le_of_lt hp), ?_⟩
  have := Int.ediv_le_self (b := (2 : Int) ^ j) (a := n) h0
  omega

/-- The bit that Put stores. -/
theorem bit_stored (n : Int) (j : Nat) (h0 : 0 ≤ n) (h1 : n ≤ 9223372036854775807) : (bits BinOp.and IntKind.i64 (n / 2 ^ j) 1 == 1) = bitAt n j := by
  have hb := shifted_bounds n j h0 h1
  rw [and_one _ hb.1 hb.2]
  unfold bitAt
  rw [Bool.eq_iff_iff]
  simp

/-- The first bits of a number put, and as many zeros as are still to come. -/
theorem put_step (P : List Bool) (n : Int) (k i : Nat) (h : i < k) :
    ((P ++ (bitsOf n k).take i).map Value.bool ++ List.replicate (k - i) (Value.bool false)).set (P.length + i) (.bool (bitAt n (k - 1 - i))) = (P ++ (bitsOf n k).take (i + 1)).map Value.bool ++ List.replicate (k - (i + 1)) (Value.bool false) := by
  have hl : ((P ++ (bitsOf n k).take i).map Value.bool).length = P.length + i := by simp [length_bitsOf]; omega
  rw [List.set_append_right _ _ (by rw [hl]; exact Nat.le_refl _), hl, Nat.sub_self]
  obtain ⟨m, hm⟩ : ∃ m, k - i = m + 1 := ⟨k - i - 1, by omega⟩
  have hm2 : k - (i + 1) = m := by omega
  rw [hm, hm2, List.replicate_succ, List.set_cons_zero]
  have ht : (bitsOf n k).take (i + 1) = (bitsOf n k).take i ++ [bitAt n (k - 1 - i)] := by
    rw [List.take_add_one, bitsOf_get n k i h]
    simp
  rw [ht]
  simp

/-- '| 1' of an even number. -/
theorem or_one (n : Nat) (h : n < 1099511627776) : bits BinOp.or IntKind.i64 ((n : Int) * 2) 1 = (n : Int) * 2 + 1 := by
  have e : (BitVec.ofInt 64 ((n : Int) * 2)).toNat = n * 2 := by
    simp only [BitVec.toNat_ofInt]
    omega
  have e1 : (BitVec.ofInt 64 1).toNat = 1 := by decide
  show IntKind.i64.wrap ((BitVec.ofInt 64 ((n : Int) * 2) ||| BitVec.ofInt 64 1).toNat : Nat) = _
  have e2 : (n * 2) ||| 1 = n * 2 + 1 := by
    rw [Nat.mul_comm, ← Nat.two_pow_add_eq_or_of_lt (i := 1) (b := 1) (by decide) n]
  rw [BitVec.toNat_or, e, e1, e2, IntKind.wrap_i64]
  omega

theorem numOf_take (l : List Bool) (j : Nat) (h : j < l.length) : numOf (l.take (j + 1)) = 2 * numOf (l.take j) + (l.getD j false).toNat := by
  rw [List.take_add_one, List.getElem?_eq_getElem h]
  simp only [Option.toList_some]
  rw [numOf_snoc]
  simp [List.getD, List.getElem?_eq_getElem h]

theorem numOf_take_lt (l : List Bool) (j : Nat) : numOf (l.take j) < 2 ^ j := by
  have h1 := numOf_lt (l.take j)
  have h2 : (2 : Nat) ^ (l.take j).length ≤ 2 ^ j := Nat.pow_le_pow_right (by decide) (List.length_take_le _ _)
  omega

theorem pow_le_nat (k m : Nat) (h : k ≤ m) : (2 : Nat) ^ k ≤ 2 ^ m := Nat.pow_le_pow_right (by decide) h

end Go.Proofs.YtcjdpilmhlfmfaaGreatDoor

/-
  The numbers of chapter 2: folded, in groups of four bits, and back. No function of the program is named here.
-/
namespace Go.Proofs.YtcjdpilmhlfmfaaGreatDoor
open Go.RowKit

theorem hide {p : Prop} (h : p) : Hid p := h

/-- A number that may be put. -/
def zigOk (v : Int) : Bool := decide (-4000000 ≤ v ∧ v ≤ 4000000)
def foldN (v : Int) : Nat := if v < 0 then (-2 * v - 1).toNat else (2 * v).toNat
def unfoldN (n : Nat) : Int := if n % 2 = 1 then -(((n : Int) + 1) / 2) else (n : Int) / 2
/-- A group: whether there are more, and three bits. -/
def grp (m : Bool) (d : Nat) : List Bool := [m, decide (4 ≤ d), decide (2 ≤ d % 4), decide (d % 2 = 1)]
/-- The groups of a number, so many at most. -/
def code : Nat → Nat → List Bool
  | 0, _ => []
  | f + 1, n => grp (decide (0 < n / 8)) (n % 8) ++ (if n / 8 = 0 then [] else code f (n / 8))
/-- What is taken, from the group with that number on. -/
def decode : Nat → Nat → Nat → List Bool → Int × List Bool × Int
  | 0, _, _, _ => (0, [], 3)
  | f + 1, i, n, l =>
    if l.length < 4 then (0, [], 8)
    else if 0 < i ∧ numOf (l.take 4) = 0 then (0, [], 4)
    else if 8000000 < n + numOf (l.take 4) % 8 * 8 ^ i then (0, [], 3)
    else if numOf (l.take 4) < 8 then (unfoldN (n + numOf (l.take 4) % 8 * 8 ^ i), l.drop 4, 0)
    else decode f (i + 1) (n + numOf (l.take 4) % 8 * 8 ^ i) (l.drop 4)
def zigN (l : List Bool) : Int := (decode 8 0 0 l).1
def zigR (l : List Bool) : List Bool := (decode 8 0 0 l).2.1
def zigF (l : List Bool) : Int := (decode 8 0 0 l).2.2

theorem grp_length (m : Bool) (d : Nat) : (grp m d).length = 4 := rfl

theorem grp_low (d : Nat) (h : d < 8) : bitsOf (d : Int) 4 = grp false d := by
  have : ∀ d : Fin 8, bitsOf ((d.val : Nat) : Int) 4 = grp false d.val := by decide
  exact this ⟨d, h⟩

theorem grp_high (d : Nat) (h : d < 8) : bitsOf ((d : Int) + 8) 4 = grp true d := by
  have : ∀ d : Fin 8, bitsOf (((d.val : Nat) : Int) + 8) 4 = grp true d.val := by decide
  exact this ⟨d, h⟩

theorem numOf_grp (m : Bool) (d : Nat) (h : d < 8) : numOf (grp m d) = m.toNat * 8 + d := by
  have : ∀ (m : Bool) (d : Fin 8), numOf (grp m d.val) = m.toNat * 8 + d.val := by decide
  exact this m ⟨d, h⟩

theorem four (l : List Bool) (h : ¬ l.length < 4) : ∃ a b c d r, l = a :: b :: c :: d :: r := by
  match l, h with
  | [], h => exact absurd (by simp) h
  | [_], h => exact absurd (by simp) h
  | [_, _], h => exact absurd (by simp) h
  | [_, _, _], h => exact absurd (by simp) h
  | a :: b :: c :: d :: r, _ => exact ⟨a, b, c, d, r, rfl⟩

theorem grp_four (a b c d : Bool) : grp (decide (8 ≤ numOf [a, b, c, d])) (numOf [a, b, c, d] % 8) = [a, b, c, d] := by
  revert a b c d; decide

theorem foldN_le (v : Int) (h : zigOk v = true) : foldN v ≤ 8000000 := by
  have := of_decide_eq_true h
  unfold foldN; split <;> omega

theorem unfold_fold (v : Int) : unfoldN (foldN v) = v := by
  unfold unfoldN foldN
  by_cases h : v < 0
  · rw [if_pos h]
    obtain ⟨m, hm⟩ : ∃ m : Nat, m = (-2 * v - 1).toNat := ⟨_, rfl⟩
    rw [← hm]
    split <;> omega
  · rw [if_neg h]
    obtain ⟨m, hm⟩ : ∃ m : Nat, m = (2 * v).toNat := ⟨_, rfl⟩
    rw [← hm]
    split <;> omega

theorem fold_unfold (n : Nat) : foldN (unfoldN n) = n := by
  unfold unfoldN
  by_cases h : n % 2 = 1
  · rw [if_pos h]
    unfold foldN
    split <;> omega
  · rw [if_neg h]
    unfold foldN
    split <;> omega

theorem unfold_ok (n : Nat) (h : n ≤ 8000000) : zigOk (unfoldN n) = true := by
  unfold zigOk unfoldN
  apply decide_eq_true
  split <;> omega

theorem code_len_le : ∀ (f n : Nat), (code f n).length ≤ 4 * f
  | 0, _ => by simp [code]
  | f + 1, n => by
    have := code_len_le f (n / 8)
    unfold code
    rw [List.length_append, grp_length]
    split
    · simp; omega
    · omega

theorem step_pow (m i : Nat) : m % 8 * 8 ^ i + m / 8 * 8 ^ (i + 1) = m * 8 ^ i := by
  rw [Nat.pow_succ, Nat.mul_comm (8 ^ i) 8, ← Nat.mul_assoc, ← Nat.add_mul]
  congr 1
  omega

/-- What was put is taken. -/
theorem decode_code : ∀ (f i n m : Nat) (r : List Bool), m < 8 ^ f → 0 < f → (0 < i → 0 < m) → n + m * 8 ^ i ≤ 8000000 → decode f i n (code f m ++ r) = (unfoldN (n + m * 8 ^ i), r, 0)
  | 0, _, _, _, _, _, h, _, _ => absurd h (by simp)
  | f + 1, i, n, m, r, hm, _, hi, hb => by
    have hstep := step_pow m i
    have hpi : 0 < 8 ^ i := Nat.pow_pos (by decide)
    have hg := numOf_grp (decide (0 < m / 8)) (m % 8) (Nat.mod_lt _ (by decide))
    have hle : n + m % 8 * 8 ^ i ≤ 8000000 := by
      have : 0 ≤ m / 8 * 8 ^ (i + 1) := Nat.zero_le _
      omega
    have htake : ∀ t : List Bool, (grp (decide (0 < m / 8)) (m % 8) ++ t).take 4 = grp (decide (0 < m / 8)) (m % 8) := fun t => rfl
    have hdrop : ∀ t : List Bool, (grp (decide (0 < m / 8)) (m % 8) ++ t).drop 4 = t := fun t => rfl
    rw [code, List.append_assoc, decode, htake, hdrop, hg]
    rw [if_neg (by rw [List.length_append, grp_length]; omega)]
    by_cases hz : m / 8 = 0
    · have h0 : ¬ 0 < m / 8 := by omega
      have hmm : m % 8 = m := by omega
      rw [decide_eq_false h0, if_pos hz, hmm]
      simp only [Bool.toNat_false, Nat.zero_mul, Nat.zero_add, hmm, List.nil_append]
      rw [if_neg (by rintro ⟨h1, h2⟩; have := hi h1; omega), if_neg (by omega), if_pos (by omega)]
    · have h0 : 0 < m / 8 := by omega
      rw [decide_eq_true h0, if_neg hz]
      simp only [Bool.toNat_true, Nat.one_mul]
      have h8 : (8 + m % 8) % 8 = m % 8 := by omega
      rw [h8, if_neg (by rintro ⟨h1, h2⟩; omega), if_neg (by omega), if_neg (by omega)]
      have hf : 0 < f := by
        cases f with
        | zero => simp at hm; omega
        | succ f => omega
      have hpf : m / 8 < 8 ^ f := by
        rw [Nat.pow_succ] at hm
        exact Nat.div_lt_of_lt_mul (by rw [Nat.mul_comm]; exact hm)
      rw [decode_code f (i + 1) _ (m / 8) r hpf hf (fun _ => h0) (by omega)]
      have : n + m % 8 * 8 ^ i + m / 8 * 8 ^ (i + 1) = n + m * 8 ^ i := by omega
      rw [this]

/-- What is taken was put. -/
theorem code_decode : ∀ (f i n : Nat) (l : List Bool) (z : Int) (r : List Bool), decode f i n l = (z, r, 0) → ∃ m, m < 8 ^ f ∧ (0 < i → 0 < m) ∧ n + m * 8 ^ i ≤ 8000000 ∧ z = unfoldN (n + m * 8 ^ i) ∧ l = code f m ++ r
  | 0, _, _, _, _, _, h => by simp [decode] at h
  | f + 1, i, n, l, z, r, h => by
    rw [decode] at h
    by_cases h4 : l.length < 4
    · rw [if_pos h4] at h; simp at h
    rw [if_neg h4] at h
    obtain ⟨a, b, c, d, t, rfl⟩ := four l h4
    have ht : (a :: b :: c :: d :: t).take 4 = [a, b, c, d] := rfl
    have hd : (a :: b :: c :: d :: t).drop 4 = t := rfl
    rw [ht, hd] at h
    have hg := grp_four a b c d
    have hlt : numOf [a, b, c, d] < 16 := numOf_lt [a, b, c, d]
    have hl : a :: b :: c :: d :: t = [a, b, c, d] ++ t := rfl
    rw [hl, ← hg]
    generalize numOf [a, b, c, d] = g at *
    by_cases h1 : 0 < i ∧ g = 0
    · rw [if_pos h1] at h; simp at h
    rw [if_neg h1] at h
    by_cases h2 : 8000000 < n + g % 8 * 8 ^ i
    · rw [if_pos h2] at h; simp at h
    rw [if_neg h2] at h
    by_cases h3 : g < 8
    · rw [if_pos h3] at h
      simp only [Prod.mk.injEq, and_true] at h
      have hgg : g % 8 = g := by omega
      rw [hgg] at h2 h
      have hz : g / 8 = 0 := by omega
      refine ⟨g, ?_, fun hi => ?_, by omega, ?_, ?_⟩
      · rw [Nat.pow_succ]
        have : 0 < 8 ^ f := Nat.pow_pos (by decide)
        omega
      · by_cases g0 : g = 0
        · exact absurd ⟨hi, g0⟩ h1
        · omega
      · exact h.1.symm
      · rw [code, if_pos hz, decide_eq_false (show ¬ 8 ≤ g by omega), decide_eq_false (show ¬ 0 < g / 8 by omega), h.2]
        simp
    · rw [if_neg h3] at h
      obtain ⟨m, q1, q2, q3, q4, q5⟩ := code_decode f (i + 1) _ t z r h
      have hm := q2 (by omega)
      have e1 : (g % 8 + 8 * m) / 8 = m := by omega
      have e2 : (g % 8 + 8 * m) % 8 = g % 8 := by omega
      have hst := step_pow (g % 8 + 8 * m) i
      rw [e1, e2] at hst
      refine ⟨g % 8 + 8 * m, ?_, fun _ => by omega, by omega, ?_, ?_⟩
      · rw [Nat.pow_succ]; omega
      · rw [q4]; congr 1; omega
      · rw [code, e1, e2, if_neg (by omega), decide_eq_true (show 8 ≤ g by omega), decide_eq_true hm, List.append_assoc, ← q5]

def enc : List Nat → List Bool
  | [] => []
  | d :: r => grp (decide (0 < r.length)) d ++ enc r

theorem decode_length : ∀ (f i n : Nat) (l : List Bool), (decode f i n l).2.1.length ≤ l.length
  | 0, _, _, _ => by simp [decode]
  | f + 1, i, n, l => by
    have := decode_length f (i + 1) (n + numOf (l.take 4) % 8 * 8 ^ i) (l.drop 4)
    rw [decode]
    split
    · simp
    · split
      · simp
      · split
        · simp
        · split
          · simp
          · refine Nat.le_trans this ?_
            simp

theorem zigR_length (l : List Bool) : (zigR l).length ≤ l.length := decode_length 8 0 0 l

/-- P2.3, of a number: put, then taken. -/
theorem zig_taken (v : Int) (r : List Bool) (h : zigOk v = true) : decode 8 0 0 (code 8 (foldN v) ++ r) = (v, r, 0) := by
  have hb := foldN_le v h
  rw [decode_code 8 0 0 (foldN v) r (by omega) (by decide) (fun h => absurd h (by decide)) (by omega)]
  simp [unfold_fold]

/-- P2.3, of bits: taken, then put. -/
theorem zig_put (l : List Bool) (h : zigF l = 0) : zigOk (zigN l) = true ∧ code 8 (foldN (zigN l)) ++ zigR l = l := by
  obtain ⟨m, _, _, q3, q4, q5⟩ := code_decode 8 0 0 l (zigN l) (zigR l) (by
    unfold zigN zigR
    rw [show (0 : Int) = (decode 8 0 0 l).2.2 from h.symm])
  simp only [Nat.zero_add, Nat.pow_zero, Nat.mul_one] at q3 q4
  rw [q4, fold_unfold]
  exact ⟨unfold_ok m q3, q5.symm⟩

end Go.Proofs.YtcjdpilmhlfmfaaGreatDoor

/-
  What the package-level variables of Go's library hold that the calls read; how it stays. A builder stays one behind new memory.
-/
namespace Go.Proofs.YtcjdpilmhlfmfaaGreatDoor
open Go.RowKit

structure Gl (w : World) : Prop where
  max : ∃ m, w.cell? ⟨0, 0, none⟩ = some (.int .i64 m)
  syn : ∃ te pe, w.cell? ⟨1, 0, none⟩ = some (.iface te pe)
  rng : ∃ te pe, w.cell? ⟨2, 0, none⟩ = some (.iface te pe)
  tab : Lib.TabIs Tryz.prog w "internal/strconv.uint64pow10" .u64 Lib.pow10Tab
  eight : 8 ≤ w.heap.size

theorem Gl.call {w w' : World} (h : Gl w) (hb : Below w.heap.size w w') : Gl w' := by
  obtain ⟨⟨m, h1⟩, ⟨t2, p2, h2⟩, ⟨t3, p3, h3⟩, h4, h5⟩ := h
  exact ⟨⟨m, (hb.cell (p := ⟨0, 0, none⟩) (by simp only; omega)).trans h1⟩, ⟨t2, p2, (hb.cell (p := ⟨1, 0, none⟩) (by simp only; omega)).trans h2⟩, ⟨t3, p3, (hb.cell (p := ⟨2, 0, none⟩) (by simp only; omega)).trans h3⟩, Lib.tabBelow_of_tabIs h4 w' hb, Nat.le_trans h5 hb.size⟩

theorem Gl.alloc {w : World} (h : Gl w) (o : Obj) : Gl (w.alloc o) := h.call ((Below.refl _ _).alloc (Nat.le_refl _) o)

theorem isB_call {T e : TypeId} {B b : Nat} {bs : List Value} {w w' : World} (h : Lib.IsBuilderF T e B b bs w) (hb : Below w.heap.size w w') : Lib.IsBuilderF T e B b bs w' := by
  have one : ∀ p, Lib.BuilderAtF T e B b p bs w → Lib.BuilderAtF T e B b p bs w' := by
    rintro p ⟨h1, v, h2, h3, h4⟩
    have lt2 : b < w.heap.size := lt_of_block h2
    refine ⟨h1, v, by rw [hb.block b lt2]; exact h2, ?_, h4⟩
    obtain ⟨q1, q2 | ⟨g, cap, cur, fz, q3, q4, q5, q6⟩⟩ := h3
    · exact ⟨q1, .inl q2⟩
    · exact ⟨q1, .inr ⟨g, cap, cur, fz, q3, q4, by rw [hb.block g (lt_of_block q5)]; exact q5, q6⟩⟩
  exact h.elim (fun x => .inl (one _ x)) (fun x => .inr (one _ x))

end Go.Proofs.YtcjdpilmhlfmfaaGreatDoor

/-
  From what the row lists of the package-level variables to what the calls read of them; the wrap that keeps the world's shape.
-/
namespace Go.Proofs.YtcjdpilmhlfmfaaGreatDoor
open Go.ChangeShapes Go.WideShapes Go.ChangeAt Go.RowKit

theorem gPow : Tryz.prog.globalNamed "internal/strconv.uint64pow10" = some 3 := by kernel_rfl
theorem gRng : Tryz.prog.globalNamed "strconv.ErrRange" = some 2 := by kernel_rfl
theorem gSyn : Tryz.prog.globalNamed "strconv.ErrSyntax" = some 1 := by kernel_rfl
theorem starName : "*" ++ "errors.errorString" = "*errors.errorString" := by decide
theorem errRow (u : TypeId) (h : Tryz.prog.typeName? 3 u = some "*errors.errorString") : u = 272 :=
  typeName_ptr_named (nm := "errors.errorString") (by rw [starName]; kernel_rfl) (by kernel_rfl) (by decide) u (by rw [starName]; exact h)

theorem var_lt {P : Program} {w : World} {n : String} {g : Nat} {cs : Array Value} (hg : P.globalNamed n = some g) (h : w.var? P n = some cs) : g < w.heap.size := by
  unfold World.var? at h
  rw [hg] at h
  simp only [Option.bind_some] at h
  by_cases hlt : g < w.heap.size
  · exact hlt
  · rw [Array.getElem?_eq_none (by omega)] at h
    cases h

theorem glob_of {W : World} (hL : laidMet Tryz.prog [("math/bits.deBruijn32tab", Rows.laid_math_bits_deBruijn32tab), ("math/bits.deBruijn64tab", Rows.laid_math_bits_deBruijn64tab), ("internal/strconv.uint64pow10", Rows.laid_internal_strconv_uint64pow10), ("unicode/utf8.acceptRanges", Rows.laid_unicode_utf8_acceptRanges), ("strconv.ErrRange", Rows.laid_strconv_ErrRange), ("strconv.ErrSyntax", Rows.laid_strconv_ErrSyntax), ("unicode/utf8.first", Rows.laid_unicode_utf8_first)] W) (hsh : W.ShapedOpen Tryz.prog) : Gl W := by
  have h3 := hL.tail.tail
  have h5 := h3.tail.tail
  have h6 := h5.tail
  obtain ⟨a5, s5, v5, -, -, -⟩ := laid_sentinel h5 gRng (by kernel_rfl) Tryz.underlying158 errRow Tryz.underlying272 Tryz.underlying274 rfl rfl Tryz.underlying9 (by kernel_rfl) (by kernel_rfl)
  obtain ⟨a6, s6, v6, -, -, -⟩ := laid_sentinel h6 gSyn (by kernel_rfl) Tryz.underlying158 errRow Tryz.underlying272 Tryz.underlying274 rfl rfl Tryz.underlying9 (by kernel_rfl) (by kernel_rfl)
  refine ⟨?_, ⟨_, _, by simpa using World.var?_cell gSyn v6 0⟩, ⟨_, _, by simpa using World.var?_cell gRng v5 0⟩, ?_, ?_⟩
  · exact cell_of_shapedOpen_int (zero := #[.int .i64 0]) hsh (of_decide_eq_true (by kernel_rfl)) (by kernel_rfl) (by kernel_rfl) (by kernel_rfl) (by kernel_rfl) Tryz.underlying3
  · have e : Rows.laid_internal_strconv_uint64pow10 = Lib.tabData (H := Unit) .u64 Lib.pow10Tab := by kernel_rfl
    rw [e] at h3
    exact Lib.tabIs_of_head (t := 257) (n := 20) gPow (by kernel_rfl) Tryz.underlying257 Tryz.underlying207 (by kernel_rfl) (by kernel_rfl) h3
  · have g7 : Tryz.prog.globalNamed "unicode/utf8.acceptRanges" = some 5 := by kernel_rfl
    obtain ⟨g, t, cs, fuel, p, hg, ht, hv, hd⟩ := Lib.laidMet.reads hL (n := "unicode/utf8.acceptRanges") (d := Rows.laid_unicode_utf8_acceptRanges) (by simp)
    have l7 := var_lt g7 hv
    have g8 : Tryz.prog.globalNamed "math/bits.deBruijn64tab" = some 7 := by kernel_rfl
    obtain ⟨g, t, cs, fuel, p, hg, ht, hv, hd⟩ := Lib.laidMet.reads hL (n := "math/bits.deBruijn64tab") (d := Rows.laid_math_bits_deBruijn64tab) (by simp)
    have l8 := var_lt g8 hv
    omega

theorem returns_both {a : Assume} {C : Checked} {os : Os} {f : FuncId} {fn : Func} {s : ChangeSpec} {conds : List PathCond} {apart fresh handsOn again : Bool} {X : World → Array Value → Prop} {H : Type} {enc : TypeId × Value → H}
    (hX : ∀ (w w' : World) (args : Array Value), w.heap = w'.heap → X w args → X w' args)
    (own : ownKnob C.prog.godebug = none) (started : os.Started) (noInit : C.prog.inits.idxOf? f = none) (hfn : C.prog.funcs[f]? = some fn)
    (witness : ∃ (w : World) (tape : Tape) (i : Input), w.os = os ∧ (w.forCall tape i).Shaped C.prog ∧ i.vars = [] ∧ Input.okWide C.prog (w.forCall tape i) .any w.heap.size f i ∧
      ((s.pre enc C.prog fn conds apart (w.forCall tape i).memory i.args ∧ X (w.forCall tape i).memory i.args) ∧ sizedMet enc C.prog fn (OpenSpec.ofChange s) apart (w.forCall tape i).memory i.args) ∧ a.holds C.prog (lone (Frame.enter C.prog f i.args .normal) [] (w.forCall tape i)))
    (contract : ∀ (W : World) (base : Nat) (args : Array Value) (ds gs : List (DataW H)) (before : List MemPlace),
      (∀ (j : Nat) t v, fn.params[j]? = some t → args[j]? = some v → Value.okWide C.prog W .any base t v) →
      DataW.Whole enc C.prog fn.params.toList s.vars apart W args.toList ds gs before →
      (DataW.weightsEach C.prog (fn.params.toList ++ s.plain.varTypes C.prog) (ds ++ gs)).all (· ≤ reachBytes) = true → X W args → W.ShapedOpen C.prog →
      Calls C.prog f args W fun e W' => ∃ v, e = .returned v ∧ s.post enc C.prog fn apart fresh handsOn again W args v W') :
    ReturnsInHanded a C os f .any (fun w args => (s.pre enc C.prog fn conds apart w args ∧ X w args) ∧ sizedMet enc C.prog fn (OpenSpec.ofChange s) apart w args) (s.post enc C.prog fn apart fresh handsOn again) := by
  refine returnsInHanded_of_calls own started noInit witness ?_
  intro w tape i _ hsh _ hok hpre _
  obtain ⟨_, _, _, fn', hfn', _, _, _, _, hval⟩ := hok
  have e : fn' = fn := Option.some.inj (hfn'.symm.trans hfn)
  subst e
  obtain ⟨⟨⟨ds, gs, before, hw, _⟩, hx⟩, hz⟩ := hpre
  have hw' := DataW.Whole.of_heap (w' := w.forCall tape i) (by rfl) hw
  refine (contract (w.forCall tape i) w.heap.size i.args ds gs before hval hw' (hz.weights hw) (hX _ _ _ (by rfl) hx) hsh).mono fun e W' ⟨v, he, hp⟩ => ?_
  subst he
  exact ChangeSpec.post_blind hp

end Go.Proofs.YtcjdpilmhlfmfaaGreatDoor
