/-
  Blocks as plain lists and numbers: what a list of points is as a block (makeB, makeE), the points of a block (ptsL, ptsE), two merged (mergeB, mergeE); and that they agree with one another. No program is named.
-/
import Derived.Deep.Slices
import Derived.Lib.SmallJoins
import Derived.Lib.ItoaNum
import Derived.Lib.ItoaLen
import Derived.Lib.AtoiAll
import Derived.Test.YtcjdpilmhlfmfaaGreatDoorP05
import Derived.Test.YtcjdpilmhlfmfaaGreatDoorP02
import Derived.Test.YtcjdpilmhlfmfaaGreatDoorP01
namespace Go.Proofs.YtcjdpilmhlfmfaaGreatDoor
open Go.RowKit

structure Bk where
  n : Int
  fr : Int
  «to» : Int
  bits : List Bool

def bk0 : Bk := ⟨0, 0, 0, []⟩

/-- The value that is a block whose bits lie there. -/
def bkV (b : Bk) (ao : Option Addr) (cap : Nat) : Value := .agg #[.int .i64 b.n, .int .i64 b.fr, .int .i64 b.to, .slice ao b.bits.length cap]

def firstT (l : List Pt) : Int := (l.getD 0 (0, 0)).1
def endT (l : List Pt) : Int := (l.getD (l.length - 1) (0, 0)).1

def makeE (l : List Pt) : Int := if checkE l = 0 then (if l.length = 0 then 4 else 0) else checkE l
def makeB (l : List Pt) : Bk := if makeE l = 0 then ⟨l.length, firstT l, endT l, packL l⟩ else bk0

def fitsB (b : Bk) (l : List Pt) : Bool := decide (0 < l.length ∧ b.fr = firstT l ∧ b.to = endT l)
def ptsE (b : Bk) : Int := if unpE b.bits b.n = 0 then (if fitsB b (unpL b.bits b.n) = true then 0 else 4) else unpE b.bits b.n
def ptsL (b : Bk) : List Pt := if ptsE b = 0 then unpL b.bits b.n else []

def mergeE (a b : Bk) : Int := if ptsE a = 0 then (if ptsE b = 0 then makeE (ptsL a ++ ptsL b) else ptsE b) else ptsE a
def mergeB (a b : Bk) : Bk := if ptsE a = 0 ∧ ptsE b = 0 then makeB (ptsL a ++ ptsL b) else bk0

def sameB (a b : Bk) : Bool := decide (a.n = b.n) && decide (a.fr = b.fr) && decide (a.to = b.to) && decide (a.bits = b.bits)

theorem sameB_self (b : Bk) : sameB b b = true := by simp [sameB]

theorem ptsL_length (b : Bk) : (ptsL b).length ≤ 40 := by
  unfold ptsL
  split
  · exact unpL_length _ _
  · simp

theorem makeB_bits (l : List Pt) : (makeB l).bits.length ≤ 2560 := by
  unfold makeB
  split
  · exact packL_length l
  · simp [bk0]

theorem mergeB_bits (a b : Bk) : (mergeB a b).bits.length ≤ 2560 := by
  unfold mergeB
  split
  · exact makeB_bits _
  · simp [bk0]

theorem makeE_zero {l : List Pt} (h : checkE l = 0) (hl : 0 < l.length) : makeE l = 0 := by
  unfold makeE
  rw [if_pos h, if_neg (by omega)]

theorem makeB_eq {l : List Pt} (h : checkE l = 0) (hl : 0 < l.length) : makeB l = ⟨l.length, firstT l, endT l, packL l⟩ := by
  unfold makeB
  rw [if_pos (makeE_zero h hl)]

/-- The points of a block that was made. -/
theorem pts_make {l : List Pt} (h : checkE l = 0) (hl : 0 < l.length) : ptsE (makeB l) = 0 ∧ ptsL (makeB l) = l := by
  obtain ⟨h1, h2⟩ := pack_unpack h
  have he : ptsE (makeB l) = 0 := by
    unfold ptsE
    rw [makeB_eq h hl]
    simp only [h1, h2]
    have hf : fitsB ⟨l.length, firstT l, endT l, packL l⟩ l = true := decide_eq_true ⟨hl, rfl, rfl⟩
    rw [if_pos trivial, if_pos hf]
  refine ⟨he, ?_⟩
  unfold ptsL
  rw [if_pos he, makeB_eq h hl]
  exact h1

theorem chk_late : ∀ (l : List Pt) (a b : Int), b ≤ a → chk a l = 0 → chk b l = 0
  | [], _, _, _, _ => rfl
  | p :: r, a, b, hab, h => by
    obtain ⟨h1, h2, h3⟩ := chk_cons h
    unfold chk
    rw [if_neg (by rw [h1]; decide), if_neg (by omega)]
    exact h3

theorem lastT_ge : ∀ (l : List Pt) (a : Int), chk a l = 0 → a ≤ lastT a l
  | [], a, _ => Int.le_refl a
  | p :: r, a, h => by
    obtain ⟨_, h2, h3⟩ := chk_cons h
    have := lastT_ge r p.1 h3
    show a ≤ lastT p.1 r
    omega

theorem check_drop {l : List Pt} (h : checkE l = 0) (k : Nat) : checkE (l.drop k) = 0 := by
  obtain ⟨h40, hc⟩ := checkE_zero h
  unfold checkE
  rw [if_neg (by rw [List.length_drop]; omega)]
  rw [← List.take_append_drop k l, chk_append] at hc
  split at hc
  · rename_i h0
    exact chk_late _ _ _ (lastT_ge _ _ h0) hc
  · exact absurd hc (by assumption)

end Go.Proofs.YtcjdpilmhlfmfaaGreatDoor

/-
  Slices whose elements are more than one cell wide: what it means that a slice holds a list of such elements; how that stays; its parts; how such an argument is opened.
-/
namespace Go.Proofs.YtcjdpilmhlfmfaaGreatDoor
open Go.RowKit Go.ChangeShapes Go.WideShapes Go.ChangeAt

theorem flat_length {α : Type} {f : α → List Value} {k : Nat} (hf : ∀ x, (f x).length = k) : ∀ l : List α, (l.flatMap f).length = l.length * k
  | [] => by simp
  | x :: r => by
    rw [List.flatMap_cons, List.length_append, hf, flat_length hf r, List.length_cons, Nat.succ_mul]
    omega

theorem flat_get {α : Type} {f : α → List Value} {k : Nat} (hf : ∀ x, (f x).length = k) : ∀ (l : List α) (i j : Nat) (x : α), l[i]? = some x → j < k → (l.flatMap f)[i * k + j]? = (f x)[j]?
  | [], i, j, x, h, _ => by simp at h
  | y :: r, 0, j, x, h, hj => by
    simp at h
    subst h
    rw [Nat.zero_mul, Nat.zero_add, List.flatMap_cons, List.getElem?_append_left (by rw [hf]; exact hj)]
  | y :: r, i + 1, j, x, h, hj => by
    have ih := flat_get hf r i j x (by simpa using h) hj
    rw [List.flatMap_cons, List.getElem?_append_right (by rw [hf, Nat.succ_mul]; omega), hf, Nat.succ_mul, show i * k + k + j - k = i * k + j by omega]
    exact ih

theorem flat_take {α : Type} {f : α → List Value} {k : Nat} (hf : ∀ x, (f x).length = k) : ∀ (l : List α) (i : Nat), (l.flatMap f).take (i * k) = (l.take i).flatMap f
  | l, 0 => by simp
  | [], i + 1 => by simp
  | x :: r, i + 1 => by
    have ih := flat_take hf r i
    rw [List.flatMap_cons, List.take_succ_cons, List.flatMap_cons, ← ih, List.take_append, hf, Nat.succ_mul, List.take_of_length_le (by rw [hf]; omega), show i * k + k - k = i * k by omega]

theorem flat_drop {α : Type} {f : α → List Value} {k : Nat} (hf : ∀ x, (f x).length = k) : ∀ (l : List α) (i : Nat), (l.flatMap f).drop (i * k) = (l.drop i).flatMap f
  | l, 0 => by simp
  | [], i + 1 => by simp
  | x :: r, i + 1 => by
    have ih := flat_drop hf r i
    rw [List.flatMap_cons, List.drop_succ_cons, ← ih, List.drop_append, hf, Nat.succ_mul, List.drop_eq_nil_of_le (by rw [hf]; omega), List.nil_append, show i * k + k - k = i * k by omega]

/-- A slice whose elements are the cells that f says. -/
structure SlW {α : Type} (f : α → List Value) (w : World) (ao : Option Addr) (cap : Nat) (l : List α) : Prop where
  row : Row w ao (l.flatMap f)
  le : l.length ≤ cap
  max : cap ≤ 9223372036854775807
  nil : ao = none → cap = 0

theorem SlW.keep {α : Type} {f : α → List Value} {w w' : World} {ao : Option Addr} {cap : Nat} {l : List α} {B : Nat} (h : SlW f w ao cap l) (hb : Below B w w') (hB : w.heap.size ≤ B) : SlW f w' ao cap l :=
  ⟨h.row.keep hb hB, h.le, h.max, h.nil⟩

theorem SlW.call {α : Type} {f : α → List Value} {w w' : World} {ao : Option Addr} {cap : Nat} {l : List α} (h : SlW f w ao cap l) (hb : Below w.heap.size w w') : SlW f w' ao cap l := h.keep hb (Nat.le_refl _)

theorem SlW.alloc {α : Type} {f : α → List Value} {w : World} {ao : Option Addr} {cap : Nat} {l : List α} (h : SlW f w ao cap l) (o : Obj) : SlW f (w.alloc o) ao cap l :=
  ⟨h.row.alloc o, h.le, h.max, h.nil⟩

theorem SlW.ofNil {α : Type} (f : α → List Value) (w : World) : SlW f w none 0 [] := ⟨.inl rfl, Nat.le_refl _, by decide, fun _ => rfl⟩

theorem flat_ne {α : Type} {f : α → List Value} {k : Nat} (hf : ∀ x, (f x).length = k) (hk : 0 < k) {l : List α} (h : l ≠ []) : l.flatMap f ≠ [] := by
  intro e
  have h1 := flat_length hf l
  rw [e] at h1
  have h2 : 0 < l.length := List.length_pos_iff.2 h
  have := Nat.mul_pos h2 hk
  rw [← h1] at this
  exact Nat.lt_irrefl _ this

theorem SlW.where {α : Type} {f : α → List Value} {k : Nat} (hf : ∀ x, (f x).length = k) (hk : 0 < k) {w : World} {ao : Option Addr} {cap : Nat} {l : List α} (h : SlW f w ao cap l) (hne : l ≠ []) : ∃ b off, ao = some ⟨b, off, none⟩ ∧ b < w.heap.size := by
  obtain ⟨b, off, e, hb, _⟩ := h.row.at (flat_ne hf hk hne)
  exact ⟨b, off, e, hb⟩

/-- One cell of one element. -/
theorem SlW.cell {α : Type} {f : α → List Value} {k : Nat} (hf : ∀ x, (f x).length = k) {w : World} {b off cap : Nat} {l : List α} (h : SlW f w (some ⟨b, off, none⟩) cap l) (i j : Nat) (x : α) (v : Value) (hx : l[i]? = some x) (hj : (f x)[j]? = some v) :
    w.cell? ⟨b, off + i * k + j, none⟩ = some v := by
  have hjk : j < k := by rw [← hf x]; exact (List.getElem?_eq_some_iff.1 hj).1
  have hg := flat_get hf l i j x hx hjk
  rw [hj] at hg
  obtain ⟨b', off', e, _, hc⟩ := h.row.at (by intro e; rw [e] at hg; simp at hg)
  simp only [Option.some.injEq, Addr.mk.injEq, and_true] at e
  obtain ⟨rfl, rfl⟩ := e
  rw [Nat.add_assoc]
  exact hc _ _ hg

theorem SlW.front {α : Type} {f : α → List Value} {k : Nat} (hf : ∀ x, (f x).length = k) {w : World} {ao : Option Addr} {cap : Nat} {l : List α} (h : SlW f w ao cap l) (i : Nat) : SlW f w ao cap (l.take i) := by
  refine ⟨?_, by have := h.le; rw [List.length_take]; omega, h.max, h.nil⟩
  rcases h.row with h0 | ⟨b, off, e, hb, hc⟩
  · left; rw [← flat_take hf, h0]; simp
  · right
    refine ⟨b, off, e, hb, fun m v hv => hc m v ?_⟩
    rw [← flat_take hf, List.getElem?_take] at hv
    split at hv
    · exact hv
    · cases hv

theorem SlW.ofOwn {α : Type} {f : α → List Value} {k : Nat} (hf : ∀ x, (f x).length = k) (hk : 0 < k) {w : World} {base : Nat} {e : TypeId} {n : Nat} {v : Value} {l : List α} (h : w.ownsRow base e k v n (l.flatMap f)) : ∃ ao cap, v = .slice ao n cap ∧ SlW f w ao cap l ∧ l.length = n ∧ ∀ g, g < base → Off g ao := by
  have hl : l.length = n := by have := h.1; rw [flat_length hf] at this; exact Nat.eq_of_mul_eq_mul_right hk this
  rcases h.2 with ⟨rfl, rfl⟩ | ⟨g, cap, cur, rfl, hbg, hh, hnc, hcm, hcs, htk⟩
  · obtain rfl := List.eq_nil_of_length_eq_zero hl
    exact ⟨none, 0, rfl, SlW.ofNil f w, rfl, fun _ _ => Off.nil _⟩
  · refine ⟨_, _, rfl, ⟨.inr ⟨g, 0, rfl, (Array.getElem?_eq_some_iff.1 hh).1, fun i u hu => ?_⟩, by omega, by unfold maxLen at hcm; exact hcm, fun e => by cases e⟩, hl, fun g' hg' ad e => by cases e; show g ≠ g'; omega⟩
    rw [Nat.zero_add, h.cellAt i (by have := (List.getElem?_eq_some_iff.1 hu).1; rw [flat_length hf, hl] at this; exact this)]
    exact hu

/-- Every slice that a value leads to is within reach. -/
def Light {H : Type} (t : TypeId) (d : DataW H) : Prop := ∀ n ∈ d.weights Tryz.prog t, n ≤ 140737488351232

theorem weights_mem_all {H : Type} {e : TypeId} {d : DataW H} : ∀ {l : List (DataW H)}, d ∈ l → ∀ n ∈ d.weights Tryz.prog e, n ∈ DataW.weightsAll Tryz.prog e l
  | [], h, _, _ => by simp at h
  | x :: r, h, n, hn => by
    simp only [DataW.weightsAll, List.mem_append]
    rcases List.mem_cons.1 h with rfl | h
    · exact .inl hn
    · exact .inr (weights_mem_all h n hn)

/-- An argument that is a slice of wide elements: each element by its own reading. -/
theorem open_wide {H : Type} {enc : TypeId × Value → H} {W : World} {t e : TypeId} {k : Nat} {α : Type} (f : α → List Value) (Q : α → Prop) {ao : Option Addr} {n cap fuel : Nat} {d : DataW H} {ps : List MemPlace}
    (ht : Tryz.prog.underlying t = some (.slice e)) (ce : Tryz.prog.cellsOf e = k) (hk : 0 < k) (hf : ∀ x, (f x).length = k)
    (each : ∀ cs x m, cs.length = k → DataW.trod enc Tryz.prog W 0 (fun _ => true) true m e cs = some x → Light e x.1 → ∃ y : α, cs = f y ∧ Q y)
    (h : DataW.trod enc Tryz.prog W 0 (fun _ => true) true fuel t [.slice ao n cap] = some (d, ps)) (hw : Light t d) :
    ∃ l : List α, l.length = n ∧ SlW f W ao cap l ∧ (∀ y ∈ l, Q y) ∧ cap * Tryz.prog.bytesOf e ≤ 140737488351232 := by
  rcases Go.Deep.open_slice ht h with ⟨hcs, _⟩ | ⟨a, len, cp, m, fu, D, Pl, hcs, _, hl, hm, hmm, hx, hel⟩
  · simp at hcs
    obtain ⟨rfl, rfl, rfl⟩ := hcs
    exact ⟨[], rfl, SlW.ofNil f W, fun y hy => by simp at hy, by simp⟩
  · simp at hcs
    obtain ⟨rfl, rfl, rfl⟩ := hcs
    simp only [if_true] at hmm
    subst hmm
    simp only [Prod.mk.injEq] at hx
    have hcap : m * Tryz.prog.bytesOf e ≤ 140737488351232 := by
      have := hw ((((List.range n).map D).length + ((List.range (m - n)).map fun j => D (n + j)).length) * Tryz.prog.bytesOf e) (by rw [hx.1]; simp only [DataW.weights, ht]; exact List.mem_cons_self ..)
      rw [List.length_map, List.length_map, List.length_range, List.length_range, show n + (m - n) = m by omega] at this
      exact this
    have key : ∀ i, i < n → ∃ y : α, (∀ j v, (f y)[j]? = some v → W.cell? ((a.add (i * k)).add j) = some v) ∧ Q y := by
      intro i hi
      obtain ⟨cs, h1, h2⟩ := hel i (by omega)
      rw [ce] at h1
      obtain ⟨_, hlen, hcell⟩ := World.cells?_some h1
      obtain ⟨y, rfl, hq⟩ := each cs _ _ hlen h2 (by
        intro z hz
        refine hw z ?_
        rw [hx.1]
        simp only [DataW.weights, ht]
        exact List.mem_cons_of_mem _ (List.mem_append_left _ (weights_mem_all (List.mem_map.2 ⟨i, List.mem_range.2 hi, rfl⟩) z hz)))
      refine ⟨y, fun j v hv => ?_, hq⟩
      have hj : j < k := by rw [← hf y]; exact (List.getElem?_eq_some_iff.1 hv).1
      rw [hcell j hj, hv]
    obtain ⟨Y, hY⟩ : ∃ Y : Fin n → α, ∀ i : Fin n, (∀ j v, (f (Y i))[j]? = some v → W.cell? ((a.add (i.val * k)).add j) = some v) ∧ Q (Y i) :=
      ⟨fun i => (key i.val i.isLt).choose, fun i => (key i.val i.isLt).choose_spec⟩
    have hlen : (List.ofFn Y).length = n := by simp
    refine ⟨List.ofFn Y, hlen, ⟨?_, by rw [hlen]; exact hl, by unfold maxLen at hm; exact hm, fun e => by cases e⟩, ?_, hcap⟩
    · by_cases h0 : n = 0
      · left
        have : (List.ofFn Y) = [] := List.eq_nil_of_length_eq_zero (by rw [hlen, h0])
        rw [this]
        rfl
      · obtain ⟨b, off, spot⟩ := a
        have c0 := (hY ⟨0, by omega⟩).1 0 ((f (Y ⟨0, by omega⟩))[0]'(by rw [hf]; exact hk)) (by simp)
        simp only [Nat.zero_mul] at c0
        have hspot : spot = none := by simpa [Addr.add] using World.cell?_spot c0
        subst hspot
        rw [Addr.add_lit, Addr.add_lit] at c0
        have hlt := lt_of_cell c0
        refine .inr ⟨b, off, rfl, hlt, fun i v hv => ?_⟩
        have hi : i < n * k := by have := (List.getElem?_eq_some_iff.1 hv).1; rw [flat_length hf, hlen] at this; exact this
        have hq : i / k < n := (Nat.div_lt_iff_lt_mul hk).2 hi
        have hr : i % k < k := Nat.mod_lt _ hk
        have hg := flat_get hf (List.ofFn Y) (i / k) (i % k) (Y ⟨i / k, hq⟩) (by simp [hq]) hr
        have hdm : i / k * k + i % k = i := by rw [Nat.mul_comm]; exact Nat.div_add_mod i k
        rw [hdm, hv] at hg
        have := (hY ⟨i / k, hq⟩).1 (i % k) v hg.symm
        rw [Addr.add_lit, Addr.add_lit, Nat.add_assoc] at this
        simp only at this
        rw [hdm] at this
        exact this
    · intro y hy
      obtain ⟨i, hi, rfl⟩ := List.mem_iff_getElem.1 hy
      rw [List.getElem_ofFn]
      exact (hY _).2

end Go.Proofs.YtcjdpilmhlfmfaaGreatDoor

/-
  Shelves in memory: a block with where its bits lie, a row with where its blocks and its head lie, rows; what it means that they lie so, and how that stays. No function of the program is named.
-/
namespace Go.Proofs.YtcjdpilmhlfmfaaGreatDoor
open Go.RowKit

/-- A block of points, and where its bits lie. -/
structure Lb where
  b : Bk
  a : Option Addr
  c : Nat

def Lb.cells (x : Lb) : List Value := [.int .i64 x.b.n, .int .i64 x.b.fr, .int .i64 x.b.to, .slice x.a x.b.bits.length x.c]

theorem Lb.four (x : Lb) : x.cells.length = 4 := rfl

structure Lb.Good (w : World) (x : Lb) : Prop where
  bits : Sl w x.a x.c (x.b.bits.map Value.bool)
  few : x.b.bits.length ≤ 140737488355328

theorem Lb.Good.keep {w w' : World} {x : Lb} {B : Nat} (h : x.Good w) (hb : Below B w w') (hB : w.heap.size ≤ B) : x.Good w' := ⟨h.bits.keep hb hB, h.few⟩
theorem Lb.Good.alloc {w : World} {x : Lb} (h : x.Good w) (o : Obj) : x.Good (w.alloc o) := ⟨h.bits.alloc o, h.few⟩
/-- A slice of blocks. -/
structure SlB (w : World) (ao : Option Addr) (cap : Nat) (l : List Lb) : Prop where
  sl : SlW Lb.cells w ao cap l
  good : ∀ x ∈ l, x.Good w

theorem SlB.keep {w w' : World} {ao : Option Addr} {cap : Nat} {l : List Lb} {B : Nat} (h : SlB w ao cap l) (hb : Below B w w') (hB : w.heap.size ≤ B) : SlB w' ao cap l := ⟨h.sl.keep hb hB, fun x hx => (h.good x hx).keep hb hB⟩
theorem SlB.alloc {w : World} {ao : Option Addr} {cap : Nat} {l : List Lb} (h : SlB w ao cap l) (o : Obj) : SlB (w.alloc o) ao cap l := ⟨h.sl.alloc o, fun x hx => (h.good x hx).alloc o⟩
theorem SlB.ofNil (w : World) : SlB w none 0 [] := ⟨SlW.ofNil _ w, fun x hx => by simp at hx⟩

/-- One block of a slice of blocks: its four cells. -/
theorem SlB.at {w : World} {b off cap : Nat} {l : List Lb} (h : SlB w (some ⟨b, off, none⟩) cap l) (i : Nat) (x : Lb) (hx : l[i]? = some x) :
    w.cell? ⟨b, off + i * 4, none⟩ = some (.int .i64 x.b.n) ∧ w.cell? ⟨b, off + i * 4 + 1, none⟩ = some (.int .i64 x.b.fr) ∧ w.cell? ⟨b, off + i * 4 + 2, none⟩ = some (.int .i64 x.b.to) ∧ w.cell? ⟨b, off + i * 4 + 3, none⟩ = some (.slice x.a x.b.bits.length x.c) ∧ x.Good w :=
  ⟨h.sl.cell Lb.four i 0 x _ hx rfl, h.sl.cell Lb.four i 1 x _ hx rfl, h.sl.cell Lb.four i 2 x _ hx rfl, h.sl.cell Lb.four i 3 x _ hx rfl, h.good x (List.mem_of_getElem? hx)⟩

theorem SlB.where {w : World} {ao : Option Addr} {cap : Nat} {l : List Lb} (h : SlB w ao cap l) (hne : l ≠ []) : ∃ b off, ao = some ⟨b, off, none⟩ ∧ b < w.heap.size := h.sl.where Lb.four (by decide) hne

/-- A row of a shelf, and where its blocks and its head lie. -/
structure Lr where
  bs : List Lb
  ba : Option Addr
  bc : Nat
  hd : List Pt
  ha : Option Addr
  hc : Nat

def Lr.cells (r : Lr) : List Value := [.slice r.ba r.bs.length r.bc, .slice r.ha r.hd.length r.hc]

theorem Lr.two (r : Lr) : r.cells.length = 2 := rfl

def Lr.v (r : Lr) : Value := .agg #[.slice r.ba r.bs.length r.bc, .slice r.ha r.hd.length r.hc]

structure Lr.Good (w : World) (r : Lr) : Prop where
  bs : SlB w r.ba r.bc r.bs
  hd : SlP w r.ha r.hc r.hd
  few : r.bs.length ≤ 140737488355328
  hfew : r.hd.length ≤ 8796093022208

theorem Lr.Good.keep {w w' : World} {r : Lr} {B : Nat} (h : r.Good w) (hb : Below B w w') (hB : w.heap.size ≤ B) : r.Good w' := ⟨h.bs.keep hb hB, h.hd.keep hb hB, h.few, h.hfew⟩
theorem Lr.Good.alloc {w : World} {r : Lr} (h : r.Good w) (o : Obj) : r.Good (w.alloc o) := ⟨h.bs.alloc o, h.hd.alloc o, h.few, h.hfew⟩
/-- A slice of rows. -/
structure SlR (w : World) (ao : Option Addr) (cap : Nat) (l : List Lr) : Prop where
  sl : SlW Lr.cells w ao cap l
  good : ∀ r ∈ l, r.Good w

theorem SlR.keep {w w' : World} {ao : Option Addr} {cap : Nat} {l : List Lr} {B : Nat} (h : SlR w ao cap l) (hb : Below B w w') (hB : w.heap.size ≤ B) : SlR w' ao cap l := ⟨h.sl.keep hb hB, fun x hx => (h.good x hx).keep hb hB⟩
theorem SlR.call {w w' : World} {ao : Option Addr} {cap : Nat} {l : List Lr} (h : SlR w ao cap l) (hb : Below w.heap.size w w') : SlR w' ao cap l := h.keep hb (Nat.le_refl _)
theorem SlR.alloc {w : World} {ao : Option Addr} {cap : Nat} {l : List Lr} (h : SlR w ao cap l) (o : Obj) : SlR (w.alloc o) ao cap l := ⟨h.sl.alloc o, fun x hx => (h.good x hx).alloc o⟩
theorem SlR.ofNil (w : World) : SlR w none 0 [] := ⟨SlW.ofNil _ w, fun x hx => by simp at hx⟩

/-- One row of a slice of rows: its two cells. -/
theorem SlR.at {w : World} {b off cap : Nat} {l : List Lr} (h : SlR w (some ⟨b, off, none⟩) cap l) (i : Nat) (r : Lr) (hr : l[i]? = some r) :
    w.cell? ⟨b, off + i * 2, none⟩ = some (.slice r.ba r.bs.length r.bc) ∧ w.cell? ⟨b, off + i * 2 + 1, none⟩ = some (.slice r.ha r.hd.length r.hc) ∧ r.Good w :=
  ⟨h.sl.cell Lr.two i 0 r _ hr rfl, h.sl.cell Lr.two i 1 r _ hr rfl, h.good r (List.mem_of_getElem? hr)⟩

theorem SlR.where {w : World} {ao : Option Addr} {cap : Nat} {l : List Lr} (h : SlR w ao cap l) (hne : l ≠ []) : ∃ b off, ao = some ⟨b, off, none⟩ ∧ b < w.heap.size := h.sl.where Lr.two (by decide) hne

/-- A row as plain lists. -/
structure Rw where
  blocks : List Bk
  head : List Pt

def Lr.rw (r : Lr) : Rw := ⟨r.bs.map Lb.b, r.hd⟩

def sameBs : List Bk → List Bk → Bool
  | [], [] => true
  | x :: r, y :: s => sameB x y && sameBs r s
  | _, _ => false

def sameRw (x y : Rw) : Bool := sameBs x.blocks y.blocks && decide (x.head = y.head)

def sameSh : List Rw → List Rw → Bool
  | [], [] => true
  | x :: r, y :: s => sameRw x y && sameSh r s
  | _, _ => false

theorem sameB_eq {a b : Bk} (h : sameB a b = true) : a = b := by
  obtain ⟨an, af, aT, ab⟩ := a
  obtain ⟨bn, bf, bT, bb⟩ := b
  simp only [sameB, Bool.and_eq_true, decide_eq_true_eq] at h
  obtain ⟨⟨⟨rfl, rfl⟩, rfl⟩, rfl⟩ := h
  rfl

theorem sameBs_self : ∀ l : List Bk, sameBs l l = true
  | [] => rfl
  | x :: r => by rw [sameBs, sameB_self, sameBs_self r]; rfl

theorem sameRw_self (x : Rw) : sameRw x x = true := by rw [sameRw, sameBs_self]; simp

theorem sameSh_self : ∀ l : List Rw, sameSh l l = true
  | [] => rfl
  | x :: r => by rw [sameSh, sameRw_self, sameSh_self r]; rfl

end Go.Proofs.YtcjdpilmhlfmfaaGreatDoor

/-
  How arguments that are shelves, by value, and slices of entries are opened.
-/
namespace Go.Proofs.YtcjdpilmhlfmfaaGreatDoor
open Go.RowKit Go.ChangeShapes Go.WideShapes Go.ChangeAt Go.Joins

/-- An entry of a batch. -/
structure En where
  s : Int
  t : Int
  v : Int

def En.cells (x : En) : List Value := [.int .i64 x.s, .int .i64 x.t, .int .i64 x.v]
set_option maxRecDepth 100000 in
theorem En.three (x : En) : x.cells.length = 3 := rfl
end Go.Proofs.YtcjdpilmhlfmfaaGreatDoor

/-
  Records as texts, as plain lists. No program is named.
-/
namespace Go.Proofs.YtcjdpilmhlfmfaaGreatDoor

/-- An entry: series, time, value. -/
abbrev Nt := Int × Int × Int

/-- A record. -/
structure Rc where
  k : Int
  s : Int
  n : Int
  e : List Nt

def ntOk (x : Nt) : Bool := decide (0 ≤ x.1 ∧ x.1 < 4 ∧ 0 ≤ x.2.1 ∧ x.2.1 ≤ 100000 ∧ -1000000 ≤ x.2.2 ∧ x.2.2 ≤ 1000000)

def recE (r : Rc) : Int :=
  if r.k = 1 then (if r.s ≠ 0 ∨ r.n ≠ 0 then 4 else if 10 < r.e.length then 2 else if r.e.all ntOk then 0 else 3)
  else if r.k = 2 ∨ r.k = 3 ∨ r.k = 4 then (if r.e ≠ [] ∨ (r.k = 4 ∧ r.s ≠ 0) then 4 else if 0 ≤ r.s ∧ r.s < 4 ∧ 0 ≤ r.n ∧ r.n ≤ 100001 then 0 else 3)
  else 4

def wBatch : List UInt8 := [98, 97, 116, 99, 104]
def wSeal : List UInt8 := [115, 101, 97, 108]
def wMerge : List UInt8 := [109, 101, 114, 103, 101]
def wDrop : List UInt8 := [100, 114, 111, 112]

/-- Numbers, a blank ahead of each. -/
def numsT (l : List Int) : List UInt8 := l.flatMap (fun n => 32 :: Lib.itoa n)

def ntNums (l : List Nt) : List Int := l.flatMap (fun x => [x.1, x.2.1, x.2.2])

def recT (r : Rc) : List UInt8 :=
  if recE r = 0 then (if r.k = 1 then wBatch ++ numsT (ntNums r.e) else if r.k = 2 then wSeal ++ numsT [r.s, r.n] else if r.k = 3 then wMerge ++ numsT [r.s, r.n] else wDrop ++ numsT [r.n]) else []

theorem numsT_snoc (l : List Int) (n : Int) : numsT (l ++ [n]) = numsT l ++ 32 :: Lib.itoa n := by
  unfold numsT
  rw [List.flatMap_append]
  simp

theorem itoa_le (n : Int) (h0 : -9223372036854775808 ≤ n) (h1 : n ≤ 9223372036854775807) : (Lib.itoa n).length ≤ 21 := Lib.itoa_length_le n h0 h1

theorem numsT_le : ∀ (l : List Int), (∀ n ∈ l, -9223372036854775808 ≤ n ∧ n ≤ 9223372036854775807) → (numsT l).length ≤ l.length * 22
  | [], _ => Nat.le_refl _
  | n :: r, h => by
    have h1 := itoa_le n (h n List.mem_cons_self).1 (h n List.mem_cons_self).2
    have ih := numsT_le r (fun m hm => h m (List.mem_cons_of_mem _ hm))
    unfold numsT at ih ⊢
    rw [List.flatMap_cons, List.length_append, List.length_cons, List.length_cons, Nat.succ_mul]
    omega

end Go.Proofs.YtcjdpilmhlfmfaaGreatDoor

/-
  note.Check: what is wrong with a record; note.numbersOf: the numbers of entries.
-/
namespace Go.Proofs.YtcjdpilmhlfmfaaGreatDoor
open Go.RowKit

def ec (x : Nt) : List Value := [.int .i64 x.1, .int .i64 x.2.1, .int .i64 x.2.2]
theorem ec_three (x : Nt) : (ec x).length = 3 := rfl

theorem nIsSeries_any (n : Int) (w : World) :
    Calls Tryz.prog 181 #[.int .i64 n] w fun e w' => e = .returned (.bool (decide (0 ≤ n ∧ n < 4))) ∧ w' = w := by
  by_cases h0 : 0 ≤ n
  · by_cases h1 : n < 4
    · rw [decide_eq_true (⟨h0, h1⟩ : 0 ≤ n ∧ n < 4)]
      go_enter Tryz.func181, Tryz.ntmps181
      go_wp2
      go_ret
      exact ⟨rfl, rfl⟩
    · rw [decide_eq_false (by omega : ¬ (0 ≤ n ∧ n < 4))]
      go_enter Tryz.func181, Tryz.ntmps181
      go_wp2
      go_ret
      exact ⟨rfl, rfl⟩
  · rw [decide_eq_false (by omega : ¬ (0 ≤ n ∧ n < 4))]
    go_enter Tryz.func181, Tryz.ntmps181
    go_wp2
    go_ret
    exact ⟨rfl, rfl⟩

theorem check_one (t v : Int) : checkE [(t, v)] = if 0 ≤ t ∧ t ≤ 100000 ∧ -1000000 ≤ v ∧ v ≤ 1000000 then 0 else 3 := by
  unfold checkE chk chk ptOk
  by_cases h : 0 ≤ t ∧ t ≤ 100000 ∧ -1000000 ≤ v ∧ v ≤ 1000000
  · rw [if_pos h, if_neg (by simp), if_neg (by simp; omega), if_neg (by simp; omega)]
  · rw [if_neg h, if_neg (by simp), if_pos (by simp; omega)]

theorem one_pt (w : World) (t v : Int) (T : TypeId) : SlP (w.alloc (.cells #[.int .i64 t, .int .i64 v] T)) (some ⟨w.heap.size, 0, none⟩) 1 [(t, v)] := by
  have B := Blk.laid w [.int .i64 t, .int .i64 v] T _ rfl
  refine ⟨.inr ⟨_, _, rfl, B.lt, fun j u hu => ?_⟩, by simp, by decide, fun h => by cases h⟩
  match j, hu with
  | 0, hu => simp [cellsP] at hu; subst hu; exact B.cell 0
  | 1, hu => simp [cellsP] at hu; subst hu; exact B.cell 1
  | j + 2, hu => simp [cellsP] at hu

theorem newB {w W : World} (h : Below w.heap.size w W) (o : Obj) : Below w.heap.size w (W.alloc o) := h.alloc h.size o

theorem check_pt (t v : Int) (w : World) (T : TypeId) :
    Calls Tryz.prog 24 #[.slice (some ⟨w.heap.size, 0, none⟩) 1 1] (w.alloc (.cells #[.int .i64 t, .int .i64 v] T)) fun e w' => e = .returned (.int .i64 (checkE [(t, v)])) ∧ Below w.heap.size w w' := by
  refine (check_any (some ⟨w.heap.size, 0, none⟩) 1 [(t, v)] _ (one_pt w t v T)).mono ?_
  rintro e w' ⟨rfl, b⟩
  exact ⟨rfl, belowCall (newB (Below.refl _ _) _) b⟩

set_option maxHeartbeats 1000000 in
set_option maxRecDepth 100000 in
theorem batchLoop (l : List Nt) (a : Option Addr) (cap n : Nat) (w : World) (S : SlW ec w a cap l) (hn : n = l.length) (few : n ≤ 10) :
    Calls Tryz.prog 145 #[.agg #[.int .i64 1, .int .i64 0, .int .i64 0, .slice a n cap]] w fun e w' => e = .returned (.int .i64 (if l.all ntOk then 0 else 3)) ∧ Below w.heap.size w w' := by
  obtain ⟨E, hE⟩ : ∃ E : Int, E = if l.all ntOk then 0 else 3 := ⟨_, rfl⟩
  rw [← hE]
  replace hE := hide hE
  replace hn := hide hn
  have bel : Below w.heap.size w (w.alloc (.cells #[.int .i64 1, .int .i64 0, .int .i64 0, .slice a n cap] 66)) := (Below.refl _ _).alloc (Nat.le_refl _) _
  have B0 := Blk.laid w [.int .i64 1, .int .i64 0, .int .i64 0, .slice a n cap] 66 _ rfl
  have few' : ¬ (10 : Int) < n := by omega
  go_enter Tryz.func145, Tryz.ntmps145
  go_wp2_with fail
  generalize w.alloc _ = w1 at *
  go_loopw [21] (fun i wr => ∃ (k : Nat), k ≤ n ∧ i = .int .i64 k ∧ Hid ((l.take k).all ntOk = true) ∧ Below w.heap.size w wr) (fun i _ => n - (intOf i).toNat)
  case atStart => exact ⟨0, Nat.zero_le _, rfl, hide (by simp), bel⟩
  case round =>
    clear bel
    obtain ⟨k, hk, rfl, hA, bel⟩ := hrel
    by_cases hlt : k < n
    · have hkl : k < l.length := by rw [← hn.out]; exact hlt
      obtain ⟨b1, o1, rfl, hb1l⟩ := S.where ec_three (by decide) (by intro h; subst h; simp at hkl)
      obtain ⟨x, hx⟩ : ∃ x, l[k]? = some x := ⟨_, List.getElem?_eq_getElem hkl⟩
      have s1 := S.keep bel (Nat.le_refl _)
      have d0 := s1.cell ec_three k 0 x _ hx rfl
      have d1 := s1.cell ec_three k 1 x _ hx rfl
      have d2 := s1.cell ec_three k 2 x _ hx rfl
      simp only [Nat.add_zero] at d0
      have hno : ntOk x = false → E = 3 := by
        intro h
        rw [hE.out, if_neg]
        intro hall
        have := List.all_eq_true.1 hall x (List.mem_of_getElem? hx)
        rw [h] at this
        cases this
      have hyes : ntOk x = true → Hid ((l.take (k + 1)).all ntOk = true) := by
        intro h
        rw [List.take_add_one, hx, List.all_append, hA.out]
        simpa [Hid] using h
      obtain ⟨xs, xt, xv⟩ := x
      simp only at *
      replace hx := hide hx
      clear s1 hkl
      by_cases hs : 0 ≤ xs ∧ xs < 4
      · have c1 := fun W => nIsSeries_any xs W
        rw [decide_eq_true hs] at c1
        have c2 := fun W => check_pt xt xv W 50
        by_cases hp : 0 ≤ xt ∧ xt ≤ 100000 ∧ -1000000 ≤ xv ∧ xv ≤ 1000000
        · have hok : ntOk (xs, xt, xv) = true := decide_eq_true ⟨hs.1, hs.2, hp⟩
          simp only [check_one, if_pos hp] at c2
          go_wp2_with fail
          go_at_call 181
          refine (c1 _).mono ?_
          rintro e w2 ⟨rfl, rfl⟩
          have BX := Blk.laid wr [.int .i64 xs, .int .i64 xt, .int .i64 xv] 68 _ rfl
          have bX := newB bel (.cells #[.int .i64 xs, .int .i64 xt, .int .i64 xv] 68)
          generalize wr.alloc _ = w2 at *
          have z1 : w2.cell? ⟨wr.heap.size, 1, none⟩ = some (.int .i64 xt) := BX.cell 1
          have z2 : w2.cell? ⟨wr.heap.size, 2, none⟩ = some (.int .i64 xv) := BX.cell 2
          have lX := BX.lt
          clear c1
          go_wp2_with fail
          go_at_call 24
          refine (c2 _).mono ?_
          rintro e w3 ⟨rfl, b3⟩
          have bel3 := belowCall bX b3
          go_wp2_with fail
          go_roundw
          case rel => exact ⟨k + 1, by omega, by go_num, hyes hok, bel3⟩
          case measure => simp [intOf]; omega
        · have hok : ntOk (xs, xt, xv) = false := decide_eq_false (by rintro ⟨_, _, h⟩; exact hp h)
          simp only [check_one, if_neg hp] at c2
          obtain rfl := hno hok
          go_wp2_with fail
          go_at_call 181
          refine (c1 _).mono ?_
          rintro e w2 ⟨rfl, rfl⟩
          have BX := Blk.laid wr [.int .i64 xs, .int .i64 xt, .int .i64 xv] 68 _ rfl
          have bX := newB bel (.cells #[.int .i64 xs, .int .i64 xt, .int .i64 xv] 68)
          generalize wr.alloc _ = w2 at *
          have z1 : w2.cell? ⟨wr.heap.size, 1, none⟩ = some (.int .i64 xt) := BX.cell 1
          have z2 : w2.cell? ⟨wr.heap.size, 2, none⟩ = some (.int .i64 xv) := BX.cell 2
          have lX := BX.lt
          clear c1
          go_wp2_with fail
          go_at_call 24
          refine (c2 _).mono ?_
          rintro e w3 ⟨rfl, b3⟩
          have bel3 := belowCall bX b3
          go_wp2_with fail
          go_ret
          exact ⟨rfl, bel3⟩
      · have c1 := fun W => nIsSeries_any xs W
        rw [decide_eq_false hs] at c1
        have hok : ntOk (xs, xt, xv) = false := decide_eq_false (by rintro ⟨h1, h2, _⟩; exact hs ⟨h1, h2⟩)
        obtain rfl := hno hok
        go_wp2_with fail
        go_at_call 181
        refine (c1 _).mono ?_
        rintro e w2 ⟨rfl, rfl⟩
        go_wp2_with fail
        go_ret
        exact ⟨rfl, newB bel _⟩
    · obtain rfl : n = k := by omega
      have e0 : E = 0 := by
        rw [hE.out, if_pos]
        have := hA.out
        rw [List.take_of_length_le (by rw [← hn.out]; exact Nat.le_refl _)] at this
        exact this
      subst e0
      go_wp2_with fail
      go_ret
      exact ⟨rfl, bel⟩

end Go.Proofs.YtcjdpilmhlfmfaaGreatDoor
