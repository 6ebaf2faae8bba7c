/-
  Blocks as plain lists and numbers: what a list of points is as a block (makeB, makeE), the points of a block (ptsL, ptsE), two merged (mergeB, mergeE); and that they agree with one another. No program is named.
-/
import Derived.Deep.Slices
import Derived.Test.YtabeihkfjlmepaaP04
import Derived.Test.YtabeihkfjlmepaaP01
namespace Go.Proofs.Ytabeihkfjlmepaa
open Go.RowKit

structure Bk where
  n : Int
  fr : Int
  to : Int
  bits : List Bool

def bk0 : Bk := ⟨0, 0, 0, []⟩

/-- The value that is a block whose bits lie there. -/
def bkV (b : Bk) (ao : Option Addr) (cap : Nat) : Value := .agg #[.int .i64 b.n, .int .i64 b.fr, .int .i64 b.to, .slice ao b.bits.length cap]

def Bk.cells (b : Bk) (ao : Option Addr) (cap : Nat) : List Value := [.int .i64 b.n, .int .i64 b.fr, .int .i64 b.to, .slice ao b.bits.length cap]

def firstT (l : List Pt) : Int := (l.getD 0 (0, 0)).1
def endT (l : List Pt) : Int := (l.getD (l.length - 1) (0, 0)).1

def makeE (l : List Pt) : Int := if checkE l = 0 then (if l.length = 0 then 4 else 0) else checkE l
def makeB (l : List Pt) : Bk := if makeE l = 0 then ⟨l.length, firstT l, endT l, packL l⟩ else bk0

def fitsB (b : Bk) (l : List Pt) : Bool := decide (0 < l.length ∧ b.fr = firstT l ∧ b.to = endT l)
def ptsE (b : Bk) : Int := if unpE b.bits b.n = 0 then (if fitsB b (unpL b.bits b.n) = true then 0 else 4) else unpE b.bits b.n
def ptsL (b : Bk) : List Pt := if ptsE b = 0 then unpL b.bits b.n else []

def mergeE (a b : Bk) : Int := if ptsE a = 0 then (if ptsE b = 0 then makeE (ptsL a ++ ptsL b) else ptsE b) else ptsE a
def mergeB (a b : Bk) : Bk := if ptsE a = 0 ∧ ptsE b = 0 then makeB (ptsL a ++ ptsL b) else bk0

def sameB (a b : Bk) : Bool := decide (a.n = b.n) && decide (a.fr = b.fr) && decide (a.to = b.to) && decide (a.bits = b.bits)

theorem sameB_self (b : Bk) : sameB b b = true := by simp [sameB]

theorem ptsL_length (b : Bk) : (ptsL b).length ≤ 40 := by
  unfold ptsL
  split
  · exact unpL_length _ _
  · simp

theorem makeB_bits (l : List Pt) : (makeB l).bits.length ≤ 2560 := by
  unfold makeB
  split
  · exact packL_length l
  · simp [bk0]

theorem mergeB_bits (a b : Bk) : (mergeB a b).bits.length ≤ 2560 := by
  unfold mergeB
  split
  · exact makeB_bits _
  · simp [bk0]

theorem makeE_zero {l : List Pt} (h : checkE l = 0) (hl : 0 < l.length) : makeE l = 0 := by
  unfold makeE
  rw [if_pos h, if_neg (by omega)]

theorem makeB_eq {l : List Pt} (h : checkE l = 0) (hl : 0 < l.length) : makeB l = ⟨l.length, firstT l, endT l, packL l⟩ := by
  unfold makeB
  rw [if_pos (makeE_zero h hl)]

/-- The points of a block that was made. -/
theorem pts_make {l : List Pt} (h : checkE l = 0) (hl : 0 < l.length) : ptsE (makeB l) = 0 ∧ ptsL (makeB l) = l := by
  obtain ⟨h1, h2⟩ := pack_unpack h
  have he : ptsE (makeB l) = 0 := by
    unfold ptsE
    rw [makeB_eq h hl]
    simp only [h1, h2]
    have hf : fitsB ⟨l.length, firstT l, endT l, packL l⟩ l = true := decide_eq_true ⟨hl, rfl, rfl⟩
    rw [if_pos trivial, if_pos hf]
  refine ⟨he, ?_⟩
  unfold ptsL
  rw [if_pos he, makeB_eq h hl]
  exact h1

theorem merge_make {p q : List Pt} (hp : checkE p = 0) (hq : checkE q = 0) (h : checkE (p ++ q) = 0) (lp : 0 < p.length) (lq : 0 < q.length) : mergeE (makeB p) (makeB q) = 0 ∧ mergeB (makeB p) (makeB q) = makeB (p ++ q) := by
  obtain ⟨e1, l1⟩ := pts_make hp lp
  obtain ⟨e2, l2⟩ := pts_make hq lq
  constructor
  · unfold mergeE
    rw [if_pos e1, if_pos e2, l1, l2]
    exact makeE_zero h (by rw [List.length_append]; omega)
  · unfold mergeB
    rw [if_pos ⟨e1, e2⟩, l1, l2]

theorem chk_late : ∀ (l : List Pt) (a b : Int), b ≤ a → chk a l = 0 → chk b l = 0
  | [], _, _, _, _ => rfl
  | p :: r, a, b, hab, h => by
    obtain ⟨h1, h2, h3⟩ := chk_cons h
    unfold chk
    rw [if_neg (by rw [h1]; decide), if_neg (by omega)]
    exact h3

theorem lastT_ge : ∀ (l : List Pt) (a : Int), chk a l = 0 → a ≤ lastT a l
  | [], a, _ => Int.le_refl a
  | p :: r, a, h => by
    obtain ⟨_, h2, h3⟩ := chk_cons h
    have := lastT_ge r p.1 h3
    show a ≤ lastT p.1 r
    omega

theorem check_drop {l : List Pt} (h : checkE l = 0) (k : Nat) : checkE (l.drop k) = 0 := by
  obtain ⟨h40, hc⟩ := checkE_zero h
  unfold checkE
  rw [if_neg (by rw [List.length_drop]; omega)]
  rw [← List.take_append_drop k l, chk_append] at hc
  split at hc
  · rename_i h0
    exact chk_late _ _ _ (lastT_ge _ _ h0) hc
  · exact absurd hc (by assumption)

end Go.Proofs.Ytabeihkfjlmepaa

/-
  Slices whose elements are more than one cell wide: what it means that a slice holds a list of such elements; how that stays; its parts; how such an argument is opened.
-/
namespace Go.Proofs.Ytabeihkfjlmepaa
open Go.RowKit Go.ChangeShapes Go.WideShapes Go.ChangeAt

theorem flat_length {α : Type} {f : α → List Value} {k : Nat} (hf : ∀ x, (f x).length = k) : ∀ l : List α, (l.flatMap f).length = l.length * k
  | [] => by simp
  | x :: r => by
    rw [List.flatMap_cons, List.length_append, hf, flat_length hf r, List.length_cons, Nat.succ_mul]
    omega

theorem flat_get {α : Type} {f : α → List Value} {k : Nat} (hf : ∀ x, (f x).length = k) : ∀ (l : List α) (i j : Nat) (x : α), l[i]? = some x → j < k → (l.flatMap f)[i * k + j]? = (f x)[j]?
  | [], i, j, x, h, _ => by simp at h
  | y :: r, 0, j, x, h, hj => by
    simp at h
    subst h
    rw [Nat.zero_mul, Nat.zero_add, List.flatMap_cons, List.getElem?_append_left (by rw [hf]; exact hj)]
  | y :: r, i + 1, j, x, h, hj => by
    have ih := flat_get hf r i j x (by simpa using h) hj
    rw [List.flatMap_cons, List.getElem?_append_right (by rw [hf, Nat.succ_mul]; omega), hf, Nat.succ_mul, show i * k + k + j - k = i * k + j by omega]
    exact ih

theorem flat_take {α : Type} {f : α → List Value} {k : Nat} (hf : ∀ x, (f x).length = k) : ∀ (l : List α) (i : Nat), (l.flatMap f).take (i * k) = (l.take i).flatMap f
  | l, 0 => by simp
  | [], i + 1 => by simp
  | x :: r, i + 1 => by
    have ih := flat_take hf r i
    rw [List.flatMap_cons, List.take_succ_cons, List.flatMap_cons, ← ih, List.take_append, hf, Nat.succ_mul, List.take_of_length_le (by rw [hf]; omega), show i * k + k - k = i * k by omega]

theorem flat_drop {α : Type} {f : α → List Value} {k : Nat} (hf : ∀ x, (f x).length = k) : ∀ (l : List α) (i : Nat), (l.flatMap f).drop (i * k) = (l.drop i).flatMap f
  | l, 0 => by simp
  | [], i + 1 => by simp
  | x :: r, i + 1 => by
    have ih := flat_drop hf r i
    rw [List.flatMap_cons, List.drop_succ_cons, ← ih, List.drop_append, hf, Nat.succ_mul, List.drop_eq_nil_of_le (by rw [hf]; omega), List.nil_append, show i * k + k - k = i * k by omega]

/-- A slice whose elements are the cells that f says. -/
structure SlW {α : Type} (f : α → List Value) (w : World) (ao : Option Addr) (cap : Nat) (l : List α) : Prop where
  row : Row w ao (l.flatMap f)
  le : l.length ≤ cap
  max : cap ≤ 9223372036854775807
  nil : ao = none → cap = 0

theorem SlW.keep {α : Type} {f : α → List Value} {w w' : World} {ao : Option Addr} {cap : Nat} {l : List α} {B : Nat} (h : SlW f w ao cap l) (hb : Below B w w') (hB : w.heap.size ≤ B) : SlW f w' ao cap l :=
  ⟨h.row.keep hb hB, h.le, h.max, h.nil⟩

theorem SlW.call {α : Type} {f : α → List Value} {w w' : World} {ao : Option Addr} {cap : Nat} {l : List α} (h : SlW f w ao cap l) (hb : Below w.heap.size w w') : SlW f w' ao cap l := h.keep hb (Nat.le_refl _)

theorem SlW.alloc {α : Type} {f : α → List Value} {w : World} {ao : Option Addr} {cap : Nat} {l : List α} (h : SlW f w ao cap l) (o : Obj) : SlW f (w.alloc o) ao cap l :=
  ⟨h.row.alloc o, h.le, h.max, h.nil⟩

theorem SlW.drewN {α : Type} {f : α → List Value} {w : World} {ao : Option Addr} {cap : Nat} {l : List α} (h : SlW f w ao cap l) (n : Nat) : SlW f (w.drewN n) ao cap l := ⟨h.row.drewN n, h.le, h.max, h.nil⟩

theorem SlW.ofNil {α : Type} (f : α → List Value) (w : World) : SlW f w none 0 [] := ⟨.inl rfl, Nat.le_refl _, by decide, fun _ => rfl⟩

theorem flat_ne {α : Type} {f : α → List Value} {k : Nat} (hf : ∀ x, (f x).length = k) (hk : 0 < k) {l : List α} (h : l ≠ []) : l.flatMap f ≠ [] := by
  intro e
  have h1 := flat_length hf l
  rw [e] at h1
  have h2 : 0 < l.length := List.length_pos_iff.2 h
  have := Nat.mul_pos h2 hk
  rw [← h1] at this
  exact Nat.lt_irrefl _ this

theorem SlW.where {α : Type} {f : α → List Value} {k : Nat} (hf : ∀ x, (f x).length = k) (hk : 0 < k) {w : World} {ao : Option Addr} {cap : Nat} {l : List α} (h : SlW f w ao cap l) (hne : l ≠ []) : ∃ b off, ao = some ⟨b, off, none⟩ ∧ b < w.heap.size := by
  obtain ⟨b, off, e, hb, _⟩ := h.row.at (flat_ne hf hk hne)
  exact ⟨b, off, e, hb⟩

/-- One cell of one element. -/
theorem SlW.cell {α : Type} {f : α → List Value} {k : Nat} (hf : ∀ x, (f x).length = k) {w : World} {b off cap : Nat} {l : List α} (h : SlW f w (some ⟨b, off, none⟩) cap l) (i j : Nat) (x : α) (v : Value) (hx : l[i]? = some x) (hj : (f x)[j]? = some v) :
    w.cell? ⟨b, off + i * k + j, none⟩ = some v := by
  have hjk : j < k := by rw [← hf x]; exact (List.getElem?_eq_some_iff.1 hj).1
  have hg := flat_get hf l i j x hx hjk
  rw [hj] at hg
  obtain ⟨b', off', e, _, hc⟩ := h.row.at (by intro e; rw [e] at hg; simp at hg)
  simp only [Option.some.injEq, Addr.mk.injEq, and_true] at e
  obtain ⟨rfl, rfl⟩ := e
  rw [Nat.add_assoc]
  exact hc _ _ hg

theorem SlW.front {α : Type} {f : α → List Value} {k : Nat} (hf : ∀ x, (f x).length = k) {w : World} {ao : Option Addr} {cap : Nat} {l : List α} (h : SlW f w ao cap l) (i : Nat) : SlW f w ao cap (l.take i) := by
  refine ⟨?_, by have := h.le; rw [List.length_take]; omega, h.max, h.nil⟩
  rcases h.row with h0 | ⟨b, off, e, hb, hc⟩
  · left; rw [← flat_take hf, h0]; simp
  · right
    refine ⟨b, off, e, hb, fun m v hv => hc m v ?_⟩
    rw [← flat_take hf, List.getElem?_take] at hv
    split at hv
    · exact hv
    · cases hv

/-- A part of a slice, as the slice expression makes it. -/
theorem SlW.part {α : Type} {f : α → List Value} {k : Nat} (hf : ∀ x, (f x).length = k) {w : World} {ao : Option Addr} {cap : Nat} {l : List α} (h : SlW f w ao cap l) (p q : Nat) (hpq : p ≤ q) (hq : q ≤ l.length) : SlW f w (if cap = p then ao else Option.map (fun x => x.add (p * k)) ao) (cap - p) ((l.take q).drop p) := by
  have hle := h.le
  have hlen : ((l.take q).drop p).length = q - p := by rw [List.length_drop, List.length_take]; omega
  refine ⟨?_, by rw [hlen]; omega, by have := h.max; omega, ?_⟩
  · rcases (h.front hf q).row with h0 | ⟨b, off, rfl, hb, hc⟩
    · left
      rw [← flat_drop hf, h0]
      simp
    · by_cases he : p = q
      · left
        have e : (l.take q).drop p = [] := List.eq_nil_of_length_eq_zero (by rw [hlen]; omega)
        rw [e]
        rfl
      · right
        rw [if_neg (by omega)]
        refine ⟨b, off + p * k, by rw [Option.map_some, Addr.add_lit], hb, fun i v hv => ?_⟩
        rw [← flat_drop hf, List.getElem?_drop] at hv
        rw [Nat.add_assoc]
        exact hc _ _ hv
  · intro e
    by_cases hc : cap = p
    · omega
    · rw [if_neg hc] at e
      have := h.nil (by simpa using e)
      omega

theorem SlW.src {α : Type} {f : α → List Value} {w : World} {ao : Option Addr} {cap : Nat} {l : List α} (h : SlW f w ao cap l) : ∀ ad, ao = some ad → ∀ j u, (l.flatMap f)[j]? = some u → w.cell? (ad.add j) = some u := by
  intro ad had j u hu
  obtain ⟨b, off, e, _, hc⟩ := h.row.at (by intro e; rw [e] at hu; simp at hu)
  rw [e] at had
  obtain rfl := Option.some.inj had
  rw [Addr.add_lit]
  exact hc j u hu

theorem SlW.ofOwn {α : Type} {f : α → List Value} {k : Nat} (hf : ∀ x, (f x).length = k) (hk : 0 < k) {w : World} {base : Nat} {e : TypeId} {n : Nat} {v : Value} {l : List α} (h : w.ownsRow base e k v n (l.flatMap f)) : ∃ ao cap, v = .slice ao n cap ∧ SlW f w ao cap l ∧ l.length = n ∧ ∀ g, g < base → Off g ao := by
  have hl : l.length = n := by have := h.1; rw [flat_length hf] at this; exact Nat.eq_of_mul_eq_mul_right hk this
  rcases h.2 with ⟨rfl, rfl⟩ | ⟨g, cap, cur, rfl, hbg, hh, hnc, hcm, hcs, htk⟩
  · obtain rfl := List.eq_nil_of_length_eq_zero hl
    exact ⟨none, 0, rfl, SlW.ofNil f w, rfl, fun _ _ => Off.nil _⟩
  · refine ⟨_, _, rfl, ⟨.inr ⟨g, 0, rfl, (Array.getElem?_eq_some_iff.1 hh).1, fun i u hu => ?_⟩, by omega, by unfold maxLen at hcm; exact hcm, fun e => by cases e⟩, hl, fun g' hg' ad e => by cases e; show g ≠ g'; omega⟩
    rw [Nat.zero_add, h.cellAt i (by have := (List.getElem?_eq_some_iff.1 hu).1; rw [flat_length hf, hl] at this; exact this)]
    exact hu

/-- Every slice that a value leads to is within reach. -/
def Light {H : Type} (t : TypeId) (d : DataW H) : Prop := ∀ n ∈ d.weights Try.prog t, n ≤ 140737488351232

theorem weights_mem_all {H : Type} {e : TypeId} {d : DataW H} : ∀ {l : List (DataW H)}, d ∈ l → ∀ n ∈ d.weights Try.prog e, n ∈ DataW.weightsAll Try.prog e l
  | [], h, _, _ => by simp at h
  | x :: r, h, n, hn => by
    simp only [DataW.weightsAll, List.mem_append]
    rcases List.mem_cons.1 h with rfl | h
    · exact .inl hn
    · exact .inr (weights_mem_all h n hn)

/-- An argument that is a slice of wide elements: each element by its own reading. -/
theorem open_wide {H : Type} {enc : TypeId × Value → H} {W : World} {t e : TypeId} {k : Nat} {α : Type} (f : α → List Value) (Q : α → Prop) {ao : Option Addr} {n cap fuel : Nat} {d : DataW H} {ps : List MemPlace}
    (ht : Try.prog.underlying t = some (.slice e)) (ce : Try.prog.cellsOf e = k) (hk : 0 < k) (hf : ∀ x, (f x).length = k)
    (each : ∀ cs x m, cs.length = k → DataW.trod enc Try.prog W 0 (fun _ => true) true m e cs = some x → Light e x.1 → ∃ y : α, cs = f y ∧ Q y)
    (h : DataW.trod enc Try.prog W 0 (fun _ => true) true fuel t [.slice ao n cap] = some (d, ps)) (hw : Light t d) :
    ∃ l : List α, l.length = n ∧ SlW f W ao cap l ∧ (∀ y ∈ l, Q y) ∧ cap * Try.prog.bytesOf e ≤ 140737488351232 := by
  rcases Go.Deep.open_slice ht h with ⟨hcs, _⟩ | ⟨a, len, cp, m, fu, D, Pl, hcs, _, hl, hm, hmm, hx, hel⟩
  · simp at hcs
    obtain ⟨rfl, rfl, rfl⟩ := hcs
    exact ⟨[], rfl, SlW.ofNil f W, fun y hy => by simp at hy, by simp⟩
  · simp at hcs
    obtain ⟨rfl, rfl, rfl⟩ := hcs
    simp only [if_true] at hmm
    subst hmm
    simp only [Prod.mk.injEq] at hx
    have hcap : m * Try.prog.bytesOf e ≤ 140737488351232 := by
      have := hw ((((List.range n).map D).length + ((List.range (m - n)).map fun j => D (n + j)).length) * Try.prog.bytesOf e) (by rw [hx.1]; simp only [DataW.weights, ht]; exact List.mem_cons_self ..)
      rw [List.length_map, List.length_map, List.length_range, List.length_range, show n + (m - n) = m by omega] at this
      exact this
    have key : ∀ i, i < n → ∃ y : α, (∀ j v, (f y)[j]? = some v → W.cell? ((a.add (i * k)).add j) = some v) ∧ Q y := by
      intro i hi
      obtain ⟨cs, h1, h2⟩ := hel i (by omega)
      rw [ce] at h1
      obtain ⟨_, hlen, hcell⟩ := World.cells?_some h1
      obtain ⟨y, rfl, hq⟩ := each cs _ _ hlen h2 (by
        intro z hz
        refine hw z ?_
        rw [hx.1]
        simp only [DataW.weights, ht]
        exact List.mem_cons_of_mem _ (List.mem_append_left _ (weights_mem_all (List.mem_map.2 ⟨i, List.mem_range.2 hi, rfl⟩) z hz)))
      refine ⟨y, fun j v hv => ?_, hq⟩
      have hj : j < k := by rw [← hf y]; exact (List.getElem?_eq_some_iff.1 hv).1
      rw [hcell j hj, hv]
    obtain ⟨Y, hY⟩ : ∃ Y : Fin n → α, ∀ i : Fin n, (∀ j v, (f (Y i))[j]? = some v → W.cell? ((a.add (i.val * k)).add j) = some v) ∧ Q (Y i) :=
      ⟨fun i => (key i.val i.isLt).choose, fun i => (key i.val i.isLt).choose_spec⟩
    have hlen : (List.ofFn Y).length = n := by simp
    refine ⟨List.ofFn Y, hlen, ⟨?_, by rw [hlen]; exact hl, by unfold maxLen at hm; exact hm, fun e => by cases e⟩, ?_, hcap⟩
    · by_cases h0 : n = 0
      · left
        have : (List.ofFn Y) = [] := List.eq_nil_of_length_eq_zero (by rw [hlen, h0])
        rw [this]
        rfl
      · obtain ⟨b, off, spot⟩ := a
        have c0 := (hY ⟨0, by omega⟩).1 0 ((f (Y ⟨0, by omega⟩))[0]'(by rw [hf]; exact hk)) (by simp)
        simp only [Nat.zero_mul] at c0
        have hspot : spot = none := by simpa [Addr.add] using World.cell?_spot c0
        subst hspot
        rw [Addr.add_lit, Addr.add_lit] at c0
        have hlt := lt_of_cell c0
        refine .inr ⟨b, off, rfl, hlt, fun i v hv => ?_⟩
        have hi : i < n * k := by have := (List.getElem?_eq_some_iff.1 hv).1; rw [flat_length hf, hlen] at this; exact this
        have hq : i / k < n := (Nat.div_lt_iff_lt_mul hk).2 hi
        have hr : i % k < k := Nat.mod_lt _ hk
        have hg := flat_get hf (List.ofFn Y) (i / k) (i % k) (Y ⟨i / k, hq⟩) (by simp [hq]) hr
        have hdm : i / k * k + i % k = i := by rw [Nat.mul_comm]; exact Nat.div_add_mod i k
        rw [hdm, hv] at hg
        have := (hY ⟨i / k, hq⟩).1 (i % k) v hg.symm
        rw [Addr.add_lit, Addr.add_lit, Nat.add_assoc] at this
        simp only at this
        rw [hdm] at this
        exact this
    · intro y hy
      obtain ⟨i, hi, rfl⟩ := List.mem_iff_getElem.1 hy
      rw [List.getElem_ofFn]
      exact (hY _).2

end Go.Proofs.Ytabeihkfjlmepaa

/-
  Shelves in memory: a block with where its bits lie, a row with where its blocks and its head lie, rows; what it means that they lie so, and how that stays. No function of the program is named.
-/
namespace Go.Proofs.Ytabeihkfjlmepaa
open Go.RowKit

/-- A block of points, and where its bits lie. -/
structure Lb where
  b : Bk
  a : Option Addr
  c : Nat

def Lb.cells (x : Lb) : List Value := [.int .i64 x.b.n, .int .i64 x.b.fr, .int .i64 x.b.to, .slice x.a x.b.bits.length x.c]

theorem Lb.four (x : Lb) : x.cells.length = 4 := rfl

structure Lb.Good (w : World) (x : Lb) : Prop where
  bits : Sl w x.a x.c (x.b.bits.map Value.bool)
  few : x.b.bits.length ≤ 140737488355328

theorem Lb.Good.keep {w w' : World} {x : Lb} {B : Nat} (h : x.Good w) (hb : Below B w w') (hB : w.heap.size ≤ B) : x.Good w' := ⟨h.bits.keep hb hB, h.few⟩
theorem Lb.Good.alloc {w : World} {x : Lb} (h : x.Good w) (o : Obj) : x.Good (w.alloc o) := ⟨h.bits.alloc o, h.few⟩
theorem Lb.Good.drewN {w : World} {x : Lb} (h : x.Good w) (n : Nat) : x.Good (w.drewN n) := ⟨h.bits.drewN n, h.few⟩

/-- A slice of blocks. -/
structure SlB (w : World) (ao : Option Addr) (cap : Nat) (l : List Lb) : Prop where
  sl : SlW Lb.cells w ao cap l
  good : ∀ x ∈ l, x.Good w

theorem SlB.keep {w w' : World} {ao : Option Addr} {cap : Nat} {l : List Lb} {B : Nat} (h : SlB w ao cap l) (hb : Below B w w') (hB : w.heap.size ≤ B) : SlB w' ao cap l := ⟨h.sl.keep hb hB, fun x hx => (h.good x hx).keep hb hB⟩
theorem SlB.call {w w' : World} {ao : Option Addr} {cap : Nat} {l : List Lb} (h : SlB w ao cap l) (hb : Below w.heap.size w w') : SlB w' ao cap l := h.keep hb (Nat.le_refl _)
theorem SlB.alloc {w : World} {ao : Option Addr} {cap : Nat} {l : List Lb} (h : SlB w ao cap l) (o : Obj) : SlB (w.alloc o) ao cap l := ⟨h.sl.alloc o, fun x hx => (h.good x hx).alloc o⟩
theorem SlB.drewN {w : World} {ao : Option Addr} {cap : Nat} {l : List Lb} (h : SlB w ao cap l) (n : Nat) : SlB (w.drewN n) ao cap l := ⟨h.sl.drewN n, fun x hx => (h.good x hx).drewN n⟩
theorem SlB.ofNil (w : World) : SlB w none 0 [] := ⟨SlW.ofNil _ w, fun x hx => by simp at hx⟩

/-- One block of a slice of blocks: its four cells. -/
theorem SlB.at {w : World} {b off cap : Nat} {l : List Lb} (h : SlB w (some ⟨b, off, none⟩) cap l) (i : Nat) (x : Lb) (hx : l[i]? = some x) :
    w.cell? ⟨b, off + i * 4, none⟩ = some (.int .i64 x.b.n) ∧ w.cell? ⟨b, off + i * 4 + 1, none⟩ = some (.int .i64 x.b.fr) ∧ w.cell? ⟨b, off + i * 4 + 2, none⟩ = some (.int .i64 x.b.to) ∧ w.cell? ⟨b, off + i * 4 + 3, none⟩ = some (.slice x.a x.b.bits.length x.c) ∧ x.Good w :=
  ⟨h.sl.cell Lb.four i 0 x _ hx rfl, h.sl.cell Lb.four i 1 x _ hx rfl, h.sl.cell Lb.four i 2 x _ hx rfl, h.sl.cell Lb.four i 3 x _ hx rfl, h.good x (List.mem_of_getElem? hx)⟩

theorem SlB.where {w : World} {ao : Option Addr} {cap : Nat} {l : List Lb} (h : SlB w ao cap l) (hne : l ≠ []) : ∃ b off, ao = some ⟨b, off, none⟩ ∧ b < w.heap.size := h.sl.where Lb.four (by decide) hne

/-- A row of a shelf, and where its blocks and its head lie. -/
structure Lr where
  bs : List Lb
  ba : Option Addr
  bc : Nat
  hd : List Pt
  ha : Option Addr
  hc : Nat

def Lr.cells (r : Lr) : List Value := [.slice r.ba r.bs.length r.bc, .slice r.ha r.hd.length r.hc]

theorem Lr.two (r : Lr) : r.cells.length = 2 := rfl

def Lr.v (r : Lr) : Value := .agg #[.slice r.ba r.bs.length r.bc, .slice r.ha r.hd.length r.hc]

structure Lr.Good (w : World) (r : Lr) : Prop where
  bs : SlB w r.ba r.bc r.bs
  hd : SlP w r.ha r.hc r.hd
  few : r.bs.length ≤ 140737488355328
  hfew : r.hd.length ≤ 8796093022208

theorem Lr.Good.keep {w w' : World} {r : Lr} {B : Nat} (h : r.Good w) (hb : Below B w w') (hB : w.heap.size ≤ B) : r.Good w' := ⟨h.bs.keep hb hB, h.hd.keep hb hB, h.few, h.hfew⟩
theorem Lr.Good.call {w w' : World} {r : Lr} (h : r.Good w) (hb : Below w.heap.size w w') : r.Good w' := h.keep hb (Nat.le_refl _)
theorem Lr.Good.alloc {w : World} {r : Lr} (h : r.Good w) (o : Obj) : r.Good (w.alloc o) := ⟨h.bs.alloc o, h.hd.alloc o, h.few, h.hfew⟩
theorem Lr.Good.drewN {w : World} {r : Lr} (h : r.Good w) (n : Nat) : r.Good (w.drewN n) := ⟨h.bs.drewN n, h.hd.drewN n, h.few, h.hfew⟩

/-- A slice of rows. -/
structure SlR (w : World) (ao : Option Addr) (cap : Nat) (l : List Lr) : Prop where
  sl : SlW Lr.cells w ao cap l
  good : ∀ r ∈ l, r.Good w

theorem SlR.keep {w w' : World} {ao : Option Addr} {cap : Nat} {l : List Lr} {B : Nat} (h : SlR w ao cap l) (hb : Below B w w') (hB : w.heap.size ≤ B) : SlR w' ao cap l := ⟨h.sl.keep hb hB, fun x hx => (h.good x hx).keep hb hB⟩
theorem SlR.call {w w' : World} {ao : Option Addr} {cap : Nat} {l : List Lr} (h : SlR w ao cap l) (hb : Below w.heap.size w w') : SlR w' ao cap l := h.keep hb (Nat.le_refl _)
theorem SlR.alloc {w : World} {ao : Option Addr} {cap : Nat} {l : List Lr} (h : SlR w ao cap l) (o : Obj) : SlR (w.alloc o) ao cap l := ⟨h.sl.alloc o, fun x hx => (h.good x hx).alloc o⟩
theorem SlR.drewN {w : World} {ao : Option Addr} {cap : Nat} {l : List Lr} (h : SlR w ao cap l) (n : Nat) : SlR (w.drewN n) ao cap l := ⟨h.sl.drewN n, fun x hx => (h.good x hx).drewN n⟩
theorem SlR.ofNil (w : World) : SlR w none 0 [] := ⟨SlW.ofNil _ w, fun x hx => by simp at hx⟩

/-- One row of a slice of rows: its two cells. -/
theorem SlR.at {w : World} {b off cap : Nat} {l : List Lr} (h : SlR w (some ⟨b, off, none⟩) cap l) (i : Nat) (r : Lr) (hr : l[i]? = some r) :
    w.cell? ⟨b, off + i * 2, none⟩ = some (.slice r.ba r.bs.length r.bc) ∧ w.cell? ⟨b, off + i * 2 + 1, none⟩ = some (.slice r.ha r.hd.length r.hc) ∧ r.Good w :=
  ⟨h.sl.cell Lr.two i 0 r _ hr rfl, h.sl.cell Lr.two i 1 r _ hr rfl, h.good r (List.mem_of_getElem? hr)⟩

theorem SlR.where {w : World} {ao : Option Addr} {cap : Nat} {l : List Lr} (h : SlR w ao cap l) (hne : l ≠ []) : ∃ b off, ao = some ⟨b, off, none⟩ ∧ b < w.heap.size := h.sl.where Lr.two (by decide) hne

/-- A row as plain lists. -/
structure Rw where
  blocks : List Bk
  head : List Pt

def Lr.rw (r : Lr) : Rw := ⟨r.bs.map Lb.b, r.hd⟩

def sameBs : List Bk → List Bk → Bool
  | [], [] => true
  | x :: r, y :: s => sameB x y && sameBs r s
  | _, _ => false

def sameRw (x y : Rw) : Bool := sameBs x.blocks y.blocks && decide (x.head = y.head)

def sameSh : List Rw → List Rw → Bool
  | [], [] => true
  | x :: r, y :: s => sameRw x y && sameSh r s
  | _, _ => false

theorem sameB_eq {a b : Bk} (h : sameB a b = true) : a = b := by
  obtain ⟨an, af, aT, ab⟩ := a
  obtain ⟨bn, bf, bT, bb⟩ := b
  simp only [sameB, Bool.and_eq_true, decide_eq_true_eq] at h
  obtain ⟨⟨⟨rfl, rfl⟩, rfl⟩, rfl⟩ := h
  rfl

theorem sameBs_self : ∀ l : List Bk, sameBs l l = true
  | [] => rfl
  | x :: r => by rw [sameBs, sameB_self, sameBs_self r]; rfl

theorem sameRw_self (x : Rw) : sameRw x x = true := by rw [sameRw, sameBs_self]; simp

theorem sameSh_self : ∀ l : List Rw, sameSh l l = true
  | [] => rfl
  | x :: r => by rw [sameSh, sameRw_self, sameSh_self r]; rfl

end Go.Proofs.Ytabeihkfjlmepaa

/-
  Rows and shelves as plain lists: what is wrong with a row (rowE), all its points (rowL), what is wrong with a shelf (shelfE). No program is named.
-/
namespace Go.Proofs.Ytabeihkfjlmepaa
open Go.RowKit

def blksE : List Bk → Int
  | [] => 0
  | b :: r => if ptsE b = 0 then blksE r else ptsE b

def blksL (l : List Bk) : List Pt := l.flatMap ptsL

def allPts (r : Rw) : List Pt := blksL r.blocks ++ r.head

def rowE (r : Rw) : Int := if 8 < r.blocks.length then 2 else if blksE r.blocks = 0 then checkE (allPts r) else blksE r.blocks

def rowL (r : Rw) : List Pt := if rowE r = 0 then allPts r else []

def rowsE : List Rw → Int
  | [] => 0
  | r :: l => if rowE r = 0 then rowsE l else rowE r

def shelfE (l : List Rw) : Int := if l.length = 4 then rowsE l else 4

theorem blksE_take {l : List Bk} : ∀ (k : Nat), blksE l = 0 → blksE (l.take k) = 0 := by
  induction l with
  | nil => intro k h; simpa using h
  | cons b r ih =>
    intro k h
    cases k with
    | zero => rfl
    | succ k =>
      unfold blksE at h
      split at h
      · rename_i h0
        rw [List.take_succ_cons, blksE, if_pos h0]
        exact ih k h
      · rename_i h0
        exact absurd h h0

theorem rowL_length (r : Rw) : (rowL r).length ≤ 40 := by
  unfold rowL
  split
  · rename_i h
    unfold rowE at h
    split at h
    · cases h
    · split at h
      · exact (checkE_zero h).1
      · rename_i h1
        exact absurd h h1
  · simp

end Go.Proofs.Ytabeihkfjlmepaa

/-
  What the walks over blocks share: four cells written at once, where bits may lie, the first and the last time of a slice of points. No function of the program is named.
-/
namespace Go.Proofs.Ytabeihkfjlmepaa
open Go.RowKit

theorem Blk.put4 {w : World} {g : Nat} {c0 c1 c2 c3 : Value} {t : TypeId} (h : Blk w g [c0, c1, c2, c3] t) (u0 u1 u2 u3 : Value) :
    Blk ((((w.setCell ⟨g, 0, none⟩ u0).setCell ⟨g, 1, none⟩ u1).setCell ⟨g, 2, none⟩ u2).setCell ⟨g, 3, none⟩ u3) g [u0, u1, u2, u3] t :=
  (((h.set 0 u0).set 1 u1).set 2 u2).set 3 u3

theorem below4 {B : Nat} {w W : World} (h : Below B w W) {g : Nat} (hg : B ≤ g) (u0 u1 u2 u3 : Value) :
    Below B w ((((W.setCell ⟨g, 0, none⟩ u0).setCell ⟨g, 1, none⟩ u1).setCell ⟨g, 2, none⟩ u2).setCell ⟨g, 3, none⟩ u3) :=
  (((h.setCell hg _).setCell hg _).setCell hg _).setCell hg _

/-- Bits lie in no block that holds three numbers and a slice. -/
theorem Sl.offBlock {w : World} {ao : Option Addr} {cap g : Nat} {P : List Bool} {x y z : Int} {a : Option Addr} {n c : Nat} {t : TypeId} (s : Sl w ao cap (P.map Value.bool)) (B : Blk w g [.int .i64 x, .int .i64 y, .int .i64 z, .slice a n c] t) (hP : P ≠ []) : Off g ao := by
  obtain ⟨b, off, rfl, hb, hc⟩ := s.row.at (by simpa using hP)
  intro ad e
  cases e
  intro e
  have e : b = g := e
  subst e
  obtain ⟨p, r, rfl⟩ := List.exists_cons_of_ne_nil hP
  have h0 := hc 0 (.bool p) (by simp)
  rw [Nat.add_zero, B.cell] at h0
  match off, h0 with
  | 0, h0 => simp at h0
  | 1, h0 => simp at h0
  | 2, h0 => simp at h0
  | 3, h0 => simp at h0
  | k + 4, h0 => simp at h0

theorem Sl.put4 {w : World} {ao : Option Addr} {cap g : Nat} {P : List Bool} {x y z : Int} {a : Option Addr} {n c : Nat} {t : TypeId} (s : Sl w ao cap (P.map Value.bool)) (B : Blk w g [.int .i64 x, .int .i64 y, .int .i64 z, .slice a n c] t) (u0 u1 u2 u3 : Value) :
    Sl ((((w.setCell ⟨g, 0, none⟩ u0).setCell ⟨g, 1, none⟩ u1).setCell ⟨g, 2, none⟩ u2).setCell ⟨g, 3, none⟩ u3) ao cap (P.map Value.bool) := by
  by_cases hP : P = []
  · subst hP
    exact ⟨.inl rfl, s.le, s.max, s.nil⟩
  · exact s.off (grownSet (grownSet (grownSet (grownSet (grownRefl _ _) 0 u0) 1 u1) 2 u2) 3 u3) (s.offBlock B hP)

theorem Sl.drewS {w : World} {ao : Option Addr} {cap : Nat} {cs : List Value} (h : Sl w ao cap cs) : Sl w.drew ao cap cs := h.drewN 1

theorem SlP.drewS {w : World} {ao : Option Addr} {cap : Nat} {l : List Pt} (h : SlP w ao cap l) : SlP w.drew ao cap l := h.drewN 1

theorem SlP.first {w : World} {b off cap : Nat} {l : List Pt} (h : SlP w (some ⟨b, off, none⟩) cap l) (hl : 0 < l.length) : w.cell? ⟨b, off, none⟩ = some (.int .i64 (firstT l)) := by
  obtain ⟨x, y, e0, _, hx, _⟩ := h.pt 0 hl
  rw [Nat.zero_mul, Nat.add_zero] at e0
  rw [e0]
  simp [firstT, List.getD, hx]

theorem SlP.last {w : World} {b off cap : Nat} {l : List Pt} (h : SlP w (some ⟨b, off, none⟩) cap l) (hl : 0 < l.length) : w.cell? ⟨b, off + (l.length - 1) * 2, none⟩ = some (.int .i64 (endT l)) := by
  obtain ⟨x, y, e0, _, hx, _⟩ := h.pt (l.length - 1) (by omega)
  rw [e0]
  simp [endT, List.getD, hx]

/-- Three blocks of four cells, laid one behind the other: the second and the third. -/
theorem three (w : World) (x y z : List Value) (t : TypeId) : Blk (((w.alloc (.cells x.toArray t)).alloc (.cells y.toArray t)).alloc (.cells z.toArray t)) (w.heap.size + 1) y t ∧
    Blk (((w.alloc (.cells x.toArray t)).alloc (.cells y.toArray t)).alloc (.cells z.toArray t)) (w.heap.size + 2) z t ∧ Below w.heap.size w (((w.alloc (.cells x.toArray t)).alloc (.cells y.toArray t)).alloc (.cells z.toArray t)) :=
  ⟨(Blk.laid _ y t _ (by simp)).alc _, Blk.laid _ z t _ (by simp), below3 w _ _ _⟩

theorem ptsL_pos {b : Bk} (h : ptsE b = 0) : 0 < (ptsL b).length := by
  unfold ptsL
  rw [if_pos h]
  unfold ptsE at h
  split at h
  · split at h
    · rename_i hf
      exact (of_decide_eq_true hf : 0 < _ ∧ _).1
    · cases h
  · rename_i hn
    exact absurd h hn

theorem sizePt : (Try.prog.info? 43).map (·.size) = some 2 := by kernel_rfl

/-- A part of a slice of points, as the slice expression makes it. -/
theorem SlP.part {w : World} {ao : Option Addr} {cap : Nat} {l : List Pt} (h : SlP w ao cap l) (p q : Nat) (hpq : p ≤ q) (hq : q ≤ l.length) : SlP w (if cap = p then ao else Option.map (fun x => x.add (p * 2)) ao) (cap - p) ((l.take q).drop p) := by
  have hle := h.le
  have hlen : ((l.take q).drop p).length = q - p := by rw [List.length_drop, List.length_take]; omega
  refine ⟨?_, by rw [hlen]; omega, by have := h.max; omega, ?_⟩
  · by_cases he : p = q
    · left
      have e : (l.take q).drop p = [] := List.eq_nil_of_length_eq_zero (by rw [hlen]; omega)
      rw [e]
      rfl
    · right
      obtain ⟨b, off, rfl, hb, hc⟩ := (h.front q).row.at (fun e => by
        have h0 := cellsP_nil e
        have : (l.take q).length = 0 := by rw [h0]; rfl
        rw [List.length_take] at this
        omega)
      rw [if_neg (by omega)]
      refine ⟨b, off + p * 2, by rw [Option.map_some, Addr.add_lit], hb, fun i v hv => ?_⟩
      rw [← cellsP_drop, List.getElem?_drop] at hv
      rw [Nat.add_assoc]
      exact hc _ _ hv
  · intro e
    by_cases hc : cap = p
    · omega
    · rw [if_neg hc] at e
      have := h.nil (by simpa using e)
      omega

/-- A block of the call's own that holds a block of points, and its bits. -/
structure Held (w : World) (g : Nat) (b : Bk) (ao : Option Addr) (cap : Nat) : Prop where
  blk : Blk w g (b.cells ao cap) 60
  bits : Sl w ao cap (b.bits.map Value.bool)

theorem Held.call {w w' : World} {g : Nat} {b : Bk} {ao : Option Addr} {cap : Nat} (h : Held w g b ao cap) (hb : Below w.heap.size w w') : Held w' g b ao cap :=
  ⟨h.blk.keep hb h.blk.lt, h.bits.call hb⟩

theorem Held.alloc {w : World} {g : Nat} {b : Bk} {ao : Option Addr} {cap : Nat} (h : Held w g b ao cap) (o : Obj) : Held (w.alloc o) g b ao cap :=
  ⟨h.blk.alc o, h.bits.alloc o⟩

theorem Held.drewN {w : World} {g : Nat} {b : Bk} {ao : Option Addr} {cap : Nat} (h : Held w g b ao cap) (n : Nat) : Held (w.drewN n) g b ao cap := ⟨h.blk, h.bits.drewN n⟩

theorem Held.cells {w : World} {g : Nat} {b : Bk} {ao : Option Addr} {cap : Nat} (h : Held w g b ao cap) :
    w.cell? ⟨g, 0, none⟩ = some (.int .i64 b.n) ∧ w.cell? ⟨g, 1, none⟩ = some (.int .i64 b.fr) ∧ w.cell? ⟨g, 2, none⟩ = some (.int .i64 b.to) ∧ w.cell? ⟨g, 3, none⟩ = some (.slice ao b.bits.length cap) :=
  ⟨h.blk.cell 0, h.blk.cell 1, h.blk.cell 2, h.blk.cell 3⟩

/-- A block that was just laid, with its bits. -/
theorem Held.laid {w : World} (b : Bk) {ao : Option Addr} {cap : Nat} (s : Sl w ao cap (b.bits.map Value.bool)) : Held (w.alloc (.cells #[.int .i64 b.n, .int .i64 b.fr, .int .i64 b.to, .slice ao b.bits.length cap] 60)) w.heap.size b ao cap :=
  ⟨Blk.laid w (b.cells ao cap) _ _ rfl, s.alloc _⟩

theorem belowNew {w W : World} (h : Below w.heap.size w W) (o : Obj) : Below w.heap.size w (W.alloc o) := h.alloc h.size o

end Go.Proofs.Ytabeihkfjlmepaa

/-
  block.Make: what it answers, whatever it is handed; nothing that was there is written.
-/
namespace Go.Proofs.Ytabeihkfjlmepaa
open Go.RowKit

set_option maxHeartbeats 400000 in
set_option maxRecDepth 100000 in
theorem make_ok (ao : Option Addr) (cap : Nat) (l : List Pt) (w : World) (hr : SlP w ao cap l) (h : checkE l = 0) (hl : 0 < l.length) :
    Calls Try.prog 40 #[.slice ao l.length cap] w fun e w' =>
      ∃ a' G, e = .returned (.tuple #[.agg #[.int .i64 l.length, .int .i64 (firstT l), .int .i64 (endT l), .slice a' (packL l).length G], .int .i64 0]) ∧ Sl w' a' G ((packL l).map Value.bool) ∧ Below w.heap.size w w' := by
  have c1 := fun W h => pack_any ao cap l W h
  rw [h] at c1
  have h40 := (checkE_zero h).1
  obtain ⟨b, off, rfl, hb⟩ := hr.where (by intro e; rw [e] at hl; simp at hl)
  have s0 := fun W (h : SlP W (some ⟨b, off, none⟩) cap l) => h.first hl
  have s1 := fun W (h : SlP W (some ⟨b, off, none⟩) cap l) => h.last hl
  generalize packL l = P at *
  generalize firstT l = X at *
  generalize endT l = Y at *
  obtain ⟨n, hn⟩ : ∃ n, n + 1 = l.length := ⟨l.length - 1, by omega⟩
  rw [← hn] at c1 s1 h40 ⊢
  clear hn hl h
  go_enter Try.func40, Try.ntmps40
  go_wp2_with fail
  go_at_call 61
  refine (c1 _ (hr.alloc _)).mono ?_
  rintro e w1 ⟨a1, G1, rfl, t1, b1⟩
  have B0 := (Blk.laid w [.int .i64 0, .int .i64 0, .int .i64 0, .slice none 0 0] 60 _ rfl).keep b1 (by simp)
  have bel := belowCall ((Below.refl _ _).alloc (Nat.le_refl _) _) b1
  have hr1 := (hr.alloc _).call b1
  have e0 := s0 _ hr1
  have e1 := s1 _ hr1
  clear c1 s0 s1 b1
  simp only [Nat.add_sub_cancel] at e1
  have f0 := B0.free 0
  have f1 := B0.free 1
  have f2 := B0.free 2
  have f3 := B0.free 3
  have d0 : w1.cell? ⟨w.heap.size, 0, none⟩ = some (.int .i64 0) := B0.cell 0
  have d1 : w1.cell? ⟨w.heap.size, 1, none⟩ = some (.int .i64 0) := B0.cell 1
  have d2 : w1.cell? ⟨w.heap.size, 2, none⟩ = some (.int .i64 0) := B0.cell 2
  have d3 : w1.cell? ⟨w.heap.size, 3, none⟩ = some (.slice none 0 0) := B0.cell 3
  have hgl := B0.lt
  go_wp2_with fail
  go_region
  go_wp2_with fail
  have B4 := (B0.put4 (.int .i64 ((n : Int) + 1)) (.int .i64 X) (.int .i64 Y) (.slice a1 P.length G1)).drewS
  have bel4 := belowDrew (below4 bel (g := w.heap.size) (Nat.le_refl _) (.int .i64 ((n : Int) + 1)) (.int .i64 X) (.int .i64 Y) (.slice a1 P.length G1))
  have t4 := (t1.put4 B0 (.int .i64 ((n : Int) + 1)) (.int .i64 X) (.int .i64 Y) (.slice a1 P.length G1)).drewS
  generalize (World.setCell _ _ _).drew = w5 at *
  have i0 : w5.cell? ⟨w.heap.size, 0, none⟩ = some (.int .i64 ((n : Int) + 1)) := B4.cell 0
  have i1 : w5.cell? ⟨w.heap.size, 1, none⟩ = some (.int .i64 X) := B4.cell 1
  have i2 : w5.cell? ⟨w.heap.size, 2, none⟩ = some (.int .i64 Y) := B4.cell 2
  have i3 : w5.cell? ⟨w.heap.size, 3, none⟩ = some (.slice a1 P.length G1) := B4.cell 3
  exact bodyPost_ret (v := .tuple #[.agg #[.int .i64 ((n : Int) + 1), .int .i64 X, .int .i64 Y, .slice a1 P.length G1], .int .i64 0]) (by simp [results, Try.results40, go_sem, i0, i1, i2, i3]) rfl ⟨a1, G1, by simp, t4, bel4⟩

set_option maxHeartbeats 400000 in
set_option maxRecDepth 100000 in
theorem make_no (ao : Option Addr) (cap : Nat) (l : List Pt) (w : World) (hr : SlP w ao cap l) (h : ¬ makeE l = 0) :
    Calls Try.prog 40 #[.slice ao l.length cap] w fun e w' =>
      e = .returned (.tuple #[.agg #[.int .i64 0, .int .i64 0, .int .i64 0, .slice none 0 0], .int .i64 (makeE l)]) ∧ Below w.heap.size w w' := by
  have c1 := fun W h => pack_any ao cap l W h
  unfold makeE at h ⊢
  by_cases h0 : checkE l = 0
  · rw [h0] at c1
    rw [if_pos h0] at h ⊢
    by_cases h1 : l.length = 0
    · rw [if_pos h1, h1]
      rw [h1] at c1
      generalize packL l = P at *
      clear h h0 h1
      go_enter Try.func40, Try.ntmps40
      go_wp2_with fail
      go_at_call 61
      refine (c1 _ (hr.alloc _)).mono ?_
      rintro e w1 ⟨a1, G1, rfl, t1, b1⟩
      have B0 := (Blk.laid w [.int .i64 0, .int .i64 0, .int .i64 0, .slice none 0 0] 60 _ rfl).keep b1 (by simp)
      have bel := belowCall ((Below.refl _ _).alloc (Nat.le_refl _) _) b1
      clear c1 b1
      have f0 := B0.free 0
      have f1 := B0.free 1
      have f2 := B0.free 2
      have f3 := B0.free 3
      have d0 : w1.cell? ⟨w.heap.size, 0, none⟩ = some (.int .i64 0) := B0.cell 0
      have d1 : w1.cell? ⟨w.heap.size, 1, none⟩ = some (.int .i64 0) := B0.cell 1
      have d2 : w1.cell? ⟨w.heap.size, 2, none⟩ = some (.int .i64 0) := B0.cell 2
      have d3 : w1.cell? ⟨w.heap.size, 3, none⟩ = some (.slice none 0 0) := B0.cell 3
      have hgl := B0.lt
      go_wp2_with fail
      have B4 := B0.put4 (.int .i64 0) (.int .i64 0) (.int .i64 0) (.slice none 0 0)
      have bel4 := below4 bel (g := w.heap.size) (Nat.le_refl _) (.int .i64 0) (.int .i64 0) (.int .i64 0) (.slice none 0 0)
      generalize World.setCell _ _ _ = w5 at *
      have i0 : w5.cell? ⟨w.heap.size, 0, none⟩ = some (.int .i64 0) := B4.cell 0
      have i1 : w5.cell? ⟨w.heap.size, 1, none⟩ = some (.int .i64 0) := B4.cell 1
      have i2 : w5.cell? ⟨w.heap.size, 2, none⟩ = some (.int .i64 0) := B4.cell 2
      have i3 : w5.cell? ⟨w.heap.size, 3, none⟩ = some (.slice none 0 0) := B4.cell 3
      exact bodyPost_ret (v := .tuple #[.agg #[.int .i64 0, .int .i64 0, .int .i64 0, .slice none 0 0], .int .i64 4]) (by simp [results, Try.results40, go_sem, i0, i1, i2, i3]) rfl ⟨rfl, bel4⟩
    · rw [if_neg h1] at h
      exact absurd rfl h
  · rw [if_neg h0]
    generalize packL l = P at *
    generalize checkE l = E at *
    generalize l.length = n at *
    clear h
    go_enter Try.func40, Try.ntmps40
    go_wp2_with fail
    go_at_call 61
    refine (c1 _ (hr.alloc _)).mono ?_
    rintro e w1 ⟨a1, G1, rfl, t1, b1⟩
    have B0 := (Blk.laid w [.int .i64 0, .int .i64 0, .int .i64 0, .slice none 0 0] 60 _ rfl).keep b1 (by simp)
    have bel := belowCall ((Below.refl _ _).alloc (Nat.le_refl _) _) b1
    clear c1 b1
    have f0 := B0.free 0
    have f1 := B0.free 1
    have f2 := B0.free 2
    have f3 := B0.free 3
    have d0 : w1.cell? ⟨w.heap.size, 0, none⟩ = some (.int .i64 0) := B0.cell 0
    have d1 : w1.cell? ⟨w.heap.size, 1, none⟩ = some (.int .i64 0) := B0.cell 1
    have d2 : w1.cell? ⟨w.heap.size, 2, none⟩ = some (.int .i64 0) := B0.cell 2
    have d3 : w1.cell? ⟨w.heap.size, 3, none⟩ = some (.slice none 0 0) := B0.cell 3
    have hgl := B0.lt
    go_wp2_with fail
    have B4 := B0.put4 (.int .i64 0) (.int .i64 0) (.int .i64 0) (.slice none 0 0)
    have bel4 := below4 bel (g := w.heap.size) (Nat.le_refl _) (.int .i64 0) (.int .i64 0) (.int .i64 0) (.slice none 0 0)
    generalize World.setCell _ _ _ = w5 at *
    have i0 : w5.cell? ⟨w.heap.size, 0, none⟩ = some (.int .i64 0) := B4.cell 0
    have i1 : w5.cell? ⟨w.heap.size, 1, none⟩ = some (.int .i64 0) := B4.cell 1
    have i2 : w5.cell? ⟨w.heap.size, 2, none⟩ = some (.int .i64 0) := B4.cell 2
    have i3 : w5.cell? ⟨w.heap.size, 3, none⟩ = some (.slice none 0 0) := B4.cell 3
    exact bodyPost_ret (v := .tuple #[.agg #[.int .i64 0, .int .i64 0, .int .i64 0, .slice none 0 0], .int .i64 E]) (by simp [results, Try.results40, go_sem, i0, i1, i2, i3]) rfl ⟨rfl, bel4⟩

/-- Make, whatever it is handed. -/
theorem make_any (ao : Option Addr) (cap : Nat) (l : List Pt) (w : World) (hr : SlP w ao cap l) :
    Calls Try.prog 40 #[.slice ao l.length cap] w fun e w' =>
      ∃ a' G, e = .returned (.tuple #[bkV (makeB l) a' G, .int .i64 (makeE l)]) ∧ Sl w' a' G ((makeB l).bits.map Value.bool) ∧ Below w.heap.size w w' := by
  by_cases h : makeE l = 0
  · have hc : checkE l = 0 ∧ 0 < l.length := by
      unfold makeE at h
      by_cases h0 : checkE l = 0
      · rw [if_pos h0] at h
        refine ⟨h0, ?_⟩
        by_cases h1 : l.length = 0
        · rw [if_pos h1] at h; cases h
        · omega
      · rw [if_neg h0] at h
        exact absurd h h0
    rw [makeB_eq hc.1 hc.2, h]
    exact make_ok ao cap l w hr hc.1 hc.2
  · have e : makeB l = bk0 := if_neg h
    rw [e]
    refine (make_no ao cap l w hr h).mono ?_
    rintro e w' ⟨rfl, b⟩
    exact ⟨none, 0, rfl, Sl.ofNil _, b⟩

end Go.Proofs.Ytabeihkfjlmepaa
