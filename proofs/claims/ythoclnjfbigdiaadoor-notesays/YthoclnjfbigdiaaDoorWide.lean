/-
  Slices whose elements are more than one cell wide: what it means that a slice holds a list of such elements; how that stays; its parts; how such an argument is opened.
-/
import Derived.Test.YthoclnjfbigdiaaDoorArgs
import Derived.Test.YthoclnjfbigdiaaDoorOwn
import Derived.Deep.Slices
namespace Go.Proofs.YthoclnjfbigdiaaDoor
open Go.RowKit Go.ChangeShapes Go.WideShapes Go.ChangeAt

theorem flat_length {α : Type} {f : α → List Value} {k : Nat} (hf : ∀ x, (f x).length = k) : ∀ l : List α, (l.flatMap f).length = l.length * k
  | [] => by simp
  | x :: r => by
    rw [List.flatMap_cons, List.length_append, hf, flat_length hf r, List.length_cons, Nat.succ_mul]
    omega

theorem flat_get {α : Type} {f : α → List Value} {k : Nat} (hf : ∀ x, (f x).length = k) : ∀ (l : List α) (i j : Nat) (x : α), l[i]? = some x → j < k → (l.flatMap f)[i * k + j]? = (f x)[j]?
  | [], i, j, x, h, _ => by simp at h
  | y :: r, 0, j, x, h, hj => by
    simp at h
    subst h
    rw [Nat.zero_mul, Nat.zero_add, List.flatMap_cons, List.getElem?_append_left (by rw [hf]; exact hj)]
  | y :: r, i + 1, j, x, h, hj => by
    have ih := flat_get hf r i j x (by simpa using h) hj
    rw [List.flatMap_cons, List.getElem?_append_right (by rw [hf, Nat.succ_mul]; omega), hf, Nat.succ_mul, show i * k + k + j - k = i * k + j by omega]
    exact ih

theorem flat_take {α : Type} {f : α → List Value} {k : Nat} (hf : ∀ x, (f x).length = k) : ∀ (l : List α) (i : Nat), (l.flatMap f).take (i * k) = (l.take i).flatMap f
  | l, 0 => by simp
  | [], i + 1 => by simp
  | x :: r, i + 1 => by
    have ih := flat_take hf r i
    rw [List.flatMap_cons, List.take_succ_cons, List.flatMap_cons, ← ih, List.take_append, hf, Nat.succ_mul, List.take_of_length_le (by rw [hf]; omega), show i * k + k - k = i * k by omega]

theorem flat_drop {α : Type} {f : α → List Value} {k : Nat} (hf : ∀ x, (f x).length = k) : ∀ (l : List α) (i : Nat), (l.flatMap f).drop (i * k) = (l.drop i).flatMap f
  | l, 0 => by simp
  | [], i + 1 => by simp
  | x :: r, i + 1 => by
    have ih := flat_drop hf r i
    rw [List.flatMap_cons, List.drop_succ_cons, ← ih, List.drop_append, hf, Nat.succ_mul, List.drop_eq_nil_of_le (by rw [hf]; omega), List.nil_append, show i * k + k - k = i * k by omega]

/-- A slice whose elements are the cells that f says. -/
structure SlW {α : Type} (f : α → List Value) (w : World) (ao : Option Addr) (cap : Nat) (l : List α) : Prop where
  row : Row w ao (l.flatMap f)
  le : l.length ≤ cap
  max : cap ≤ 9223372036854775807
  nil : ao = none → cap = 0

theorem SlW.keep {α : Type} {f : α → List Value} {w w' : World} {ao : Option Addr} {cap : Nat} {l : List α} {B : Nat} (h : SlW f w ao cap l) (hb : Below B w w') (hB : w.heap.size ≤ B) : SlW f w' ao cap l :=
  ⟨h.row.keep hb hB, h.le, h.max, h.nil⟩

theorem SlW.call {α : Type} {f : α → List Value} {w w' : World} {ao : Option Addr} {cap : Nat} {l : List α} (h : SlW f w ao cap l) (hb : Below w.heap.size w w') : SlW f w' ao cap l := h.keep hb (Nat.le_refl _)

theorem SlW.alloc {α : Type} {f : α → List Value} {w : World} {ao : Option Addr} {cap : Nat} {l : List α} (h : SlW f w ao cap l) (o : Obj) : SlW f (w.alloc o) ao cap l :=
  ⟨h.row.alloc o, h.le, h.max, h.nil⟩

theorem SlW.drewN {α : Type} {f : α → List Value} {w : World} {ao : Option Addr} {cap : Nat} {l : List α} (h : SlW f w ao cap l) (n : Nat) : SlW f (w.drewN n) ao cap l := ⟨h.row.drewN n, h.le, h.max, h.nil⟩

theorem SlW.ofNil {α : Type} (f : α → List Value) (w : World) : SlW f w none 0 [] := ⟨.inl rfl, Nat.le_refl _, by decide, fun _ => rfl⟩

theorem flat_ne {α : Type} {f : α → List Value} {k : Nat} (hf : ∀ x, (f x).length = k) (hk : 0 < k) {l : List α} (h : l ≠ []) : l.flatMap f ≠ [] := by
  intro e
  have h1 := flat_length hf l
  rw [e] at h1
  have h2 : 0 < l.length := List.length_pos_iff.2 h
  have := Nat.mul_pos h2 hk
  rw [← h1] at this
  exact Nat.lt_irrefl _ this

theorem SlW.where {α : Type} {f : α → List Value} {k : Nat} (hf : ∀ x, (f x).length = k) (hk : 0 < k) {w : World} {ao : Option Addr} {cap : Nat} {l : List α} (h : SlW f w ao cap l) (hne : l ≠ []) : ∃ b off, ao = some ⟨b, off, none⟩ ∧ b < w.heap.size := by
  obtain ⟨b, off, e, hb, _⟩ := h.row.at (flat_ne hf hk hne)
  exact ⟨b, off, e, hb⟩

/-- One cell of one element. -/
theorem SlW.cell {α : Type} {f : α → List Value} {k : Nat} (hf : ∀ x, (f x).length = k) {w : World} {b off cap : Nat} {l : List α} (h : SlW f w (some ⟨b, off, none⟩) cap l) (i j : Nat) (x : α) (v : Value) (hx : l[i]? = some x) (hj : (f x)[j]? = some v) :
    w.cell? ⟨b, off + i * k + j, none⟩ = some v := by
  have hjk : j < k := by rw [← hf x]; exact (List.getElem?_eq_some_iff.1 hj).1
  have hg := flat_get hf l i j x hx hjk
  rw [hj] at hg
  obtain ⟨b', off', e, _, hc⟩ := h.row.at (by intro e; rw [e] at hg; simp at hg)
  simp only [Option.some.injEq, Addr.mk.injEq, and_true] at e
  obtain ⟨rfl, rfl⟩ := e
  rw [Nat.add_assoc]
  exact hc _ _ hg

theorem SlW.front {α : Type} {f : α → List Value} {k : Nat} (hf : ∀ x, (f x).length = k) {w : World} {ao : Option Addr} {cap : Nat} {l : List α} (h : SlW f w ao cap l) (i : Nat) : SlW f w ao cap (l.take i) := by
  refine ⟨?_, by have := h.le; rw [List.length_take]; omega, h.max, h.nil⟩
  rcases h.row with h0 | ⟨b, off, e, hb, hc⟩
  · left; rw [← flat_take hf, h0]; simp
  · right
    refine ⟨b, off, e, hb, fun m v hv => hc m v ?_⟩
    rw [← flat_take hf, List.getElem?_take] at hv
    split at hv
    · exact hv
    · cases hv

/-- A part of a slice, as the slice expression makes it. -/
theorem SlW.part {α : Type} {f : α → List Value} {k : Nat} (hf : ∀ x, (f x).length = k) {w : World} {ao : Option Addr} {cap : Nat} {l : List α} (h : SlW f w ao cap l) (p q : Nat) (hpq : p ≤ q) (hq : q ≤ l.length) : SlW f w (if cap = p then ao else Option.map (fun x => x.add (p * k)) ao) (cap - p) ((l.take q).drop p) := by
  have hle := h.le
  have hlen : ((l.take q).drop p).length = q - p := by rw [List.length_drop, List.length_take]; omega
  refine ⟨?_, by rw [hlen]; omega, by have := h.max; omega, ?_⟩
  · rcases (h.front hf q).row with h0 | ⟨b, off, rfl, hb, hc⟩
    · left
      rw [← flat_drop hf, h0]
      simp
    · by_cases he : p = q
      · left
        have e : (l.take q).drop p = [] := List.eq_nil_of_length_eq_zero (by rw [hlen]; omega)
        rw [e]
        rfl
      · right
        rw [if_neg (by omega)]
        refine ⟨b, off + p * k, by rw [Option.map_some, Addr.add_lit], hb, fun i v hv => ?_⟩
        rw [← flat_drop hf, List.getElem?_drop] at hv
        rw [Nat.add_assoc]
        exact hc _ _ hv
  · intro e
    by_cases hc : cap = p
    · omega
    · rw [if_neg hc] at e
      have := h.nil (by simpa using e)
      omega

theorem SlW.src {α : Type} {f : α → List Value} {w : World} {ao : Option Addr} {cap : Nat} {l : List α} (h : SlW f w ao cap l) : ∀ ad, ao = some ad → ∀ j u, (l.flatMap f)[j]? = some u → w.cell? (ad.add j) = some u := by
  intro ad had j u hu
  obtain ⟨b, off, e, _, hc⟩ := h.row.at (by intro e; rw [e] at hu; simp at hu)
  rw [e] at had
  obtain rfl := Option.some.inj had
  rw [Addr.add_lit]
  exact hc j u hu

theorem SlW.ofOwn {α : Type} {f : α → List Value} {k : Nat} (hf : ∀ x, (f x).length = k) (hk : 0 < k) {w : World} {base : Nat} {e : TypeId} {n : Nat} {v : Value} {l : List α} (h : w.ownsRow base e k v n (l.flatMap f)) : ∃ ao cap, v = .slice ao n cap ∧ SlW f w ao cap l ∧ l.length = n ∧ ∀ g, g < base → Off g ao := by
  have hl : l.length = n := by have := h.1; rw [flat_length hf] at this; exact Nat.eq_of_mul_eq_mul_right hk this
  rcases h.2 with ⟨rfl, rfl⟩ | ⟨g, cap, cur, rfl, hbg, hh, hnc, hcm, hcs, htk⟩
  · obtain rfl := List.eq_nil_of_length_eq_zero hl
    exact ⟨none, 0, rfl, SlW.ofNil f w, rfl, fun _ _ => Off.nil _⟩
  · refine ⟨_, _, rfl, ⟨.inr ⟨g, 0, rfl, (Array.getElem?_eq_some_iff.1 hh).1, fun i u hu => ?_⟩, by omega, by unfold maxLen at hcm; exact hcm, fun e => by cases e⟩, hl, fun g' hg' ad e => by cases e; show g ≠ g'; omega⟩
    rw [Nat.zero_add, h.cellAt i (by have := (List.getElem?_eq_some_iff.1 hu).1; rw [flat_length hf, hl] at this; exact this)]
    exact hu

/-- Every slice that a value leads to is within reach. -/
def Light {H : Type} (t : TypeId) (d : DataW H) : Prop := ∀ n ∈ d.weights Tryd.prog t, n ≤ 140737488351232

theorem weights_mem_all {H : Type} {e : TypeId} {d : DataW H} : ∀ {l : List (DataW H)}, d ∈ l → ∀ n ∈ d.weights Tryd.prog e, n ∈ DataW.weightsAll Tryd.prog e l
  | [], h, _, _ => by simp at h
  | x :: r, h, n, hn => by
    simp only [DataW.weightsAll, List.mem_append]
    rcases List.mem_cons.1 h with rfl | h
    · exact .inl hn
    · exact .inr (weights_mem_all h n hn)

/-- An argument that is a slice of wide elements: each element by its own reading. -/
theorem open_wide {H : Type} {enc : TypeId × Value → H} {W : World} {t e : TypeId} {k : Nat} {α : Type} (f : α → List Value) (Q : α → Prop) {ao : Option Addr} {n cap fuel : Nat} {d : DataW H} {ps : List MemPlace}
    (ht : Tryd.prog.underlying t = some (.slice e)) (ce : Tryd.prog.cellsOf e = k) (hk : 0 < k) (hf : ∀ x, (f x).length = k)
    (each : ∀ cs x m, cs.length = k → DataW.trod enc Tryd.prog W 0 (fun _ => true) true m e cs = some x → Light e x.1 → ∃ y : α, cs = f y ∧ Q y)
    (h : DataW.trod enc Tryd.prog W 0 (fun _ => true) true fuel t [.slice ao n cap] = some (d, ps)) (hw : Light t d) :
    ∃ l : List α, l.length = n ∧ SlW f W ao cap l ∧ (∀ y ∈ l, Q y) ∧ cap * Tryd.prog.bytesOf e ≤ 140737488351232 := by
  rcases Go.Deep.open_slice ht h with ⟨hcs, _⟩ | ⟨a, len, cp, m, fu, D, Pl, hcs, _, hl, hm, hmm, hx, hel⟩
  · simp at hcs
    obtain ⟨rfl, rfl, rfl⟩ := hcs
    exact ⟨[], rfl, SlW.ofNil f W, fun y hy => by simp at hy, by simp⟩
  · simp at hcs
    obtain ⟨rfl, rfl, rfl⟩ := hcs
    simp only [if_true] at hmm
    subst hmm
    simp only [Prod.mk.injEq] at hx
    have hcap : m * Tryd.prog.bytesOf e ≤ 140737488351232 := by
      have := hw ((((List.range n).map D).length + ((List.range (m - n)).map fun j => D (n + j)).length) * Tryd.prog.bytesOf e) (by rw [hx.1]; simp only [DataW.weights, ht]; exact List.mem_cons_self ..)
      rw [List.length_map, List.length_map, List.length_range, List.length_range, show n + (m - n) = m by omega] at this
      exact this
    have key : ∀ i, i < n → ∃ y : α, (∀ j v, (f y)[j]? = some v → W.cell? ((a.add (i * k)).add j) = some v) ∧ Q y := by
      intro i hi
      obtain ⟨cs, h1, h2⟩ := hel i (by omega)
      rw [ce] at h1
      obtain ⟨_, hlen, hcell⟩ := World.cells?_some h1
      obtain ⟨y, rfl, hq⟩ := each cs _ _ hlen h2 (by
        intro z hz
        refine hw z ?_
        rw [hx.1]
        simp only [DataW.weights, ht]
        exact List.mem_cons_of_mem _ (List.mem_append_left _ (weights_mem_all (List.mem_map.2 ⟨i, List.mem_range.2 hi, rfl⟩) z hz)))
      refine ⟨y, fun j v hv => ?_, hq⟩
      have hj : j < k := by rw [← hf y]; exact (List.getElem?_eq_some_iff.1 hv).1
      rw [hcell j hj, hv]
    obtain ⟨Y, hY⟩ : ∃ Y : Fin n → α, ∀ i : Fin n, (∀ j v, (f (Y i))[j]? = some v → W.cell? ((a.add (i.val * k)).add j) = some v) ∧ Q (Y i) :=
      ⟨fun i => (key i.val i.isLt).choose, fun i => (key i.val i.isLt).choose_spec⟩
    have hlen : (List.ofFn Y).length = n := by simp
    refine ⟨List.ofFn Y, hlen, ⟨?_, by rw [hlen]; exact hl, by unfold maxLen at hm; exact hm, fun e => by cases e⟩, ?_, hcap⟩
    · by_cases h0 : n = 0
      · left
        have : (List.ofFn Y) = [] := List.eq_nil_of_length_eq_zero (by rw [hlen, h0])
        rw [this]
        rfl
      · obtain ⟨b, off, spot⟩ := a
        have c0 := (hY ⟨0, by omega⟩).1 0 ((f (Y ⟨0, by omega⟩))[0]'(by rw [hf]; exact hk)) (by simp)
        simp only [Nat.zero_mul] at c0
        have hspot : spot = none := by simpa [Addr.add] using World.cell?_spot c0
        subst hspot
        rw [Addr.add_lit, Addr.add_lit] at c0
        have hlt := lt_of_cell c0
        refine .inr ⟨b, off, rfl, hlt, fun i v hv => ?_⟩
        have hi : i < n * k := by have := (List.getElem?_eq_some_iff.1 hv).1; rw [flat_length hf, hlen] at this; exact this
        have hq : i / k < n := (Nat.div_lt_iff_lt_mul hk).2 hi
        have hr : i % k < k := Nat.mod_lt _ hk
        have hg := flat_get hf (List.ofFn Y) (i / k) (i % k) (Y ⟨i / k, hq⟩) (by simp [hq]) hr
        have hdm : i / k * k + i % k = i := by rw [Nat.mul_comm]; exact Nat.div_add_mod i k
        rw [hdm, hv] at hg
        have := (hY ⟨i / k, hq⟩).1 (i % k) v hg.symm
        rw [Addr.add_lit, Addr.add_lit, Nat.add_assoc] at this
        simp only at this
        rw [hdm] at this
        exact this
    · intro y hy
      obtain ⟨i, hi, rfl⟩ := List.mem_iff_getElem.1 hy
      rw [List.getElem_ofFn]
      exact (hY _).2

end Go.Proofs.YthoclnjfbigdiaaDoor
