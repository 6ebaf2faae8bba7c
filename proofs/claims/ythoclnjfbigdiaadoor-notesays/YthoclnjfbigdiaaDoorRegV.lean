/-
  A frame some of whose places in a row are told by a function: how operations of a region that draws its order are shown over it, one by one.
-/
import Derived.Test.YthoclnjfbigdiaaDoorNEntries
namespace Go.Proofs.YthoclnjfbigdiaaDoor
open Go.RowKit

/-- The frame A with the places lo, lo + 1, .. (n of them) told by V. -/
def pV (A : Act) (lo n : Nat) (V : Nat → Value) : Act := { tmps := A.tmps.mapIdx (fun k x => if lo ≤ k ∧ k < lo + n then V (k - lo) else x), defers := A.defers }

theorem pV_put {A : Act} {lo n : Nat} {V : Nat → Value} (i d : Nat) (hd : d = lo + i) (hi : i < n) (v : Value) : (pV A lo n V).put (some d) v = pV A lo n (putV V i v) := by
  subst hd
  unfold pV Act.put
  simp only [Act.mk.injEq, and_true]
  apply Array.ext_getElem?
  intro k
  rw [Array.getElem?_setIfInBounds, Array.getElem?_mapIdx, Array.getElem?_mapIdx, Array.size_mapIdx]
  by_cases hk : lo + i = k
  · subst hk
    rw [if_pos rfl]
    by_cases hs : lo + i < A.tmps.size
    · rw [if_pos hs, Array.getElem?_eq_getElem hs]
      simp [putV, hi]
    · rw [if_neg hs, Array.getElem?_eq_none (by omega)]
      rfl
  · rw [if_neg hk]
    congr 1
    funext x
    by_cases hr : lo ≤ k ∧ k < lo + n
    · rw [if_pos hr, if_pos hr]
      unfold putV
      rw [if_neg (by omega)]
    · rw [if_neg hr, if_neg hr]

theorem pV_in {A : Act} {lo n : Nat} {V : Nat → Value} (i d : Nat) (hd : d = lo + i) (hi : i < n) (h : lo + n ≤ A.tmps.size) : (pV A lo n V).eval (.tmp d) = V i := by
  subst hd
  show (pV A lo n V).tmps.getD (lo + i) undef = V i
  unfold pV
  have hl : lo + i < (A.tmps.mapIdx (fun k x => if lo ≤ k ∧ k < lo + n then V (k - lo) else x)).size := by simp; omega
  simp only [Array.getD, hl, dif_pos, Array.getInternal_eq_getElem, Array.getElem_mapIdx]
  rw [if_pos (by omega), Nat.add_sub_cancel_left]

theorem pV_out {A : Act} {lo n : Nat} {V : Nat → Value} (d : Nat) (hd : d < lo ∨ lo + n ≤ d) : (pV A lo n V).eval (.tmp d) = A.eval (.tmp d) := by
  show (pV A lo n V).tmps.getD d undef = A.tmps.getD d undef
  unfold pV
  by_cases hl : d < A.tmps.size
  · have hl' : d < (A.tmps.mapIdx (fun k x => if lo ≤ k ∧ k < lo + n then V (k - lo) else x)).size := by simpa using hl
    simp only [Array.getD, hl, hl', dif_pos, Array.getInternal_eq_getElem, Array.getElem_mapIdx]
    rw [if_neg (by omega)]
  · have hl' : ¬ d < (A.tmps.mapIdx (fun k x => if lo ≤ k ∧ k < lo + n then V (k - lo) else x)).size := by simpa using hl
    simp only [Array.getD, hl, hl', dif_neg, not_false_eq_true]

theorem pV_self (A : Act) (lo n : Nat) : pV A lo n (fun i => A.eval (.tmp (lo + i))) = A := by
  cases A with
  | mk t ds =>
    unfold pV
    simp only [Act.mk.injEq, and_true]
    apply Array.ext
    · simp
    · intro k h1 h2
      simp only [Array.getElem_mapIdx]
      split
      · rename_i h
        show t.getD (lo + (k - lo)) undef = t[k]
        rw [show lo + (k - lo) = k by omega]
        simp [Array.getD, h2]
      · rfl

/-- The places as so many puts. -/
def putsV (A : Act) (lo : Nat) (V : Nat → Value) : Nat → Act
  | 0 => A
  | n + 1 => (putsV A lo V n).put (some (lo + n)) (V n)

theorem putsV_eq (A : Act) (lo : Nat) (V : Nat → Value) : ∀ n, putsV A lo V n = pV A lo n V
  | 0 => by
    cases A with
    | mk t ds =>
      unfold putsV pV
      simp only [Act.mk.injEq, and_true]
      apply Array.ext_getElem?
      intro k
      rw [Array.getElem?_mapIdx]
      have : (fun x : Value => if lo ≤ k ∧ k < lo + 0 then V (k - lo) else x) = id := by
        funext x
        rw [if_neg (by omega)]
        rfl
      rw [this, Option.map_id]
      rfl
  | n + 1 => by
    rw [putsV, putsV_eq A lo V n]
    unfold pV Act.put
    simp only [Act.mk.injEq, and_true]
    apply Array.ext_getElem?
    intro k
    rw [Array.getElem?_setIfInBounds, Array.getElem?_mapIdx, Array.getElem?_mapIdx, Array.size_mapIdx]
    by_cases hk : lo + n = k
    · subst hk
      rw [if_pos rfl]
      by_cases hs : lo + n < A.tmps.size
      · rw [if_pos hs, Array.getElem?_eq_getElem hs]
        simp
      · rw [if_neg hs, Array.getElem?_eq_none (by omega)]
        rfl
    · rw [if_neg hk]
      congr 1
      funext x
      by_cases hr : lo ≤ k ∧ k < lo + n
      · rw [if_pos hr, if_pos (by omega)]
      · rw [if_neg hr, if_neg (by omega)]

theorem step_value {P : Program} {ops : Array Oper} {o : Oper} {a : Act} {w W' : World} {K : Act → World → Prop} {Q : Exit → Act → World → Prop} {E : Prop} {v : Value} {d : Nat} (hg : o.guard = none) (hd : o.dst = some d)
    (hrun : ∀ ρ, ρ = a.eval → (execOp ρ o).run P w = .ok (.value v) W') (h : K (a.put (some d) v) W') : if Region.wanted o (yielded ops a.tmps) = true then Oper.wp P o a w K Q else E := by
  have hw : Region.wanted o (yielded ops a.tmps) = true := by simp [Region.wanted, hg]
  rw [if_pos hw]
  unfold Oper.wp
  rw [hrun _ rfl, Oper.upon_value, hd]
  exact h

theorem step_skip {P : Program} {ops : Array Oper} {o : Oper} {a : Act} {w W' : World} {K : Act → World → Prop} {Q : Exit → Act → World → Prop} {E : Prop} {n : Next} (hg : o.guard = none) (hd : o.dst = none)
    (hn : n = .skip ∨ ∃ v, n = .value v) (hrun : ∀ ρ, ρ = a.eval → (execOp ρ o).run P w = .ok n W') (h : K a W') : if Region.wanted o (yielded ops a.tmps) = true then Oper.wp P o a w K Q else E := by
  have hw : Region.wanted o (yielded ops a.tmps) = true := by simp [Region.wanted, hg]
  rw [if_pos hw]
  unfold Oper.wp
  rw [hrun _ rfl]
  rcases hn with rfl | ⟨v, rfl⟩
  · rw [Oper.upon_skip, hd]
    exact h
  · rw [Oper.upon_value, hd]
    exact h

theorem named {P : Program} {c : Code} {Q : Exit → Act → World → Prop} {a : Act} {w : World} (h : ∀ A, A = a → c.wp P Q A w) : c.wp P Q a w := h a rfl

end Go.Proofs.YthoclnjfbigdiaaDoor
