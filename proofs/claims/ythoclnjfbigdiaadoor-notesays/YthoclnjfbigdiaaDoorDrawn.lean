/-
  A region that draws its order, by an invariant: whatever has come up so far, what holds then; each operation shown once, wherever it comes up.
-/
import Derived.Test.YthoclnjfbigdiaaDoorPlain
namespace Go.Proofs.YthoclnjfbigdiaaDoor
open Go.RowKit

def togo : List Bool → Nat
  | [] => 0
  | b :: r => (if b then 0 else 1) + togo r

theorem togo_set : ∀ (l : List Bool) (i : Nat), l[i]? = some false → togo (l.set i true) + 1 = togo l
  | [], i, h => by simp at h
  | b :: r, 0, h => by
    simp at h
    subst h
    simp [togo]
    omega
  | b :: r, i + 1, h => by
    have := togo_set r i (by simpa using h)
    simp only [List.set_cons_succ, togo]
    omega

theorem togo_zero : ∀ (l : List Bool) (i : Nat), togo l = 0 → l[i]? ≠ some false
  | [], i, _ => by simp
  | b :: r, 0, h => by
    cases b with
    | false => simp [togo] at h
    | true => simp
  | b :: r, i + 1, h => by
    have : togo r = 0 := by simp only [togo] at h; omega
    simpa using togo_zero r i this

/-- What has come up has behind it all that it waits for. -/
def Down (md : Region.Mode) (ops : Array Oper) (d : Nat → Bool) : Prop :=
  ∀ i o, ops[i]? = some o → d i = true → ∀ e ∈ o.after, Region.binds md e = true → d e.on = true

/-- What waits for something that has not come up has not come up. -/
theorem no {md : Region.Mode} {ops : Array Oper} {d : Nat → Bool} (h : Down md ops d) (i : Nat) (o : Oper) (ho : ops[i]? = some o) (e : Edge) (he : e ∈ o.after) (hb : Region.binds md e = true) (hd : d e.on = false) : d i = false := by
  cases hi : d i with
  | false => rfl
  | true =>
    have := h i o ho hi e he hb
    rw [hd] at this
    cases this

theorem listed_off {L : Array Bool} {i : Nat} (h : L.getD i true = false) : i < L.size ∧ L.getD i false = false ∧ L.toList[i]? = some false := by
  by_cases hi : i < L.size
  · have e : L[i] = false := by simpa [Array.getD, hi] using h
    refine ⟨hi, by simp [Array.getD, hi, e], ?_⟩
    rw [Array.getElem?_toList, Array.getElem?_eq_getElem hi, e]
  · simp [Array.getD, hi] at h

theorem listed_on {L : Array Bool} {i : Nat} (hi : i < L.size) (h : L.getD i false = false) : L.getD i true = false := by
  simpa [Array.getD, hi] using h

theorem listed_set (L : Array Bool) (i k : Nat) (hi : i < L.size) : (L.setIfInBounds i true).getD k false = (k == i || L.getD k false) := by
  by_cases hk : k = i
  · subst hk
    simp [Array.getD, hi]
  · by_cases hs : k < L.size
    · have : (L.setIfInBounds i true)[k]'(by simpa using hs) = L[k] := by rw [Array.getElem_setIfInBounds_ne (hj := hs) (h := fun e => hk e.symm)]
      simp [Array.getD, hs, hk, this]
    · simp [Array.getD, hs, hk]

theorem wpAny_inv {P : Program} {md : Region.Mode} {ops : Array Oper} {Q : Exit → Act → World → Prop} (Inv : (Nat → Bool) → Act → World → Prop)
    (hback : ∀ (i : Nat) (o : Oper), ops[i]? = some o → ∀ e ∈ o.after, e.on < i)
    (hstep : ∀ (i : Nat) (o : Oper) (d : Nat → Bool) (a : Act) (w : World), ops[i]? = some o → d i = false → (∀ e ∈ o.after, Region.binds md e = true → d e.on = true) → Down md ops d → Inv d a w →
      ∀ K : Act → World → Prop, (∀ a' w', Inv (fun k => k == i || d k) a' w' → K a' w') → if Region.wanted o (yielded ops a.tmps) = true then Oper.wp P o a w K Q else K (a.put o.dst undef) w)
    (hend : ∀ d a w, (∀ i, i < ops.size → d i = true) → Inv d a w → Q .normal a w) :
    ∀ (fuel : Nat) (L : Array Bool) (a : Act) (w : World), L.size = ops.size → togo L.toList ≤ fuel → Down md ops (fun k => L.getD k false) → Inv (fun k => L.getD k false) a w → wpAny P md ops Q fuel L a w := by
  intro fuel
  induction fuel with
  | zero =>
    intro L a w hs ht hd inv
    have all : ∀ i, i < ops.size → L.getD i false = true := by
      intro i hi
      cases e : L.getD i false with
      | true => rfl
      | false => exact absurd (listed_off (listed_on (by omega) e)).2.2 (togo_zero _ i (by omega))
    refine ⟨?_, hend _ a w all inv⟩
    cases hr : Region.ready md ops L with
    | nil => rfl
    | cons j rs =>
      obtain ⟨hu, _⟩ := mem_ready.1 (show j ∈ Region.ready md ops L by rw [hr]; exact List.mem_cons_self)
      exact absurd (listed_off hu).2.2 (togo_zero _ j (by omega))
  | succ fuel ih =>
    intro L a w hs ht hd inv
    refine ⟨fun hr => ?_, fun i hi => ?_⟩
    · refine hend _ a w ?_ inv
      intro i
      induction i using Nat.strongRecOn with
      | _ i ihi =>
        intro hi
        cases e : L.getD i false with
        | true => rfl
        | false =>
          exfalso
          have ho : ops[i]? = some ops[i] := Array.getElem?_eq_getElem hi
          have : i ∈ Region.ready md ops L := mem_ready.2 ⟨listed_on (by omega) e, _, ho, fun x hx _ => ihi x.on (hback i _ ho x hx) (by have := hback i _ ho x hx; omega)⟩
          rw [hr] at this
          cases this
    · obtain ⟨hu, o, ho, hall⟩ := mem_ready.1 hi
      obtain ⟨hlt, hoff, hget⟩ := listed_off hu
      have hfun : (fun k => (L.setIfInBounds i true).getD k false) = (fun k => k == i || L.getD k false) := funext fun k => listed_set L i k hlt
      refine wpOp_step ho (fun K hK => ?_)
      refine hstep i o (fun k => L.getD k false) a w ho hoff hall hd inv K (fun a' w' inv' => ?_)
      refine hK _ _ (ih _ a' w' (by simpa using hs) ?_ ?_ ?_)
      · have := togo_set L.toList i hget
        rw [Array.toList_setIfInBounds]
        omega
      · rw [hfun]
        intro j oj hoj hj e he hb
        by_cases hji : j = i
        · subst hji
          rw [ho] at hoj
          obtain rfl := Option.some.inj hoj
          have := hall e he hb
          simp only [this, Bool.or_true]
        · have h1 : L.getD j false = true := by
            have : (j == i) = false := by simp [hji]
            simpa [this] using hj
          have := hd j oj hoj h1 e he hb
          simp only at this
          simp only [this, Bool.or_true]
      · rw [hfun]; exact inv'

/-- Each operation waits for earlier ones alone. -/
def backB (ops : Array Oper) : Bool := (List.range ops.size).all fun i => ((ops[i]?).map fun o => o.after.all fun e => decide (e.on < i)).getD true

theorem back_of {ops : Array Oper} (h : backB ops = true) : ∀ (i : Nat) (o : Oper), ops[i]? = some o → ∀ e ∈ o.after, e.on < i := by
  intro i o ho e he
  have hi := (Array.getElem?_eq_some_iff.1 ho).1
  have := List.all_eq_true.1 h i (List.mem_range.2 hi)
  rw [ho] at this
  simp only [Option.map_some, Option.getD_some] at this
  have := (Array.all_eq_true_iff_forall_mem.1 this) e he
  simpa using this

theorem togo_new : ∀ n : Nat, togo (List.replicate n false) = n
  | 0 => rfl
  | n + 1 => by
    rw [List.replicate_succ, togo, togo_new n]
    simp
    omega

theorem wp_region_inv {P : Program} {ops : Array Oper} {Q : Exit → Act → World → Prop} {id : Nat} {a : Act} {w : World} (hm : P.follows .mixedOrders = true) (hb : backB ops = true) (Inv : (Nat → Bool) → Act → World → Prop)
    (hstep : ∀ (i : Nat) (o : Oper) (d : Nat → Bool) (a : Act) (w : World), i < ops.size → ops[i]? = some o → d i = false → (∀ e ∈ o.after, Region.binds .any e = true → d e.on = true) → Down .any ops d → Inv d a w →
      ∀ K : Act → World → Prop, (∀ a' w', Inv (fun k => k == i || d k) a' w' → K a' w') → if Region.wanted o (yielded ops a.tmps) = true then Oper.wp P o a w K Q else K (a.put o.dst undef) w)
    (hend : ∀ d a w, (∀ i, i < ops.size → d i = true) → Inv d a w → Q .normal a w) (inv0 : Inv (fun _ => false) a w.drew) : (Code.region id ops true).wp P Q a w := by
  have e : (fun k => (Array.replicate ops.size false).getD k false) = fun _ => false := funext fun k => by
    by_cases hk : k < ops.size
    · simp [Array.getD, hk]
    · simp [Array.getD, hk]
  refine wp_region_any hm (wpAny_inv Inv (back_of hb) (fun i o d a w ho => hstep i o d a w (Array.getElem?_eq_some_iff.1 ho).1 ho) hend _ _ _ _ (by simp) (by rw [Array.toList_replicate, togo_new]; exact Nat.le_refl _) ?_ (by rw [e]; exact inv0))
  intro i o _ hd
  rw [e] at hd
  cases hd

end Go.Proofs.YthoclnjfbigdiaaDoor
