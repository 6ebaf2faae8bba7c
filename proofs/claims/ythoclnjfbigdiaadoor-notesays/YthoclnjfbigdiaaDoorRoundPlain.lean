/-
  A region of plain operations inside a round of a loop over an iterator, by its plain walk: such operations make no call. No function of the program is named.
-/
import Derived.Test.YthoclnjfbigdiaaDoorDrawn
import Derived.OrdersIn
import Derived.TacticsIn
import Derived.RangeFuncSeq
namespace Go.Proofs.YthoclnjfbigdiaaDoor
open Go.RowKit

/-- No call comes of it. -/
def NoCall : Result Next → Prop
  | .ok (.value _) _ => True
  | .ok .skip _ => True
  | .halt _ _ => True
  | _ => False

theorem noCall_v (P : Program) (w : World) (s : Sem Value) : NoCall (Sem.run P (do pure (Next.value (← s))) w) := by
  simp only [Sem.run_bind]
  cases h : Sem.run P s w with
  | ok v w' => simp [Result.andThen, NoCall]
  | halt e w' => simp [Result.andThen, NoCall]

theorem noCall_u (P : Program) (w : World) (s : Sem Unit) : NoCall (Sem.run P (do s; pure Next.skip) w) := by
  simp only [Sem.run_bind]
  cases h : Sem.run P s w with
  | ok v w' => simp [Result.andThen, NoCall]
  | halt e w' => simp [Result.andThen, NoCall]

/-- Operations that make no call. -/
def mild : Op → Bool
  | .move _ | .assign _ | .build _ _ | .buildSlice _ _ _ | .load _ _ | .store _ _ _ | .indexAddr _ _ _ | .fieldAddr _ _ _ => true
  | .call c => match c.callee with
    | .builtin .append => true
    | .builtin .len => true
    | _ => false
  | _ => false

theorem mild_noCall (P : Program) (w : World) (ρ : Operand → Value) (o : Oper) (h : mild o.op = true) : NoCall (Sem.run P (execOp ρ o) w) := by
  unfold execOp
  cases ho : o.op <;> rw [ho] at h <;> first | (cases h; done) | skip
  all_goals first
    | trivial
    | exact noCall_v _ _ _
    | exact noCall_u _ _ _
    | skip
  rename_i c
  obtain ⟨callee, args, at'⟩ := c
  cases callee with
  | builtin b =>
    cases b <;> first | (cases h; done) | skip
    · exact noCall_v _ _ _
    · exact noCall_v _ _ _
  | invoke _ _ => cases h
  | value _ => cases h

theorem upon_in {P : Program} {F : Fence} {n : Nat} {o : Oper} {a : Act} {K : Act → World → Prop} {Q : Exit → Act → World → Prop} : ∀ r : Result Next, NoCall r → Oper.upon P o a K Q r → Oper.uponIn F n P o a K Q r
  | .ok (.value _) _, _, h => h
  | .ok .skip _, _, h => h
  | .halt (.panic _) _, _, h => h
  | .halt _ _, _, h => by revert h; unfold Oper.upon Oper.uponIn; split <;> simp_all

theorem mild_about (P : Program) (w : World) (ρ : Operand → Value) (o : Oper) (h : mild o.op = true) : o.about P w ρ = none := by
  unfold Oper.about
  cases ho : o.op <;> rw [ho] at h <;> first | rfl | (cases h; done) | skip
  rename_i c
  obtain ⟨callee, args, at'⟩ := c
  cases callee with
  | builtin b => simp [resolve, Target.leads]
  | invoke _ _ => cases h
  | value _ => cases h

theorem wpIn_mild {P : Program} {F : Fence} {n l : Nat} {o : Oper} {a : Act} {w : World} {K : Act → World → Prop} {Q : Exit → Act → World → Prop} (h : mild o.op = true) (hw : Oper.wp P o a w K Q) : Oper.wpIn (F.inRound l) n P o a w K Q := by
  refine ⟨fun f hf => ?_, ?_⟩
  · rw [mild_about P w a.eval o h] at hf
    cases hf
  · show Oper.uponIn _ _ _ _ _ _ _ (Sem.run P (Oper.semAt (some l) a.eval o) w)
    rw [Oper.semAt_some l a.eval o (fun c hc => by rw [hc] at h; cases h)]
    exact upon_in _ (mild_noCall P w a.eval o h) hw

theorem wpAnyIn_inv {P : Program} {F : Fence} {n l : Nat} {md : Region.Mode} {ops : Array Oper} {Q : Exit → Act → World → Prop} (Inv : (Nat → Bool) → Act → World → Prop) (hmild : ∀ (i : Nat) (o : Oper), ops[i]? = some o → mild o.op = true)
    (hback : ∀ (i : Nat) (o : Oper), ops[i]? = some o → ∀ e ∈ o.after, e.on < i)
    (hstep : ∀ (i : Nat) (o : Oper) (d : Nat → Bool) (a : Act) (w : World), ops[i]? = some o → d i = false → (∀ e ∈ o.after, Region.binds md e = true → d e.on = true) → Down md ops d → Inv d a w →
      ∀ K : Act → World → Prop, (∀ a' w', Inv (fun k => k == i || d k) a' w' → K a' w') → if Region.wanted o (yielded ops a.tmps) = true then Oper.wp P o a w K Q else K (a.put o.dst undef) w)
    (hend : ∀ d a w, (∀ i, i < ops.size → d i = true) → Inv d a w → Q .normal a w) :
    ∀ (fuel : Nat) (L : Array Bool) (a : Act) (w : World), L.size = ops.size → togo L.toList ≤ fuel → Down md ops (fun k => L.getD k false) → Inv (fun k => L.getD k false) a w → wpAnyIn (F.inRound l) n P md ops Q fuel L a w := by
  intro fuel
  induction fuel with
  | zero =>
    intro L a w hs ht hd inv
    have all : ∀ i, i < ops.size → L.getD i false = true := by
      intro i hi
      cases e : L.getD i false with
      | true => rfl
      | false => exact absurd (listed_off (listed_on (by omega) e)).2.2 (togo_zero _ i (by omega))
    refine ⟨?_, hend _ a w all inv⟩
    cases hr : Region.ready md ops L with
    | nil => rfl
    | cons j rs =>
      obtain ⟨hu, _⟩ := mem_ready.1 (show j ∈ Region.ready md ops L by rw [hr]; exact List.mem_cons_self)
      exact absurd (listed_off hu).2.2 (togo_zero _ j (by omega))
  | succ fuel ih =>
    intro L a w hs ht hd inv
    refine ⟨fun hr => ?_, fun i hi => ?_⟩
    · refine hend _ a w ?_ inv
      intro i
      induction i using Nat.strongRecOn with
      | _ i ihi =>
        intro hi
        cases e : L.getD i false with
        | true => rfl
        | false =>
          exfalso
          have ho : ops[i]? = some ops[i] := Array.getElem?_eq_getElem hi
          have : i ∈ Region.ready md ops L := mem_ready.2 ⟨listed_on (by omega) e, _, ho, fun x hx _ => ihi x.on (hback i _ ho x hx) (by have := hback i _ ho x hx; omega)⟩
          rw [hr] at this
          cases this
    · obtain ⟨hu, o, ho, hall⟩ := mem_ready.1 hi
      obtain ⟨hlt, hoff, hget⟩ := listed_off hu
      have hfun : (fun k => (L.setIfInBounds i true).getD k false) = (fun k => k == i || L.getD k false) := funext fun k => listed_set L i k hlt
      refine wpOpIn_step ho (fun K hK => ?_)
      have hmo := hmild i o ho
      have st := hstep i o (fun k => L.getD k false) a w ho hoff hall hd inv K (fun a' w' inv' => ?_)
      · by_cases hw : Region.wanted o (yielded ops a.tmps) = true
        · rw [if_pos hw] at st ⊢
          exact wpIn_mild hmo st
        · rw [if_neg hw] at st ⊢
          exact ⟨fun f hf => (by rw [mild_about P w a.eval o hmo] at hf; cases hf), st⟩
      refine hK _ _ (ih _ a' w' (by simpa using hs) ?_ ?_ ?_)
      · have := togo_set L.toList i hget
        rw [Array.toList_setIfInBounds]
        omega
      · rw [hfun]
        intro j oj hoj hj e he hb
        by_cases hji : j = i
        · subst hji
          rw [ho] at hoj
          obtain rfl := Option.some.inj hoj
          have := hall e he hb
          simp only [this, Bool.or_true]
        · have h1 : L.getD j false = true := by
            have : (j == i) = false := by simp [hji]
            simpa [this] using hj
          have := hd j oj hoj h1 e he hb
          simp only at this
          simp only [this, Bool.or_true]
      · rw [hfun]; exact inv'

theorem wpIn_region_inv {P : Program} {F : Fence} {n l : Nat} {ops : Array Oper} {Q : Exit → Act → World → Prop} {id : Nat} {a : Act} {w : World} (hm : P.follows .mixedOrders = true) (hb : backB ops = true) (hmild : ∀ (i : Nat) (o : Oper), ops[i]? = some o → mild o.op = true) (Inv : (Nat → Bool) → Act → World → Prop)
    (hstep : ∀ (i : Nat) (o : Oper) (d : Nat → Bool) (a : Act) (w : World), i < ops.size → ops[i]? = some o → d i = false → (∀ e ∈ o.after, Region.binds .any e = true → d e.on = true) → Down .any ops d → Inv d a w →
      ∀ K : Act → World → Prop, (∀ a' w', Inv (fun k => k == i || d k) a' w' → K a' w') → if Region.wanted o (yielded ops a.tmps) = true then Oper.wp P o a w K Q else K (a.put o.dst undef) w)
    (hend : ∀ d a w, (∀ i, i < ops.size → d i = true) → Inv d a w → Q .normal a w) (inv0 : Inv (fun _ => false) a w.drew) : (Code.region id ops true).wpIn (F.inRound l) n P Q a w := by
  have e : (fun k => (Array.replicate ops.size false).getD k false) = fun _ => false := funext fun k => by
    by_cases hk : k < ops.size
    · simp [Array.getD, hk]
    · simp [Array.getD, hk]
  refine wpIn_region_any hm (wpAnyIn_inv Inv hmild (back_of hb) (fun i o d a w ho => hstep i o d a w (Array.getElem?_eq_some_iff.1 ho).1 ho) hend _ _ _ _ (by simp) (by rw [Array.toList_replicate, togo_new]; exact Nat.le_refl _) ?_ (by rw [e]; exact inv0))
  intro i o _ hd
  rw [e] at hd
  cases hd

/-- All of a region's operations are plain. -/
def mildB (ops : Array Oper) : Bool := ops.all fun o => mild o.op

theorem mild_of {ops : Array Oper} (h : mildB ops = true) (i : Nat) (o : Oper) (ho : ops[i]? = some o) : mild o.op = true := by
  obtain ⟨hi, rfl⟩ := Array.getElem?_eq_some_iff.1 ho
  exact (Array.all_eq_true_iff_forall_mem.1 h) _ (Array.getElem_mem hi)

end Go.Proofs.YthoclnjfbigdiaaDoor
