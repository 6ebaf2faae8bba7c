/-
  A call of a Go function as one step of a region that draws its order, by its contract. No function of the program is named.
-/
import Derived.Test.YthoclnjfbigdiaaDoorPlain
import Derived.Deep.RegionLaw
namespace Go.Proofs.YthoclnjfbigdiaaDoor
open Go.RowKit

theorem step_go_call {P : Program} {ops : Array Oper} {o : Oper} {a : Act} {w : World} {K : Act → World → Prop} {Q : Exit → Act → World → Prop} {E : Prop}
    (hg : o.guard = none) (f : FuncId) (s : Operand) (t : TypeId) (hop : o.op = .call { callee := .value (.func f), args := #[s], argTypes := #[t] })
    (v : Value) (hv : a.eval s = v) (hf : Sem.run P (callFunc f #[v]) w = .ok (.enter f #[v]) w) {R : Ending → World → Prop} (c : Calls P f #[v] w R) (hr : ∀ e w', R e w' → ∃ u, e = .returned u) (h : ∀ u w', R (.returned u) w' → K (a.put o.dst u) w') :
    if Region.wanted o (yielded ops a.tmps) = true then Oper.wp P o a w K Q else E := by
  have hw : Region.wanted o (yielded ops a.tmps) = true := by simp [Region.wanted, hg]
  rw [if_pos hw]
  unfold Oper.wp
  have e1 : (execOp a.eval o).run P w = .ok (.enter f #[v]) w := by
    have e0 : a.eval (.func f) = .func (.func f) #[] #[] := rfl
    simp [execOp, hop, resolve, invoke, e0, hv, Deferred.ofValue, hf]
  rw [e1, Oper.upon_enter]
  refine c.mono ?_
  intro e w' he
  obtain ⟨u, rfl⟩ := hr e w' he
  exact h u w' he

theorem step_go_call2 {P : Program} {ops : Array Oper} {o : Oper} {a : Act} {w : World} {K : Act → World → Prop} {Q : Exit → Act → World → Prop} {E : Prop}
    (hg : o.guard = none) (f : FuncId) (s s' : Operand) (t t' : TypeId) (hop : o.op = .call { callee := .value (.func f), args := #[s, s'], argTypes := #[t, t'] })
    (v v' : Value) (hv : a.eval s = v) (hv' : a.eval s' = v') (hf : Sem.run P (callFunc f #[v, v']) w = .ok (.enter f #[v, v']) w) {R : Ending → World → Prop} (c : Calls P f #[v, v'] w R) (hr : ∀ e w', R e w' → ∃ u, e = .returned u) (h : ∀ u w', R (.returned u) w' → K (a.put o.dst u) w') :
    if Region.wanted o (yielded ops a.tmps) = true then Oper.wp P o a w K Q else E := by
  have hw : Region.wanted o (yielded ops a.tmps) = true := by simp [Region.wanted, hg]
  rw [if_pos hw]
  unfold Oper.wp
  have e1 : (execOp a.eval o).run P w = .ok (.enter f #[v, v']) w := by
    have e0 : a.eval (.func f) = .func (.func f) #[] #[] := rfl
    simp [execOp, hop, resolve, invoke, e0, hv, hv', Deferred.ofValue, hf]
  rw [e1, Oper.upon_enter]
  refine c.mono ?_
  intro e w' he
  obtain ⟨u, rfl⟩ := hr e w' he
  exact h u w' he

end Go.Proofs.YthoclnjfbigdiaaDoor
