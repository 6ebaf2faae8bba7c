/-
  How an argument that is a sum, by value, is opened and shut: four numbers.
-/
import Derived.Test.YtcbhpikcnhefbabSumMath
import Derived.Lib.SmallJoins
namespace Go.Proofs.Ytcbhpikcnhefbab
open Go.RowKit Go.ChangeShapes Go.WideShapes Go.ChangeAt Go.Joins

structure Sm.Wf (s : Sm) : Prop where
  n : (Lit.int .i64 s.n).wf = true
  lo : (Lit.int .i64 s.lo).wf = true
  hi : (Lit.int .i64 s.hi).wf = true
  tot : (Lit.int .i64 s.tot).wf = true

def smD {H : Type} (s : Sm) : DataW H := .agg [.lit (.int .i64 s.n), .lit (.int .i64 s.lo), .lit (.int .i64 s.hi), .lit (.int .i64 s.tot)]

theorem cellsSum : Try.prog.cellsOf 39 = 4 := by kernel_rfl

theorem open_sum {H : Type} {enc : TypeId × Value → H} {W : World} {r : Reach} {b0 : Nat} {v : Value} {d : DataW H} {p : List MemPlace} (hv : Value.okWide Try.prog W r b0 39 v)
    (h : DataW.Trod enc Try.prog W 0 (fun _ => true) true 39 v d p) : ∃ s : Sm, s.Wf ∧ v = smV s ∧ d = smD s ∧ p = [] := by
  obtain ⟨c0, c1, c2, c3, y0, y1, y2, y3, m, rfl, rfl, rfl, h0, h1, h2, h3⟩ := open_agg4 Try.underlying39 (by kernel_rfl) cellsSum hv h
  obtain ⟨a0, e0, rfl, w0⟩ := DataW.trod_int Try.underlying3 h0
  obtain ⟨a1, e1, rfl, w1⟩ := DataW.trod_int Try.underlying3 h1
  obtain ⟨a2, e2, rfl, w2⟩ := DataW.trod_int Try.underlying3 h2
  obtain ⟨a3, e3, rfl, w3⟩ := DataW.trod_int Try.underlying3 h3
  simp at e0 e1 e2 e3
  subst e0 e1 e2 e3
  exact ⟨⟨a0, a1, a2, a3⟩, ⟨w0, w1, w2, w3⟩, rfl, rfl, rfl⟩

theorem shut_sum {H : Type} {enc : TypeId × Value → H} {W : World} {base : Nat} {spare : Nat → Bool} {held : Bool} (s : Sm) (hw : s.Wf) : DataW.Trod enc Try.prog W base spare held 39 (smV s) (smD s) [] :=
  shut_agg4 (y0 := (.lit (.int .i64 s.n), [])) (y1 := (.lit (.int .i64 s.lo), [])) (y2 := (.lit (.int .i64 s.hi), [])) (y3 := (.lit (.int .i64 s.tot), [])) Try.underlying39 (by kernel_rfl) cellsSum
    ⟨1, trod_int_mk 0 Try.underlying3 hw.n⟩ ⟨1, trod_int_mk 0 Try.underlying3 hw.lo⟩ ⟨1, trod_int_mk 0 Try.underlying3 hw.hi⟩ ⟨1, trod_int_mk 0 Try.underlying3 hw.tot⟩

end Go.Proofs.Ytcbhpikcnhefbab
