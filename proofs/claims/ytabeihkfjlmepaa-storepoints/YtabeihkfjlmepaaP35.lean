/-
  How an argument that is a slice of records is opened: each with its entries.
-/
import Derived.Test.YtabeihkfjlmepaaP34
import Derived.Test.YtabeihkfjlmepaaP21
namespace Go.Proofs.Ytabeihkfjlmepaa
open Go.RowKit Go.ChangeShapes Go.WideShapes Go.ChangeAt Go.Joins

theorem four_of {α : Type} {l : List α} (h : l.length = 4) : ∃ a b c d, l = [a, b, c, d] := by
  match l, h with
  | [a, b, c, d], _ => exact ⟨a, b, c, d, rfl⟩

set_option maxRecDepth 100000 in
theorem cellsEs : Try.prog.cellsOf 25 = 1 := by kernel_rfl

set_option maxRecDepth 100000 in
theorem open_lrc {H : Type} {enc : TypeId × Value → H} {W : World} (cs : List Value) (x : DataW H × List MemPlace) (m : Nat) (hl : cs.length = 4) (h : DataW.trod enc Try.prog W 0 (fun _ => true) true m 27 cs = some x) (hw : Light 27 x.1) :
    ∃ y : Lrc, cs = y.cells ∧ SlW ec W y.a y.c y.r.e := by
  obtain ⟨c0, c1, c2, c3, rfl⟩ := four_of hl
  obtain ⟨y0, y1, y2, y3, n, rfl, _, h0, h1, h2, h3⟩ := trod_struct4 Try.underlying27 h
  simp only [cellsInt, cellsEs, List.drop_zero, List.drop_succ_cons, List.take_succ_cons, List.take_zero] at h0 h1 h2 h3
  obtain ⟨a0, e0, rfl, w0⟩ := DataW.trod_int Try.underlying3 h0
  obtain ⟨a1, e1, rfl, w1⟩ := DataW.trod_int Try.underlying3 h1
  obtain ⟨a2, e2, rfl, w2⟩ := DataW.trod_int Try.underlying3 h2
  obtain ⟨ao, k, cap, e3⟩ := slice_form Try.underlying25 h3
  simp at e0 e1 e2 e3
  subst e0 e1 e2 e3
  have hw3 : Light 25 y3.1 := by
    intro n hn
    refine hw n ?_
    simp [DataW.weights, DataW.weightsEach, Try.underlying27, hn]
  obtain ⟨l, hl, s, _, _⟩ := open_wide (ao := ao) (n := k) (cap := cap) ec (fun _ => True) Try.underlying25 (by kernel_rfl) (by decide) ec_three (fun cs x m => open_nt cs x m) (by simpa [Value.cells] using h3) hw3
  subst hl
  exact ⟨⟨⟨a0, a1, a2, l⟩, ao, cap⟩, rfl, s⟩

set_option maxRecDepth 100000 in
theorem open_recs {H : Type} {enc : TypeId × Value → H} {W : World} {ao : Option Addr} {n cap : Nat} {d : DataW H} {ps : List MemPlace}
    (h : DataW.Trod enc Try.prog W 0 (fun _ => true) true 28 (.slice ao n cap) d ps) (hw : Light 28 d) :
    ∃ l : List Lrc, l.length = n ∧ SlRec W ao cap l ∧ cap * 48 ≤ 140737488351232 := by
  obtain ⟨fuel, hf⟩ := h
  obtain ⟨l, hl, s, g, r⟩ := open_wide (ao := ao) (n := n) (cap := cap) Lrc.cells (fun y => SlW ec W y.a y.c y.r.e) Try.underlying28 cellsRec (by decide) Lrc.four (fun cs x m => open_lrc cs x m) (by simpa [Value.cells] using hf) hw
  rw [show Try.prog.bytesOf 27 = 48 by kernel_rfl] at r
  exact ⟨l, hl, ⟨s, g⟩, r⟩

end Go.Proofs.Ytabeihkfjlmepaa
