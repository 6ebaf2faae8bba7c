/-
  How an argument that is a block, by value, is opened: three numbers and a slice of bits.
-/
import Derived.Test.YtpeeeealbfmklacBlockMath
import Derived.Lib.SmallJoins
namespace Go.Proofs.Ytpeeeealbfmklac
open Go.RowKit Go.ChangeShapes Go.WideShapes Go.ChangeAt Go.Joins

structure Bk.Wf (b : Bk) : Prop where
  n : (Lit.int .i64 b.n).wf = true
  fr : (Lit.int .i64 b.fr).wf = true
  to : (Lit.int .i64 b.to).wf = true

theorem cellsBlock : Try.prog.cellsOf 25 = 4 := by kernel_rfl

theorem open_block {H : Type} {enc : TypeId × Value → H} {W : World} {r : Reach} {b0 : Nat} {v : Value} {d : DataW H} {p : List MemPlace} (hv : Value.okWide Try.prog W r b0 25 v)
    (h : DataW.Trod enc Try.prog W 0 (fun _ => true) true 25 v d p) :
    ∃ (b : Bk) (ao : Option Addr) (cap : Nat), b.Wf ∧ v = bkV b ao cap ∧ Sl W ao cap (b.bits.map Value.bool) ∧ ((b.bits.length = 0 ∧ cap = 0) ∨ ∃ y0 y1 y2 elems spare, d = .agg [y0, y1, y2, .slice elems spare] ∧ elems.length + spare.length = cap) := by
  obtain ⟨c0, c1, c2, c3, y0, y1, y2, y3, m, rfl, rfl, rfl, h0, h1, h2, h3⟩ := open_agg4 Try.underlying25 (by kernel_rfl) cellsBlock hv h
  obtain ⟨a0, e0, rfl, w0⟩ := DataW.trod_int Try.underlying3 h0
  obtain ⟨a1, e1, rfl, w1⟩ := DataW.trod_int Try.underlying3 h1
  obtain ⟨a2, e2, rfl, w2⟩ := DataW.trod_int Try.underlying3 h2
  obtain ⟨ao, n, cap, e3⟩ := slice_form Try.underlying23 h3
  simp at e0 e1 e2 e3
  subst e0 e1 e2 e3
  obtain ⟨l, rfl, s, dd⟩ := open_bools (ao := ao) (n := n) (cap := cap) Try.underlying23 Try.underlying4 (by kernel_rfl) ⟨m, h3⟩
  refine ⟨⟨a0, a1, a2, l⟩, ao, cap, ⟨w0, w1, w2⟩, rfl, s, ?_⟩
  rcases dd with dd | ⟨el, sp, e, hc⟩
  · exact .inl dd
  · exact .inr ⟨_, _, _, el, sp, by rw [e], hc⟩

theorem reach_block {H : Type} {ts : List TypeId} {ds : List (DataW H)} {j n cap : Nat} {d : DataW H} (hsz : (DataW.weightsEach Try.prog ts ds).all (· ≤ reachBytes) = true) (ht : ts[j]? = some 25) (hd : ds[j]? = some d)
    (h : (n = 0 ∧ cap = 0) ∨ ∃ y0 y1 y2 elems spare, d = .agg [y0, y1, y2, .slice elems spare] ∧ elems.length + spare.length = cap) : cap ≤ 140737488351232 := by
  rcases h with ⟨_, rfl⟩ | ⟨y0, y1, y2, el, sp, rfl, rfl⟩
  · simp
  · have := List.all_eq_true.1 hsz _ (DataW.weights_mem_each ht hd ((el.length + sp.length) * Try.prog.bytesOf 4) (by simp [DataW.weights, DataW.weightsEach, Try.underlying25, Try.underlying23]))
    rw [show Try.prog.bytesOf 4 = 1 by kernel_rfl] at this
    simpa [reachBytes] using this

end Go.Proofs.Ytpeeeealbfmklac
