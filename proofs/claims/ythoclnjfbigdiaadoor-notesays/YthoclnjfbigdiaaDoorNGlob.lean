/-
  What the package-level variables of Go's library hold that the calls read; how it stays. A builder stays one behind new memory.
-/
import Derived.Test.YthoclnjfbigdiaaDoorNLay
import Derived.Test.YthoclnjfbigdiaaDoorZigMath
import Derived.Lib.AppendIntMem
import Derived.Lib.AtoiErrMem
namespace Go.Proofs.YthoclnjfbigdiaaDoor
open Go.RowKit

structure Gl (w : World) : Prop where
  max : ∃ m, w.cell? ⟨0, 0, none⟩ = some (.int .i64 m)
  syn : ∃ te pe, w.cell? ⟨1, 0, none⟩ = some (.iface te pe)
  rng : ∃ te pe, w.cell? ⟨2, 0, none⟩ = some (.iface te pe)
  tab : Lib.TabIs Tryd.prog w "internal/strconv.uint64pow10" .u64 Lib.pow10Tab
  eight : 8 ≤ w.heap.size

theorem Gl.call {w w' : World} (h : Gl w) (hb : Below w.heap.size w w') : Gl w' := by
  obtain ⟨⟨m, h1⟩, ⟨t2, p2, h2⟩, ⟨t3, p3, h3⟩, h4, h5⟩ := h
  exact ⟨⟨m, (hb.cell (p := ⟨0, 0, none⟩) (by simp only; omega)).trans h1⟩, ⟨t2, p2, (hb.cell (p := ⟨1, 0, none⟩) (by simp only; omega)).trans h2⟩, ⟨t3, p3, (hb.cell (p := ⟨2, 0, none⟩) (by simp only; omega)).trans h3⟩, Lib.tabBelow_of_tabIs h4 w' hb, Nat.le_trans h5 hb.size⟩

theorem Gl.alloc {w : World} (h : Gl w) (o : Obj) : Gl (w.alloc o) := h.call ((Below.refl _ _).alloc (Nat.le_refl _) o)

theorem isB_call {T e : TypeId} {B b : Nat} {bs : List Value} {w w' : World} (h : Lib.IsBuilderF T e B b bs w) (hb : Below w.heap.size w w') : Lib.IsBuilderF T e B b bs w' := by
  have one : ∀ p, Lib.BuilderAtF T e B b p bs w → Lib.BuilderAtF T e B b p bs w' := by
    rintro p ⟨h1, v, h2, h3, h4⟩
    have lt2 : b < w.heap.size := lt_of_block h2
    refine ⟨h1, v, by rw [hb.block b lt2]; exact h2, ?_, h4⟩
    obtain ⟨q1, q2 | ⟨g, cap, cur, fz, q3, q4, q5, q6⟩⟩ := h3
    · exact ⟨q1, .inl q2⟩
    · exact ⟨q1, .inr ⟨g, cap, cur, fz, q3, q4, by rw [hb.block g (lt_of_block q5)]; exact q5, q6⟩⟩
  exact h.elim (fun x => .inl (one _ x)) (fun x => .inr (one _ x))

end Go.Proofs.YthoclnjfbigdiaaDoor
