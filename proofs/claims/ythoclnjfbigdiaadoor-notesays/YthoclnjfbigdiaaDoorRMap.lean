/-
  The map literal of the reference's RecText: two words, looked up by their numbers.
-/
import Derived.Test.YthoclnjfbigdiaaDoorNCheck
import Derived.Maps.OwnSet
import Derived.Maps.Views
import Derived.Maps.StringElems
namespace Go.Proofs.YthoclnjfbigdiaaDoor
open Go.RowKit Go.Maps

theorem mapLaw : Keyed Tryd.prog 3 := int_keyed Tryd.underlying3

def sealB : ByteArray := ⟨#[115, 101, 97, 108]⟩
def mergeB : ByteArray := ⟨#[109, 101, 114, 103, 101]⟩

theorem zeroS (w : World) : (zeroValue 9).run Tryd.prog w = .ok (.string ⟨#[]⟩) w := by kernel_rfl

theorem lookS {w : World} {b n : Nat} {D : DataW Unit} (h : w.ownsMap Tryd.prog 3 (plainElem Tryd.prog 9) b n D) (k : Int) (hk : (Lit.int .i64 k).wf = true) (s : ByteArray) (hD : D.atKey (.int .i64 k) (.lit (.string [])) = .lit (.string s.data.toList)) :
    (Instr.lookup 60 (.map (some b)) (.int .i64 k) false).run Tryd.prog w = .ok (.string s) w := by
  obtain ⟨v, ps, hrun, hv⟩ := h.lookup mapLaw Tryd.underlying60 (zeroS w) (plainElem_string (s := ⟨#[]⟩) Tryd.underlying9 (by decide)) (keyOf_int_mk Tryd.underlying3 hk)
  obtain ⟨s', rfl, hz, _⟩ := plainElem_string_inv Tryd.underlying9 hv
  simp only [Prod.mk.injEq] at hz
  have e := hz.1.symm.trans hD
  simp only [DataW.lit.injEq, Lit.string.injEq] at e
  rw [hrun]
  have : s' = s := by
    cases s' with | mk d => cases s with | mk d' => simp only [ByteArray.mk.injEq]; exact Array.toList_inj.1 e
  rw [this]

theorem lit_map (w : World) : ∃ W1 W2 : World, (Instr.mapUpdate 60 (.map (some w.heap.size)) (.int .i64 2) (.string ⟨#[115, 101, 97, 108]⟩)).run Tryd.prog (w.alloc (.map #[] 0)) = .ok () W1 ∧
    (Instr.mapUpdate 60 (.map (some w.heap.size)) (.int .i64 3) (.string ⟨#[109, 101, 114, 103, 101]⟩)).run Tryd.prog W1 = .ok () W2 ∧
    (Instr.lookup 60 (.map (some w.heap.size)) (.int .i64 2) false).run Tryd.prog W2 = .ok (.string ⟨#[115, 101, 97, 108]⟩) W2 ∧
    (Instr.lookup 60 (.map (some w.heap.size)) (.int .i64 3) false).run Tryd.prog W2 = .ok (.string ⟨#[109, 101, 114, 103, 101]⟩) W2 ∧ Below w.heap.size w W2 := by
  have h0 : (w.alloc (.map #[] 0)).ownsMap Tryd.prog 3 (plainElem (H := Unit) Tryd.prog 9) w.heap.size 0 (.map []) := World.ownsMap_made _ _ _ _
  obtain ⟨W1, r1, h1, g1⟩ := h0.update mapLaw Tryd.underlying60 (by decide) (keyOf_int_mk Tryd.underlying3 (a := 2) (by decide)) (plainElem_string (s := sealB) Tryd.underlying9 (by decide))
  obtain ⟨W2, r2, h2, g2⟩ := h1.update mapLaw Tryd.underlying60 (by decide) (keyOf_int_mk Tryd.underlying3 (a := 3) (by decide)) (plainElem_string (s := mergeB) Tryd.underlying9 (by decide))
  refine ⟨W1, W2, r1, r2, lookS h2 2 (by decide) sealB ?_, lookS h2 3 (by decide) mergeB ?_, ?_⟩
  · rw [atKey_put_other (by intro h; cases h)]
    rfl
  · rfl
  · have b0 : Below w.heap.size w (w.alloc (.map #[] 0)) := (Below.refl _ _).alloc (Nat.le_refl _) _
    have b1 := b0.grown g1 b0.size (fun k hk => by cases hk; exact Nat.le_refl _)
    exact b1.grown g2 b1.size (fun k hk => by cases hk; exact Nat.le_refl _)

end Go.Proofs.YthoclnjfbigdiaaDoor
