/-
  strings.Cut at one blank, as plain lists: the first word, and the rest. No program is named.
-/
import Derived.Test.YthoclnjfbigdiaaDoorNoteSplit
import Derived.Lib.IndexMore
namespace Go.Proofs.YthoclnjfbigdiaaDoor
open Go.Lib (index cut)

theorem cut_sp (l : List UInt8) : sp l = (cut l [32]).1 :: (if (cut l [32]).2.2 = true then sp (cut l [32]).2.1 else []) := by
  unfold cut
  rcases index_blank l with ⟨h1, h2⟩ | ⟨p, q, rfl, h2, h3⟩
  · rw [h1, if_neg (by decide)]
    simp [sp_none l h2]
  · rw [h3, if_pos (by omega)]
    have hd : (p ++ 32 :: q).drop (p.length + 1) = q := by
      rw [show p.length + 1 = (p ++ [32]).length by simp, show p ++ 32 :: q = (p ++ [32]) ++ q by simp, List.drop_left]
    simp only [Int.toNat_natCast, List.length_cons, List.length_nil, Nat.zero_add, List.take_left, hd, if_true]
    exact sp_some p q h2

theorem cut_less (l : List UInt8) : (cut l [32]).1.length ≤ l.length ∧ (cut l [32]).2.1.length ≤ l.length ∧ ((cut l [32]).2.2 = true → (cut l [32]).2.1.length < l.length) := by
  unfold cut
  rcases index_blank l with ⟨h1, h2⟩ | ⟨p, q, rfl, h2, h3⟩
  · rw [h1, if_neg (by decide)]
    simp
  · rw [h3, if_pos (by omega)]
    simp only [Int.toNat_natCast, List.length_cons, List.length_nil, Nat.zero_add, List.length_take, List.length_drop, List.length_append]
    omega

end Go.Proofs.YthoclnjfbigdiaaDoor
