/-
  The contracts of the reference's shelves over shelves as plain lists.
-/
import Derived.Test.YtgncadehaificaaP20
import Derived.Test.YtgncadehaificaaP28
import Derived.Test.YtgncadehaificaaHRefSameS
import Derived.Test.YtgncadehaificaaHRefPutS
import Derived.Test.YtgncadehaificaaP34
import Derived.Test.YtgncadehaificaaP36
import Derived.Test.YtgncadehaificaaHRefDropS
import Derived.Test.YtgncadehaificaaP07
namespace Go.Proofs.Ytgncadehaificaa
open Go.RowKit

theorem rcheck_is {C : List Rw} {a : Option Addr} {G : Nat} {W : World} (h : IsS W a G C) :
    Calls Try.prog 15 #[.agg #[.slice a C.length G]] W fun e w' => e = .returned (.int .i64 (shelfE C)) ∧ Below W.heap.size W w' := by
  obtain ⟨rs, rfl, s⟩ := h.ex
  rw [List.length_map]
  exact refShelf_any rs a G W s

theorem rsame_is {C D : List Rw} {a b : Option Addr} {G H : Nat} {W : World} (h : IsS W a G C) (k : IsS W b H D) (hl : C.length ≤ 140737488355328) :
    Calls Try.prog 19 #[.agg #[.slice a C.length G], .agg #[.slice b D.length H]] W fun e w' => e = .returned (.bool (sameSh C D)) ∧ Below W.heap.size W w' := by
  obtain ⟨rs, rfl, s⟩ := h.ex
  obtain ⟨qs, rfl, t⟩ := k.ex
  rw [List.length_map] at hl
  rw [List.length_map, List.length_map]
  exact refSameS_any rs qs a b G H W s t hl

theorem rfresh_is (W : World) :
    Calls Try.prog 21 #[] W fun e w' => ∃ a' G', e = .returned (.agg #[.slice a' 4 G']) ∧ IsS w' a' G' freshL ∧ Below W.heap.size W w' := by
  refine (refFresh_any W).mono ?_
  rintro e w' ⟨a', G', rfl, s, b⟩
  exact ⟨a', G', rfl, ⟨_, rfl, s⟩, b⟩

theorem rput_is {C : List Rw} {a : Option Addr} {G : Nat} {W : World} (L : List En) (la : Option Addr) (lc : Nat) (h : IsS W a G C) (hL : SlW En.cells W la lc L) (few : L.length ≤ 140737488355328) (hR : Right C) :
    Calls Try.prog 22 #[.agg #[.slice a C.length G], .slice la L.length lc] W (Makes (bputE C L) (bputL C L) W) := by
  obtain ⟨rs, rfl, t⟩ := h.ex
  rw [List.length_map]
  exact (refPut_any rs a G L la lc W t hL few hR).mono fun e w' h => makes_of h

theorem rseal_is {C : List Rw} {a : Option Addr} {G : Nat} {W : World} (s n : Int) (h : IsS W a G C) (hR : Right C) :
    Calls Try.prog 23 #[.agg #[.slice a C.length G], .int .i64 s, .int .i64 n] W (Makes (sealE C s n) (sealL C s n) W) := by
  obtain ⟨rs, rfl, t⟩ := h.ex
  rw [List.length_map]
  exact (refSeal_any rs a G s n W t hR).mono fun e w' h => makes_of h

theorem rmerge_is {C : List Rw} {a : Option Addr} {G : Nat} {W : World} (s n : Int) (h : IsS W a G C) (hR : Right C) (hw : (Lit.int .i64 n).wf = true) :
    Calls Try.prog 24 #[.agg #[.slice a C.length G], .int .i64 s, .int .i64 n] W (Makes (mrgE C s n) (mrgL C s n) W) := by
  obtain ⟨rs, rfl, t⟩ := h.ex
  rw [List.length_map]
  exact (refMrg_any rs a G s n W t hR hw).mono fun e w' h => makes_of h

theorem rdrop_is {C : List Rw} {a : Option Addr} {G : Nat} {W : World} (n : Int) (h : IsS W a G C) (hR : Right C) :
    Calls Try.prog 25 #[.agg #[.slice a C.length G], .int .i64 n] W (Makes (dropE n) (dropL C n) W) := by
  obtain ⟨rs, rfl, t⟩ := h.ex
  rw [List.length_map]
  exact (refDrop_any rs a G n W t hR).mono fun e w' h => makes_of h

end Go.Proofs.Ytgncadehaificaa
