/-
  rainbookref.MergedRow, of a shelf that is right: all cases in one.
-/
import Derived.Test.YtabeihkfjlmepaaHRefMergeS
import Derived.Test.YtabeihkfjlmepaaP30
namespace Go.Proofs.Ytabeihkfjlmepaa
open Go.RowKit

theorem blk_at {r : Lr} {j : Nat} {x : Lb} (h : r.bs[j]? = some x) : blkAt r.rw j = x.b := by
  unfold blkAt Lr.rw
  simp only
  rw [List.getD, List.getElem?_map, h]
  rfl

/-- MergedRow, of a shelf that is right. -/
theorem refMrg_any (l : List Lr) (ao : Option Addr) (cap : Nat) (s n : Int) (w : World) (hs : SlR w ao cap l) (hR : Right (l.map Lr.rw)) (hw : (Lit.int .i64 n).wf = true) :
    Calls Try.prog 52 #[.agg #[.slice ao l.length cap], .int .i64 s, .int .i64 n] w fun e w' =>
      ∃ rs a' G, e = .returned (.tuple #[.agg #[.slice a' rs.length G], .int .i64 (mrgE (l.map Lr.rw) s n)]) ∧ rs.map Lr.rw = mrgL (l.map Lr.rw) s n ∧ SlR w' a' G rs ∧ Below w.heap.size w w' := by
  have h4 : l.length = 4 := by have := hR.four; rwa [List.length_map] at this
  have no : ∀ E : Int, E ≠ 0 → mrgE (l.map Lr.rw) s n = E → ∀ (e : Ending) (w' : World), (e = .returned (.tuple #[.agg #[.slice none 0 0], .int .i64 E]) ∧ Below w.heap.size w w') →
      ∃ rs a' G, e = .returned (.tuple #[.agg #[.slice a' rs.length G], .int .i64 (mrgE (l.map Lr.rw) s n)]) ∧ rs.map Lr.rw = mrgL (l.map Lr.rw) s n ∧ SlR w' a' G rs ∧ Below w.heap.size w w' := by
    rintro E hE hS e w' ⟨rfl, hb⟩
    refine ⟨[], none, 0, by rw [hS]; rfl, ?_, SlR.ofNil _, hb⟩
    unfold mrgL
    rw [hS, if_neg hE]
    rfl
  by_cases h0 : inI s 0 3 = false
  · exact (refMrg_who _ _ _ _ _ _ h0).mono (no 5 (by decide) (by unfold mrgE; rw [if_pos h0]))
  · have hs3 : 0 ≤ s ∧ s ≤ 3 := by
      have : inI s 0 3 = true := by simpa using h0
      exact of_decide_eq_true this
    obtain ⟨k, rfl⟩ := Int.eq_ofNat_of_zero_le hs3.1
    have hk : k < 4 := by omega
    obtain ⟨r, hr⟩ : ∃ r, l[k]? = some r := ⟨_, List.getElem?_eq_getElem (by rw [h4]; exact hk)⟩
    have hg := rw_at hr
    have hf := hR.few r.rw (List.mem_map.2 ⟨r, List.mem_of_getElem? hr, rfl⟩)
    have hbl : r.rw.blocks.length = r.bs.length := by unfold Lr.rw; simp
    have hf1 : r.bs.length ≤ 8 := by rw [← hbl]; exact hf.1
    have hf2 : r.hd.length ≤ 40 := hf.2
    have hkn : ((k : Int)).toNat = k := Int.toNat_natCast k
    rw [h4]
    by_cases h1 : inI n 0 ((r.bs.length : Int) - 2) = false
    · exact (refMrg_range l ao cap k n w hs h4 hk r hr hw h1).mono (no 3 (by decide) (by unfold mrgE; rw [if_neg h0, hkn, hg, hbl, if_pos h1]))
    · have hn1 : inI n 0 ((r.bs.length : Int) - 2) = true := by simpa using h1
      have hn : 0 ≤ n ∧ n ≤ (r.bs.length : Int) - 2 := of_decide_eq_true hn1
      obtain ⟨j, rfl⟩ := Int.eq_ofNat_of_zero_le hn.1
      have hjn : ((j : Int)).toNat = j := Int.toNat_natCast j
      obtain ⟨x, hx⟩ : ∃ x, r.bs[j]? = some x := ⟨_, List.getElem?_eq_getElem (by omega)⟩
      obtain ⟨y, hy⟩ : ∃ y, r.bs[j + 1]? = some y := ⟨_, List.getElem?_eq_getElem (by omega)⟩
      have hE : mrgE (l.map Lr.rw) k j = mergeE x.b y.b := by unfold mrgE; rw [if_neg h0, hkn, hg, hbl, if_neg h1, hjn, blk_at hx, blk_at hy]
      refine (refMrg_do l ao cap k j w hs h4 hk r hr hf1 hf2 x y hx hy).mono ?_
      rintro e w' (⟨h2, rfl, hb⟩ | ⟨h2, rs, a', G, rfl, hrs, hS, hb⟩)
      · exact no _ h2 hE _ _ ⟨rfl, hb⟩
      · have hl : rs.length = 4 := by
          have := congrArg List.length hrs
          rw [List.length_map, List.length_set, List.length_map, h4] at this
          exact this
        refine ⟨rs, a', G, by rw [hE, h2, hl], ?_, hS, hb⟩
        unfold mrgL
        rw [hE, if_pos h2, hkn, hg, hjn, blk_at hx, blk_at hy, hrs]
        rfl

end Go.Proofs.Ytabeihkfjlmepaa
