/-
  slices.Delete of one block; slices.IndexFunc and slices.DeleteFunc of blocks by the function that shelf.Drop hands them; on blocks of the call's own.
-/
import Derived.Test.YtnpikbpngohimaaP07
namespace Go.Proofs.Ytnpikbpngohimaa
open Go.RowKit

theorem zeroBlock (w : World) : (zeroValue 83).run Try.prog w = .ok (.agg #[.int .i64 0, .int .i64 0, .int .i64 0, .slice none 0 0]) w := by
  obtain ⟨i0, hi, hz0, hz1, hz2⟩ := info_parts infoCpB
  simp [zeroValue, typeInfo, hi, hz0]

theorem splice_flat (bl news : List Lb) (i : Nat) : splice (bl.flatMap Lb.cells) (i * 4) (news.flatMap Lb.cells) = (splice bl i news).flatMap Lb.cells := by
  unfold splice
  rw [flat_take Lb.four, List.flatMap_append, List.flatMap_append]
  congr 2
  rw [flat_length Lb.four, show i * 4 + news.length * 4 = (i + news.length) * 4 by omega, flat_drop Lb.four]

/-- What Delete leaves of the block ahead of its clearing. -/
theorem splice_del {α : Type} (bl : List α) (i : Nat) (h : i + 1 ≤ bl.length) : (splice bl i (bl.drop (i + 1))).take (bl.length - 1) = bl.eraseIdx i := by
  unfold splice
  rw [List.eraseIdx_eq_take_drop_succ, ← List.append_assoc, List.take_left']
  rw [List.length_append, List.length_take, List.length_drop]
  omega

theorem splice_end {α : Type} (l : List α) (p : Nat) (z : α) (h : l.length = p + 1) : splice l p [z] = l.take p ++ [z] := by
  unfold splice
  rw [List.drop_eq_nil_of_le (by simp; omega), List.append_nil]

set_option maxHeartbeats 1000000 in
set_option maxRecDepth 100000 in
theorem delete_any (bl : List Lb) (bg i p : Nat) (w : World) (B : Blk w bg (bl.flatMap Lb.cells) 83) (hi : i ≤ p) (hn : bl.length = p + 1) (few : p < 8) :
    Calls Try.prog 51 #[.slice (some ⟨bg, 0, none⟩) (p + 1) (p + 1), .int .i64 i, .int .i64 (i + 1 : Nat)] w fun e w' =>
      e = .returned (.slice (some ⟨bg, 0, none⟩) p (p + 1)) ∧ Blk w' bg ((bl.eraseIdx i ++ [lb0]).flatMap Lb.cells) 83 ∧ w.grownBy w' (some bg) := by
  obtain ⟨i0, hi0, hz0, hz1, hz2⟩ := info_parts infoCpB
  replace hn := hide hn
  have hnews : ((bl.drop (i + 1)).flatMap Lb.cells).length = (p - i) * 4 := by rw [flat_length Lb.four, List.length_drop, hn.out]; omega
  have hone : ∀ v ∈ (bl.drop (i + 1)).flatMap Lb.cells, v.oneCell' = true := by
    intro v hv
    obtain ⟨x, _, hx⟩ := List.mem_flatMap.1 hv
    simp only [Lb.cells, List.mem_cons, List.not_mem_nil, or_false] at hx
    rcases hx with rfl | rfl | rfl | rfl <;> rfl
  have BD : Blk w.drew bg (bl.flatMap Lb.cells) 83 := B
  obtain ⟨A, hA, hsrc⟩ : ∃ A : Addr, (if p = i then some (⟨bg, 0, none⟩ : Addr) else some ⟨bg, (i + 1) * 4, none⟩) = some A ∧ Hid (∀ t u, ((bl.drop (i + 1)).flatMap Lb.cells)[t]? = some u → w.drew.cell? (A.add t) = some u) := by
    by_cases h : p = i
    · refine ⟨⟨bg, 0, none⟩, by rw [if_pos h], fun t u hu => ?_⟩
      rw [List.drop_eq_nil_of_le (by rw [hn.out]; omega)] at hu
      simp at hu
    · refine ⟨⟨bg, (i + 1) * 4, none⟩, by rw [if_neg h], fun t u hu => ?_⟩
      rw [Addr.add_lit, BD.cell, ← List.getElem?_drop, flat_drop Lb.four]
      exact hu
  have hfit : i * 4 + ((bl.drop (i + 1)).flatMap Lb.cells).length ≤ (bl.flatMap Lb.cells).length := by rw [hnews, flat_length Lb.four, hn.out]; omega
  replace hnews := hide hnews
  replace hone := hide hone
  replace hfit := hide hfit
  have q1 : (i : Int) ≤ (p : Int) + 1 := by omega
  have q2 : (i : Int) + 1 ≤ (p : Int) + 1 := by omega
  have q3 : (0 : Int) ≤ (i : Int) + 1 := by omega
  have q4 : ((i : Int) + 1).toNat = i + 1 := by omega
  have q5 : ((p : Int) + 1).toNat = p + 1 := by omega
  have q6 : (0 : Int) ≤ (p : Int) + 1 := by omega
  clear B
  go_enter Try.func51, Try.ntmps51
  go_wp2_with fail
  go_region_law (refine step_append_in (by rfl) (.tmp 22) (.tmp 25) 39 (by rfl) 83 i0 4 Try.underlying39 hi0 hz1 bg i (p + 1) (by simp [Act.eval, Act.put]) (bl.flatMap Lb.cells) 83 BD A (p - i) (p - i) ((bl.drop (i + 1)).flatMap Lb.cells) (by simp [Act.eval, Act.put]) hnews.out hsrc.out hone.out (by omega) hfit.out ?_; intro w5 B5 grow5; rw [show i + (p - i) = p by omega])
  rw [splice_flat] at B5
  have hcl := fun ty => run_clear_blocks w5 39 83 ty _ Try.underlying39 zeroBlock rfl bg (p * 4) 1 1 (by decide) _ _ B5 (by rw [flat_length Lb.four]; unfold splice; simp only [List.length_append, List.length_take, List.length_drop, hn.out]; omega)
  obtain ⟨B6, grow6⟩ := Blk.setCells ((List.replicate 1 lb0).flatMap Lb.cells) (p * 4) B5 (by rw [flat_length Lb.four, flat_length Lb.four]; unfold splice; simp only [List.length_append, List.length_take, List.length_drop, List.length_replicate, hn.out]; omega)
  go_wp2_with fail
  go_ret
  refine ⟨rfl, ?_, ?_⟩
  · rw [splice_flat, show List.replicate 1 lb0 = [lb0] from rfl, splice_end _ p _ (by unfold splice; simp only [List.length_append, List.length_take, List.length_drop, hn.out]; omega)] at B6
    have e := splice_del bl i (by rw [hn.out]; omega)
    rw [hn.out, Nat.add_sub_cancel] at e
    rw [e] at B6
    exact B6
  · exact ⟨grow6.os.trans grow5.os, grow6.tape.trans grow5.tape, grow6.output.trans grow5.output, Nat.le_trans grow5.size grow6.size, fun j hj hne => (grow6.block j (Nat.lt_of_lt_of_le hj grow5.size) hne).trans (grow5.block j hj hne)⟩

end Go.Proofs.Ytnpikbpngohimaa
