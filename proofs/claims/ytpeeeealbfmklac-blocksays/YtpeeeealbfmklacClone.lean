/-
  slices.Clone at bools: a slice of the call's own with the same values.
-/
import Derived.Test.YtpeeeealbfmklacBitsAny
import Derived.Test.YtpeeeealbfmklacOwn
import Derived.Lib.SliceRun
namespace Go.Proofs.Ytpeeeealbfmklac
open Go.RowKit

set_option maxHeartbeats 1000000 in
set_option maxRecDepth 100000 in
theorem clone_any (ao : Option Addr) (cap : Nat) (l : List Bool) (w : World) (hr : Sl w ao cap (l.map Value.bool)) (hl : l.length ≤ 140737488355328) :
    Calls Try.prog 36 #[.slice ao l.length cap] w fun e w' =>
      ∃ v', e = .returned v' ∧ w'.ownsRow w.heap.size 4 1 v' l.length (l.map Value.bool) ∧ Below w.heap.size w w' := by
  obtain ⟨i0, hi, hz0, hz1, hz2⟩ := info_parts infoBool
  have q : ∀ (w : World) (a : Option Addr) (n c n' c' : Nat), (binOp .eql 23 (.slice a n c) (.slice none n' c')).run Try.prog w = .ok (.bool a.isNone) w := fun w a n c n' c' => Lib.run_eql_slice_nil w _ _ a n c n' c' Try.underlying23
  cases ao with
  | none =>
    obtain ⟨h1, rfl⟩ := hr.src0 rfl
    obtain rfl : l = [] := by simpa using h1
    clear h1
    go_enter Try.func36, Try.ntmps36
    go_wp2_with fail
    go_ret
    exact ⟨_, rfl, ⟨rfl, .inl ⟨rfl, rfl⟩⟩, Below.refl _ _⟩
  | some ad =>
    have own0 : (w.alloc (.cells #[] 4)).ownsRow w.heap.size 4 1 (.slice (some ⟨w.heap.size, 0, none⟩) 0 0) 0 [] := by
      have hB := Blk.laid w [] 4 _ rfl
      exact ownOfBlk hB w.heap.size (Nat.le_refl _) 0 (Nat.le_refl _) (by decide)
    have belA := (Below.refl w.heap.size w).alloc (Nat.le_refl _) (Obj.cells #[] 4)
    by_cases h0 : l = []
    · subst h0
      have hs := hr.alloc (.cells #[] 4)
      have hx := hs.src
      have hy := hs.src0
      have bA : w.heap.size ≤ (w.alloc (.cells #[] 4)).heap.size := by simp
      clear hr hs
      go_enter Try.func36, Try.ntmps36
      go_wp2_with (at_builtin; refine wpList_append_fits_any _ rfl (.tmp 5) (.tmp 6) 23 rfl w.heap.size 4 i0 1 Try.underlying23 hi hz1 w.heap.size 0 0 [] rfl own0 (some ad) 0 cap [] rfl rfl hy hx (by simp) (Nat.le_refl _) ?_)
      intro w1 own1 grow1
      have bel1 := belowGrown belA own0 grow1 (Nat.le_refl _) bA
      go_wp2_with fail
      go_ret
      exact ⟨_, rfl, own1, bel1⟩
    · have hpos : 0 < l.length := List.length_pos_iff.2 h0
      have hs := hr.alloc (.cells #[] 4)
      have hsrc := hs.src ad rfl
      have one := bools_one l
      have bA : w.heap.size ≤ (w.alloc (.cells #[] 4)).heap.size := by simp
      clear hr hs h0
      go_enter Try.func36, Try.ntmps36
      go_wp2_with (at_builtin; refine wpList_append_went _ rfl (.tmp 5) (.tmp 6) 23 rfl w.heap.size 4 i0 (.bool false) 1 1 Try.underlying23 hi hz0 hz1 hz2 rfl (by decide) _ 0 _ rfl own0 ad l.length cap (l.map Value.bool) rfl (by simp) hsrc one hpos (by unfold maxLen; omega) (by omega) bA ?_)
      intro v' w1 own1 grow1 went1
      have bel1 := belowGrown belA own0 grow1 (Nat.le_refl _) bA
      obtain ⟨a1, c1, rfl, t1, n1⟩ := ownSl own1
      go_wp2_with fail
      go_ret
      exact ⟨_, rfl, own1, bel1⟩

end Go.Proofs.Ytpeeeealbfmklac
