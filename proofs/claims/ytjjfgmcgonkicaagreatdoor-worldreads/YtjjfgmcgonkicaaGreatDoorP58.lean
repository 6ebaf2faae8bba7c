/-
  slices.Clone at points, whatever is handed: a slice of the call's own with the same cells.
-/
import Derived.Lib.SliceRun
import Derived.Deep.DeepAppendWide
import Derived.Test.YtjjfgmcgonkicaaGreatDoorP05
import Derived.Test.YtjjfgmcgonkicaaGreatDoorP01
namespace Go.Proofs.YtjjfgmcgonkicaaGreatDoor
open Go.RowKit

theorem infoP : (Tryz.prog.info? 56).map (fun i => (i.zero, i.size, i.bytes)) = some (some (.agg #[.int .i64 0, .int .i64 0]), 2, 16) := by kernel_rfl

set_option maxHeartbeats 400000 in
set_option maxRecDepth 100000 in
theorem cloneP (ao : Option Addr) (cap : Nat) (C : List Value) (n : Nat) (w : World) (hrow : Row w ao C) (hle : n ≤ cap) (hnil : ao = none → cap = 0) (hlen : C.length = n * 2) (one : ∀ v ∈ C, v.oneCell' = true) (hl : n ≤ 1000000000000) :
    Calls Tryz.prog 128 #[.slice ao n cap] w fun e w' =>
      ∃ v', e = .returned v' ∧ w'.ownsRow w.heap.size 56 2 v' n C ∧ Below w.heap.size w w' := by
  obtain ⟨i0, hi, hz0, hz1, hz2⟩ := info_parts infoP
  have q : ∀ (w : World) (a : Option Addr) (n c n' c' : Nat), (binOp .eql 42 (.slice a n c) (.slice none n' c')).run Tryz.prog w = .ok (.bool a.isNone) w := fun w a n c n' c' => Lib.run_eql_slice_nil w _ _ a n c n' c' Tryz.underlying42
  cases ao with
  | none =>
    obtain rfl := hnil rfl
    obtain rfl : n = 0 := by omega
    obtain rfl : C = [] := List.eq_nil_of_length_eq_zero hlen
    clear hlen
    go_enter Tryz.func128, Tryz.ntmps128
    go_wp2_with fail
    go_ret
    exact ⟨_, rfl, World.ownsRow_nil _ _ _ _, Below.refl _ _⟩
  | some ad =>
    have own0 : (w.alloc (.cells #[] 56)).ownsRow w.heap.size 56 2 (.slice (some ⟨w.heap.size, 0, none⟩) 0 0) 0 [] :=
      ⟨rfl, .inr ⟨w.heap.size, 0, #[], rfl, Nat.le_refl _, heap_alloc_new w _, Nat.le_refl _, by decide, rfl, rfl⟩⟩
    have belA := (Below.refl w.heap.size w).alloc (Nat.le_refl _) (Obj.cells #[] 56)
    have hs := hrow.alloc (.cells #[] 56)
    have hsrc : ∀ j u, C[j]? = some u → (w.alloc (.cells #[] 56)).cell? (ad.add j) = some u := by
      intro j u hu
      obtain ⟨b', off', e, _, hc⟩ := hs.at (by intro e; rw [e] at hu; simp at hu)
      obtain rfl := Option.some.inj e
      rw [Addr.add_lit]
      exact hc j u hu
    have bA : w.heap.size ≤ (w.alloc (.cells #[] 56)).heap.size := by simp
    replace hlen := hide hlen
    clear hrow hs hnil
    go_enter Tryz.func128, Tryz.ntmps128
    go_wp2_with (at_builtin; refine wpList_append_own_wide _ rfl (.tmp 5) (.tmp 6) 42 rfl w.heap.size 56 i0 (.agg #[.int .i64 0, .int .i64 0]) 2 16 Tryz.underlying42 hi hz0 hz1 hz2 rfl (by decide) _ 0 _ rfl own0 ad n cap C rfl hlen.out hsrc one (by unfold maxLen; omega) (by omega) bA ?_)
    intro v' w1 own1 grow1 _
    have bel1 := belowGrown belA own0 grow1 (Nat.le_refl _) bA
    obtain ⟨a1, c1, rfl⟩ : ∃ a1 c1, v' = .slice a1 n c1 := by
      rcases own1.2 with ⟨rfl, h0⟩ | ⟨g, cp, cur, rfl, _⟩
      · subst h0
        exact ⟨_, _, rfl⟩
      · exact ⟨_, _, rfl⟩
    go_wp2_with fail
    go_ret
    exact ⟨_, rfl, own1, bel1⟩

end Go.Proofs.YtjjfgmcgonkicaaGreatDoor
