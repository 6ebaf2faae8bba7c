/-
  What the types of points and of rows are: zero, cells, bytes.
-/
import Derived.Lib.SliceRun
import Derived.Test.YtjjfgmcgonkicaaGreatDoorP02
import Derived.Test.YtjjfgmcgonkicaaGreatDoorP05
import Derived.Test.YtjjfgmcgonkicaaGreatDoorP01
namespace Go.Proofs.YtjjfgmcgonkicaaGreatDoor
open Go.RowKit

theorem infoPoint : (Tryz.prog.info? 56).map (fun i => (i.zero, i.size, i.bytes)) = some (some (.agg #[.int .i64 0, .int .i64 0]), 2, 16) := by kernel_rfl

theorem infoR : (Tryz.prog.info? 53).map (fun i => (i.zero, i.size, i.bytes)) = some (some (.agg #[.slice none 0 0, .slice none 0 0]), 2, 48) := by kernel_rfl

end Go.Proofs.YtjjfgmcgonkicaaGreatDoor

/-
  slices.Clone at points, of a slice that has some: a slice of the call's own with the same points.
-/
namespace Go.Proofs.YtjjfgmcgonkicaaGreatDoor
open Go.RowKit

set_option maxHeartbeats 400000 in
set_option maxRecDepth 100000 in
theorem clonePt (b off cap : Nat) (l : List Pt) (w : World) (hr : SlP w (some ⟨b, off, none⟩) cap l) (hpos : 0 < l.length) (hl : l.length ≤ 1000000000000) :
    Calls Tryz.prog 128 #[.slice (some ⟨b, off, none⟩) l.length cap] w fun e w' =>
      ∃ v', e = .returned v' ∧ w'.ownsRow w.heap.size 56 2 v' l.length (cellsP l) ∧ Below w.heap.size w w' := by
  obtain ⟨i0, hi, hz0, hz1, hz2⟩ := info_parts infoPoint
  have q : ∀ (w : World) (a : Option Addr) (n c n' c' : Nat), (binOp .eql 42 (.slice a n c) (.slice none n' c')).run Tryz.prog w = .ok (.bool a.isNone) w := fun w a n c n' c' => Lib.run_eql_slice_nil w _ _ a n c n' c' Tryz.underlying42
  have own0 : (w.alloc (.cells #[] 56)).ownsRow w.heap.size 56 2 (.slice (some ⟨w.heap.size, 0, none⟩) 0 0) 0 [] :=
    ⟨rfl, .inr ⟨w.heap.size, 0, #[], rfl, Nat.le_refl _, heap_alloc_new w _, Nat.le_refl _, by decide, rfl, rfl⟩⟩
  have belA := (Below.refl w.heap.size w).alloc (Nat.le_refl _) (Obj.cells #[] 56)
  have hs := hr.alloc (.cells #[] 56)
  have hsrc : ∀ j u, (cellsP l)[j]? = some u → (w.alloc (.cells #[] 56)).cell? ((⟨b, off, none⟩ : Addr).add j) = some u := by
    intro j u hu
    obtain ⟨b', off', e, _, hc⟩ := hs.row.at (by intro e; rw [e] at hu; simp at hu)
    simp only [Option.some.injEq, Addr.mk.injEq, and_true] at e
    obtain ⟨rfl, rfl⟩ := e
    rw [Addr.add_lit]
    exact hc j u hu
  have one := cellsP_one l
  have hlen := cellsP_length l
  have bA : w.heap.size ≤ (w.alloc (.cells #[] 56)).heap.size := by simp
  generalize cellsP l = C at *
  generalize l.length = n at *
  replace hlen := hide hlen
  clear hr hs
  go_enter Tryz.func128, Tryz.ntmps128
  go_wp2_with (at_builtin; refine wpList_append_went _ rfl (.tmp 5) (.tmp 6) 42 rfl w.heap.size 56 i0 (.agg #[.int .i64 0, .int .i64 0]) 2 16 Tryz.underlying42 hi hz0 hz1 hz2 rfl (by decide) _ 0 _ rfl own0 ⟨b, off, none⟩ n cap C rfl hlen.out hsrc one hpos (by unfold maxLen; omega) (by omega) bA ?_)
  intro v' w1 own1 grow1 went1
  have bel1 := belowGrown belA own0 grow1 (Nat.le_refl _) bA
  obtain ⟨a1, c1, rfl⟩ : ∃ a1 c1, v' = .slice a1 n c1 := by
    rcases own1.2 with ⟨rfl, rfl⟩ | ⟨g, cp, cur, rfl, _⟩
    · exact ⟨_, _, rfl⟩
    · exact ⟨_, _, rfl⟩
  go_wp2_with fail
  go_ret
  exact ⟨_, rfl, own1, bel1⟩

end Go.Proofs.YtjjfgmcgonkicaaGreatDoor
