/-
  The closed fact of chapter 4: three points summed, none summed, a sum joined with none.
-/
import Derived.Test.YtcbhpikcnhefbabJoin
import Derived.Test.YtcbhpikcnhefbabPts3
import Derived.Deep.RegionHeld3
import Derived.Deep.DrawnRows
namespace Go.Proofs.Ytcbhpikcnhefbab
open Go.RowKit

/-- What stays while calls go on: a block that lies there, and what lay there ahead. -/
structure Kept (w : World) (g : Nat) (cs : List Value) (W : World) : Prop where
  blk : Blk W g cs 39
  bel : Below w.heap.size w W

theorem Kept.call {w W w' : World} {g : Nat} {cs : List Value} (h : Kept w g cs W) (hb : Below W.heap.size W w') : Kept w g cs w' := ⟨h.blk.keep hb h.blk.lt, belowCall h.bel hb⟩

def s3 : List Value := [.int .i64 3, .int .i64 5, .int .i64 7, .int .i64 17]

theorem of3 (a : Option Addr) (c : Nat) (W : World) (h : SlP W a c pts3) :
    Calls Try.prog 16 #[.slice a 3 c] W fun e w' => e = .returned (.agg #[.int .i64 3, .int .i64 5, .int .i64 7, .int .i64 17]) ∧ Below W.heap.size W w' := by
  have p := of_any a c pts3 W h
  rw [show smV (sumS pts3) = .agg #[.int .i64 3, .int .i64 5, .int .i64 7, .int .i64 17] by kernel_rfl] at p
  exact p

theorem of0 (w : World) (g : Nat) (W : World) (h : Kept w g s3 W) :
    Calls Try.prog 16 #[.slice none 0 0] W fun e w' => e = .returned (.agg #[.int .i64 0, .int .i64 0, .int .i64 0, .int .i64 0]) ∧
      w'.cell? ⟨g, 0, none⟩ = some (.int .i64 3) ∧ w'.cell? ⟨g, 1, none⟩ = some (.int .i64 5) ∧ w'.cell? ⟨g, 2, none⟩ = some (.int .i64 7) ∧ w'.cell? ⟨g, 3, none⟩ = some (.int .i64 17) ∧ Kept w g s3 w' := by
  refine (of_any none 0 [] W (SlP.ofNil W)).mono ?_
  rintro e w' ⟨rfl, b⟩
  have k := h.call b
  exact ⟨rfl, k.blk.cell 0, k.blk.cell 1, k.blk.cell 2, k.blk.cell 3, k⟩

theorem join3 (w : World) (g : Nat) (W : World) (h : Kept w g s3 W) :
    Calls Try.prog 18 #[.agg #[.int .i64 3, .int .i64 5, .int .i64 7, .int .i64 17], .agg #[.int .i64 0, .int .i64 0, .int .i64 0, .int .i64 0]] W fun e w' => e = .returned (.agg #[.int .i64 3, .int .i64 5, .int .i64 7, .int .i64 17]) ∧
      w'.cell? ⟨g, 0, none⟩ = some (.int .i64 3) ∧ w'.cell? ⟨g, 1, none⟩ = some (.int .i64 5) ∧ w'.cell? ⟨g, 2, none⟩ = some (.int .i64 7) ∧ w'.cell? ⟨g, 3, none⟩ = some (.int .i64 17) ∧ Kept w g s3 w' := by
  refine (join_raw 3 5 7 17 0 0 0 0 W).mono ?_
  rintro e w' ⟨rfl, b⟩
  have k := h.call b
  exact ⟨by kernel_rfl, k.blk.cell 0, k.blk.cell 1, k.blk.cell 2, k.blk.cell 3, k⟩

set_option maxHeartbeats 4000000 in
set_option maxRecDepth 100000 in
theorem added_any (w : World) :
    Calls Try.prog 15 #[] w fun e w' => e = .returned (.bool true) ∧ Below w.heap.size w w' := by
  go_enter Try.func15, Try.ntmps15
  go_wp2_with fail
  go_at_call 23
  refine (points_any _).mono ?_
  rintro e w1 ⟨a1, rfl, s1, b1⟩
  go_wp2_with fail
  go_at_call 16
  refine (of3 _ _ _ s1).mono ?_
  rintro e w2 ⟨rfl, b2⟩
  have bb := belowCall b1 b2
  clear s1 b1 b2
  go_wp2_with fail
  have k0 : Kept w w2.heap.size s3 (w2.alloc (.cells #[.int .i64 3, .int .i64 5, .int .i64 7, .int .i64 17] 39)) := ⟨Blk.laid w2 s3 _ _ rfl, bb.alloc bb.size _⟩
  clear bb
  generalize w2.alloc _ = w3 at *
  generalize w2.heap.size = g at *
  have c0 : w3.cell? ⟨g, 0, none⟩ = some (.int .i64 3) := k0.blk.cell 0
  have c1 : w3.cell? ⟨g, 1, none⟩ = some (.int .i64 5) := k0.blk.cell 1
  have c2 : w3.cell? ⟨g, 2, none⟩ = some (.int .i64 7) := k0.blk.cell 2
  have c3 : w3.cell? ⟨g, 3, none⟩ = some (.int .i64 17) := k0.blk.cell 3
  have k1 : Kept w g s3 w3.drew := ⟨k0.blk, belowDrew k0.bel⟩
  go_region_held3 (fun w' => w'.cell? ⟨g, 0, none⟩ = some (.int .i64 3) ∧ w'.cell? ⟨g, 1, none⟩ = some (.int .i64 5) ∧ w'.cell? ⟨g, 2, none⟩ = some (.int .i64 7) ∧ w'.cell? ⟨g, 3, none⟩ = some (.int .i64 17) ∧ Kept w g s3 w') (go_keep)
    (first
      | (go_at_call 16; refine (of0 w g _ ?_).mono ?_; (simp [*]); rintro e w' ⟨rfl, h0, h1, h2, h3, h4⟩)
      | (go_at_call 18; refine (join3 w g _ ?_).mono ?_; (simp [*]); rintro e w' ⟨rfl, h0, h1, h2, h3, h4⟩))
  all_goals go_wp2_with fail
  all_goals go_ret
  all_goals exact ⟨rfl, Kept.bel (by assumption)⟩

end Go.Proofs.Ytcbhpikcnhefbab
