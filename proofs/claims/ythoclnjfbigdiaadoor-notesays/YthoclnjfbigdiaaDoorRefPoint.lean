/-
  The reference's CheckPoint: whether a point is in range.
-/
import Derived.Test.YthoclnjfbigdiaaDoorIn
import Derived.Test.YthoclnjfbigdiaaDoorLineMath
namespace Go.Proofs.YthoclnjfbigdiaaDoor
open Go.RowKit

theorem refPoint_any (x y : Int) (w : World) :
    Calls Tryd.prog 52 #[.agg #[.int .i64 x, .int .i64 y]] w fun e w' => e = .returned (.int .i64 (if ptOk (x, y) = false then 3 else 0)) ∧ Below w.heap.size w w' := by
  by_cases h1 : 0 ≤ x ∧ x ≤ 100000
  · have i1 := fun W => in_any x 0 100000 W
    rw [decide_eq_true h1] at i1
    by_cases h2 : -1000000 ≤ y ∧ y ≤ 1000000
    · have i2 := fun W => in_any y (-1000000) 1000000 W
      rw [decide_eq_true h2] at i2
      have e : ptOk (x, y) = true := decide_eq_true ⟨h1.1, h1.2, h2⟩
      rw [e, if_neg (by decide)]
      clear e h1 h2
      go_enter Tryd.func52, Tryd.ntmps52
      go_wp2_with fail
      go_at_call 51
      refine (i1 _).mono ?_
      rintro e w1 ⟨rfl, rfl⟩
      go_wp2_with fail
      go_at_call 51
      refine (i2 _).mono ?_
      rintro e w2 ⟨rfl, rfl⟩
      go_wp2_with fail
      go_ret
      exact ⟨rfl, (Below.refl _ _).alloc (Nat.le_refl _) _⟩
    · have i2 := fun W => in_any y (-1000000) 1000000 W
      rw [decide_eq_false h2] at i2
      have e : ptOk (x, y) = false := decide_eq_false (fun h => h2 h.2.2)
      rw [e, if_pos rfl]
      clear e h1 h2
      go_enter Tryd.func52, Tryd.ntmps52
      go_wp2_with fail
      go_at_call 51
      refine (i1 _).mono ?_
      rintro e w1 ⟨rfl, rfl⟩
      go_wp2_with fail
      go_at_call 51
      refine (i2 _).mono ?_
      rintro e w2 ⟨rfl, rfl⟩
      go_wp2_with fail
      go_ret
      exact ⟨rfl, (Below.refl _ _).alloc (Nat.le_refl _) _⟩
  · have i1 := fun W => in_any x 0 100000 W
    rw [decide_eq_false h1] at i1
    have e : ptOk (x, y) = false := decide_eq_false (fun h => h1 ⟨h.1, h.2.1⟩)
    rw [e, if_pos rfl]
    clear e h1
    go_enter Tryd.func52, Tryd.ntmps52
    go_wp2_with fail
    go_at_call 51
    refine (i1 _).mono ?_
    rintro e w1 ⟨rfl, rfl⟩
    go_wp2_with fail
    go_ret
    exact ⟨rfl, (Below.refl _ _).alloc (Nat.le_refl _) _⟩

end Go.Proofs.YthoclnjfbigdiaaDoor
