/-
  The closed fact 'folded' of the laws: it returns true.
-/
import Derived.Test.YtabjeioaphmpjaaRefZag
import Derived.Test.YtabjeioaphmpjaaEqual
namespace Go.Proofs.Ytabjeioaphmpjaa
open Go.RowKit

set_option maxHeartbeats 2000000 in
set_option maxRecDepth 100000 in
theorem folded_any (w : World) : Calls Try.prog 21 #[] w fun e w' => e = .returned (.bool true) ∧ Below w.heap.size w w' := by
  have p1 : zigL [] 3 = [false, true, true, false] := by decide
  have p2 : zigE 3 = 0 := by decide
  have p3 : zigL [] 4 = [true, false, false, false, false, false, false, true] := by decide
  have p4 : zigE 4 = 0 := by decide
  have q1 : zigN [false, false, false, true, true] = -1 := by decide
  have q2 : zigR [false, false, false, true, true] = [true] := by decide
  have q3 : zigF [false, false, false, true, true] = 0 := by decide
  have q4 : zigN [true, false, false, false, false, false, false, false] = 0 := by decide
  have q5 : zigR [true, false, false, false, false, false, false, false] = [] := by decide
  have q6 : zigF [true, false, false, false, false, false, false, false] = 4 := by decide
  go_enter Try.func21, Try.ntmps21
  go_wp2_with fail
  have c1 := zput_any none 0 [] 3 w (Sl.ofNil w) (by decide)
  rw [p1, p2] at c1
  refine c1.mono ?_
  clear c1
  rintro e w1 ⟨a1, G1, rfl, s1, b1⟩
  have B1 := b1
  clear b1
  go_wp2_with fail
  have c2 := zput_any none 0 [] 4 w1 (Sl.ofNil w1) (by decide)
  rw [p3, p4] at c2
  refine c2.mono ?_
  clear c2
  rintro e w2 ⟨a2, G2, rfl, s2, b2⟩
  have B1 := belowCall B1 b2
  have s1 := s1.call b2
  clear b2
  go_wp2_with fail
  have c3 := ztake_any (some ⟨w2.heap.size, 0, none⟩) 5 [false, false, false, true, true] _ (Sl.laid w2 [.bool false, .bool false, .bool false, .bool true, .bool true] 4 _ rfl 5 rfl (by decide)) (by decide)
  rw [q1, q2, q3] at c3
  refine c3.mono ?_
  clear c3
  rintro e w3 ⟨a3, G3, rfl, s3, b3⟩
  have B1 := belowCall (B1.alloc B1.size _) b3
  have s1 := (s1.alloc _).call b3
  have s2 := (s2.alloc _).call b3
  clear b3 s3
  go_wp2_with fail
  have c4 := ztake_any (some ⟨w3.heap.size, 0, none⟩) 8 [true, false, false, false, false, false, false, false] _ (Sl.laid w3 [.bool true, .bool false, .bool false, .bool false, .bool false, .bool false, .bool false, .bool false] 4 _ rfl 8 rfl (by decide)) (by decide)
  rw [q4, q5, q6] at c4
  refine c4.mono ?_
  clear c4
  rintro e w4 ⟨a4, G4, rfl, s4, b4⟩
  have B1 := belowCall (B1.alloc B1.size _) b4
  have s1 := (s1.alloc _).call b4
  have s2 := (s2.alloc _).call b4
  clear b4 s4
  go_wp2_with fail
  refine (equalBool _ _ _ _ [false, true, true, false] [false, true, true, false] _ (s1.row.alloc _) (Row.laid w4 [.bool false, .bool true, .bool true, .bool false] 4 _ rfl) (by decide) (by decide)).mono ?_
  rintro e w5 ⟨rfl, q, rfl⟩
  have s2' := (s2.alloc (Obj.cells #[.bool false, .bool true, .bool true, .bool false] 4)).drewN q
  clear s1 s2
  go_wp2_with fail
  refine (equalBool _ _ _ _ [true, false, false, false, false, false, false, true] [true, false, false, false, false, false, false, true] _ (s2'.row.alloc _) (Row.laid _ [.bool true, .bool false, .bool false, .bool false, .bool false, .bool false, .bool false, .bool true] 4 _ (by simp)) (by decide) (by decide)).mono ?_
  rintro e w6 ⟨rfl, q', rfl⟩
  clear s2'
  go_wp2_with fail
  go_ret
  refine ⟨by simp, ?_⟩
  have hz := B1.size
  repeat (first | exact B1 | apply belowDrewN | refine Below.alloc ?_ (by first | omega | (simp <;> omega)) _)

end Go.Proofs.Ytabjeioaphmpjaa
