/-
  The closed fact 'written' of the laws: it returns true.
-/
import Derived.Test.YtjcbahbdbnpdeaaRef1
import Derived.Test.YtjcbahbdbnpdeaaEqual
namespace Go.Proofs.Ytjcbahbdbnpdeaa
open Go.RowKit

set_option maxHeartbeats 2000000 in
set_option maxRecDepth 100000 in
theorem written_any (w : World) : Calls Try.prog 11 #[] w fun e w' => e = .returned (.bool true) ∧ Below w.heap.size w w' := by
  have p1 : putL [true] 5 4 = [true, false, true, false, true] := by decide
  have p2 : putE 5 4 = 0 := by decide
  have p3 : putL [] 4 2 = [] := by decide
  have p4 : putE 4 2 = 3 := by decide
  have q1 : takeL [false, true, true] 2 = [true] := by decide
  have q2 : takeE [false, true, true] 2 = 0 := by decide
  have q3 : takeN [false, true, true] 2 = 1 := by decide
  have q4 : takeL [] 1 = [] := by decide
  have q5 : takeE [] 1 = 8 := by decide
  go_enter Try.func11, Try.ntmps11
  go_wp2_with fail
  have c1 := put_any (some ⟨w.heap.size, 0, none⟩) 1 [true] 5 4 _ (Sl.laid w [.bool true] 4 _ rfl 1 rfl (by decide)) (by decide)
  rw [p1, p2] at c1
  refine c1.mono ?_
  clear c1
  rintro e w1 ⟨a1, G1, rfl, s1, b1⟩
  have B1 : Below w.heap.size w w1 := belowCall ((Below.refl _ _).alloc (Nat.le_refl _) _) b1
  clear b1
  go_wp2_with fail
  have c2 := take_any (some ⟨w1.heap.size, 0, none⟩) 3 [false, true, true] 2 _ (Sl.laid w1 [.bool false, .bool true, .bool true] 4 _ rfl 3 rfl (by decide)) (by decide)
  rw [q1, q2, q3] at c2
  refine c2.mono ?_
  clear c2
  rintro e w2 ⟨a2, G2, rfl, s2, b2⟩
  have B2 : Below w.heap.size w w2 := belowCall (B1.alloc B1.size _) b2
  have s1' := (s1.alloc _).call b2
  clear b2 s1 B1
  go_wp2_with fail
  have c3 := put_any none 0 [] 4 2 _ (Sl.ofNil w2) (by decide)
  rw [p3, p4] at c3
  refine c3.mono ?_
  clear c3
  rintro e w3 ⟨a3, G3, rfl, s3, b3⟩
  have B3 := belowCall B2 b3
  have s1 := s1'.call b3
  have s2' := s2.call b3
  clear b3 s1' s2 s3 B2
  go_wp2_with fail
  have c4 := take_any none 0 [] 1 _ (Sl.ofNil w3) (by decide)
  rw [q4, q5] at c4
  refine c4.mono ?_
  clear c4
  rintro e w4 ⟨a4, G4, rfl, s4, b4⟩
  have B4 := belowCall B3 b4
  have s1' := s1.call b4
  have s2 := s2'.call b4
  clear b4 s1 s2' s4 B3
  go_wp2_with fail
  refine (equalBool _ _ _ _ [true, false, true, false, true] [true, false, true, false, true] _ (s1'.row.alloc _) (Row.laid w4 [.bool true, .bool false, .bool true, .bool false, .bool true] 4 _ rfl) (by decide) (by decide)).mono ?_
  rintro e w5 ⟨rfl, q, rfl⟩
  have s2' := (s2.alloc (Obj.cells #[.bool true, .bool false, .bool true, .bool false, .bool true] 4)).drewN q
  clear s1' s2
  go_wp2_with fail
  refine (equalBool _ _ _ _ [true] [true] _ (s2'.row.alloc _) (Row.laid _ [.bool true] 4 _ (by simp)) (by decide) (by decide)).mono ?_
  rintro e w6 ⟨rfl, q', rfl⟩
  clear s2'
  go_wp2_with fail
  go_ret
  refine ⟨by simp, ?_⟩
  have hz := B4.size
  repeat (first | exact B4 | apply belowDrewN | refine Below.alloc ?_ (by first | omega | (simp <;> omega)) _)

end Go.Proofs.Ytjcbahbdbnpdeaa
