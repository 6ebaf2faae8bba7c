/-
  The closed fact of chapter 3: three points, packed, unpacked, held against themselves.
-/
import Derived.Test.YthfcpnelfcehfabUnpack
import Derived.Test.YthfcpnelfcehfabEqualPt
namespace Go.Proofs.Ythfcpnelfcehfab
open Go.RowKit

def pts3 : List Pt := [(10, 5), (20, 5), (30, 7)]

theorem points_any (w : World) :
    Calls Try.prog 15 #[] w fun e w' => ∃ a', e = .returned (.slice a' 3 3) ∧ SlP w' a' 3 pts3 ∧ Below w.heap.size w w' := by
  go_enter Try.func15, Try.ntmps15
  go_wp2_with fail
  go_ret
  exact ⟨_, rfl, SlP.laid w pts3 _ rfl _ _ rfl 3 rfl (by decide), (Below.refl _ _).alloc (Nat.le_refl _) _⟩

theorem pack3 (a : Option Addr) (c : Nat) (W : World) (h : SlP W a c pts3) :
    Calls Try.prog 6 #[.slice a 3 c] W fun e w' => ∃ a' G, e = .returned (.tuple #[.slice a' 32 G, .int .i64 0]) ∧ Sl w' a' G ((packL pts3).map Value.bool) ∧ Below W.heap.size W w' := by
  have p := pack_any a c pts3 W h
  rw [show checkE pts3 = 0 by decide +kernel, show (packL pts3).length = 32 by decide +kernel] at p
  exact p

theorem unpack3 (a : Option Addr) (c : Nat) (W : World) (h : Sl W a c ((packL pts3).map Value.bool)) :
    Calls Try.prog 8 #[.slice a 32 c, .int .i64 3] W fun e w' => ∃ a' G, e = .returned (.tuple #[.slice a' 3 G, .int .i64 0]) ∧ SlP w' a' G pts3 ∧ Below W.heap.size W w' := by
  have p := unpack_any a c (packL pts3) 3 W h (by have := packL_length pts3; omega)
  rw [show unpE (packL pts3) 3 = 0 by decide +kernel, show unpL (packL pts3) 3 = pts3 by decide +kernel, show (packL pts3).length = 32 by decide +kernel] at p
  exact p

theorem unpack2 (a : Option Addr) (c : Nat) (W : World) (h : Sl W a c ((packL pts3).map Value.bool)) :
    Calls Try.prog 8 #[.slice a 32 c, .int .i64 2] W fun e w' => ∃ a' G, e = .returned (.tuple #[.slice a' 0 G, .int .i64 8]) ∧ Below W.heap.size W w' := by
  have p := unpack_any a c (packL pts3) 2 W h (by have := packL_length pts3; omega)
  rw [show unpE (packL pts3) 2 = 8 by decide +kernel, show unpL (packL pts3) 2 = [] by decide +kernel, show (packL pts3).length = 32 by decide +kernel] at p
  refine p.mono ?_
  rintro e w' ⟨a', G, he, -, hb⟩
  exact ⟨a', G, he, hb⟩

theorem take3 (a : Option Addr) (c : Nat) (W : World) (h : Sl W a c ((packL pts3).map Value.bool)) :
    Calls Try.prog 16 #[.slice a 32 c] W fun e w' => ∃ a' G L, e = .returned (.tuple #[.int .i64 10, .slice a' L G, .int .i64 0]) ∧ Below W.heap.size W w' := by
  have p := ztake_any a c (packL pts3) W h (by have := packL_length pts3; omega)
  rw [show zigF (packL pts3) = 0 by decide +kernel, show zigN (packL pts3) = 10 by decide +kernel, show (packL pts3).length = 32 by decide +kernel] at p
  refine p.mono ?_
  rintro e w' ⟨a', G, he, -, hb⟩
  exact ⟨a', G, _, he, hb⟩

theorem check2 (a : Option Addr) (c : Nat) (W : World) (h : SlP W a c [(3, 0), (3, 0)]) :
    Calls Try.prog 12 #[.slice a 2 c] W fun e w' => e = .returned (.int .i64 7) ∧ Below W.heap.size W w' := by
  have p := check_any a c _ W h
  rw [show checkE [(3, 0), (3, 0)] = 7 by decide +kernel] at p
  exact p

theorem equal3 (a b : Option Addr) (c d : Nat) (W : World) (h : SlP W a c pts3) (k : SlP W b d pts3) :
    Calls Try.prog 9 #[.slice a 3 c, .slice b 3 d] W fun e w' => e = .returned (.bool true) ∧ Below W.heap.size W w' := by
  have p := equalPt a b c d pts3 pts3 W h k (by decide) (by decide)
  rw [show decide (pts3 = pts3) = true by decide +kernel] at p
  refine p.mono ?_
  rintro e w' ⟨he, q, rfl⟩
  exact ⟨he, belowDrewN (Below.refl _ _) q⟩

set_option maxHeartbeats 1000000 in
set_option maxRecDepth 100000 in
theorem lined_any (w : World) :
    Calls Try.prog 7 #[] w fun e w' => e = .returned (.bool true) ∧ Below w.heap.size w w' := by
  go_enter Try.func7, Try.ntmps7
  go_wp2_with fail
  go_at_call 15
  refine (points_any _).mono ?_
  rintro e w1 ⟨a1, rfl, s1, b1⟩
  go_wp2_with fail
  go_at_call 6
  refine (pack3 _ _ _ s1).mono ?_
  rintro e w2 ⟨a2, G2, rfl, s2, b2⟩
  have bb2 := belowCall b1 b2
  clear s1 b1 b2
  go_wp2_with fail
  go_at_call 8
  refine (unpack3 _ _ _ s2).mono ?_
  rintro e w3 ⟨a3, G3, rfl, s3, b3⟩
  have bb3 := belowCall bb2 b3
  have t3 := s2.call b3
  clear s2 b3 bb2
  go_wp2_with fail
  go_at_call 8
  refine (unpack2 _ _ _ t3).mono ?_
  rintro e w4 ⟨a4, G4, rfl, b4⟩
  have bb4 := belowCall bb3 b4
  have t4 := t3.call b4
  have s4 := s3.call b4
  clear s3 b4 bb3 t3
  go_wp2_with fail
  go_at_call 16
  refine (take3 _ _ _ t4).mono ?_
  rintro e w5 ⟨a5, G5, L5, rfl, b5⟩
  have bb5 := belowCall bb4 b5
  have s5 := s4.call b5
  clear s4 b5 bb4 t4
  go_wp2_with fail
  go_at_call 15
  refine (points_any _).mono ?_
  rintro e w6 ⟨a6, rfl, t6, b6⟩
  have bb6 := belowCall bb5 b6
  have s6 := s5.call b6
  clear s5 b6 bb5
  go_wp2_with fail
  go_at_call 9
  refine (equal3 _ _ _ _ _ s6 t6).mono ?_
  rintro e w7 ⟨rfl, b7⟩
  have bb7 := belowCall bb6 b7
  clear b7 bb6 s6 t6
  go_wp2_with fail
  go_at_call 12
  refine (check2 _ _ _ (SlP.laid w7 [(3, 0), (3, 0)] _ rfl _ _ rfl 2 rfl (by decide))).mono ?_
  rintro e w8 ⟨rfl, b8⟩
  go_wp2_with fail
  go_ret
  exact ⟨rfl, belowCall (bb7.alloc bb7.size _) b8⟩

end Go.Proofs.Ythfcpnelfcehfab
