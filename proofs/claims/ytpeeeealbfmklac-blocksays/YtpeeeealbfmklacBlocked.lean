/-
  The closed fact of chapter 5: two blocks, and one of both.
-/
import Derived.Test.YtpeeeealbfmklacBMerge
import Derived.Test.YtpeeeealbfmklacEqualPt
import Derived.Test.YtpeeeealbfmklacPts3
namespace Go.Proofs.Ytpeeeealbfmklac
open Go.RowKit

theorem equalP3 (a b : Option Addr) (c d : Nat) (W : World) (h : SlP W a c pts3) (k : SlP W b d pts3) :
    Calls Try.prog 14 #[.slice a 3 c, .slice b 3 d] W fun e w' => e = .returned (.bool true) ∧ Below W.heap.size W w' := by
  have p := equalPt a b c d pts3 pts3 W h k (by decide) (by decide)
  rw [show decide (pts3 = pts3) = true by decide +kernel] at p
  refine p.mono ?_
  rintro e w' ⟨he, q, rfl⟩
  exact ⟨he, belowDrewN (Below.refl _ _) q⟩

def ptsA : List Pt := [(10, 5)]
def ptsB : List Pt := [(20, 5), (30, 7)]

set_option maxHeartbeats 400000 in
set_option maxRecDepth 100000 in
theorem blocked_any (w : World) :
    Calls Try.prog 11 #[] w fun e w' => e = .returned (.bool true) ∧ Below w.heap.size w w' := by
  have c1 : ∀ a c W, SlP W a c ptsA → Calls Try.prog 5 #[.slice a 1 c] W fun e w' => ∃ a' G, e = .returned (.tuple #[bkV (makeB ptsA) a' G, .int .i64 0]) ∧ Sl w' a' G ((makeB ptsA).bits.map Value.bool) ∧ Below W.heap.size W w' :=
    fun a c W h => make_any a c ptsA W h
  have c2 : ∀ a c W, SlP W a c ptsB → Calls Try.prog 5 #[.slice a 2 c] W fun e w' => ∃ a' G, e = .returned (.tuple #[bkV (makeB ptsB) a' G, .int .i64 0]) ∧ Sl w' a' G ((makeB ptsB).bits.map Value.bool) ∧ Below W.heap.size W w' :=
    fun a c W h => make_any a c ptsB W h
  have la := makeB_bits ptsA
  have lb := makeB_bits ptsB
  have lc := mergeB_bits (makeB ptsA) (makeB ptsB)
  have c3 := fun ao bo ca cb W ha hb => merge_any (makeB ptsA) (makeB ptsB) ao bo ca cb W ha hb (by omega) (by omega)
  have c4 := fun ao ca W ha => bpoints_any (mergeB (makeB ptsA) (makeB ptsB)) ao ca W ha (by omega)
  have c5 := fun ao bo ca cb W ha hb => merge_any (makeB ptsB) (makeB ptsA) ao bo ca cb W ha hb (by omega) (by omega)
  have c6 : ∀ W, Calls Try.prog 5 #[.slice none 0 0] W fun e w' => ∃ a' G, e = .returned (.tuple #[bkV (makeB []) a' G, .int .i64 4]) ∧ Sl w' a' G ((makeB []).bits.map Value.bool) ∧ Below W.heap.size W w' :=
    fun W => make_any none 0 [] W (SlP.ofNil W)
  rw [show mergeE (makeB ptsA) (makeB ptsB) = 0 by decide +kernel] at c3
  rw [show ptsE (mergeB (makeB ptsA) (makeB ptsB)) = 0 by decide +kernel, show ptsL (mergeB (makeB ptsA) (makeB ptsB)) = pts3 by decide +kernel] at c4
  rw [show mergeE (makeB ptsB) (makeB ptsA) = 7 by decide +kernel] at c5
  have k0 : (mergeB (makeB ptsA) (makeB ptsB)).n = 3 := by decide +kernel
  have k1 : (mergeB (makeB ptsA) (makeB ptsB)).fr = 10 := by decide +kernel
  have k2 : (mergeB (makeB ptsA) (makeB ptsB)).to = 30 := by decide +kernel
  clear la lb lc
  generalize mergeB (makeB ptsA) (makeB ptsB) = C at *
  generalize mergeB (makeB ptsB) (makeB ptsA) = D at *
  generalize makeB ptsA = A at *
  generalize makeB ptsB = B at *
  generalize makeB [] = O at *
  obtain ⟨cn, cf, cT, CX⟩ := C
  simp only at k0 k1 k2
  subst k0 k1 k2
  simp only [bkV] at *
  go_enter Try.func11, Try.ntmps11
  go_wp2_with fail
  go_at_call 22
  refine (points_any _).mono ?_
  rintro e w1 ⟨a1, rfl, s1, b1⟩
  obtain ⟨xb, xo, rfl, _⟩ := s1.where (by decide)
  go_wp2_with fail
  go_at_call 5
  refine (c1 _ _ _ (s1.front 1)).mono ?_
  rintro e w2 ⟨a2, G2, rfl, t2, b2⟩
  have bel := belowCall b1 b2
  clear s1 b1 b2
  go_wp2_with fail
  have H1 := Held.laid A t2
  have bel := belowNew bel (.cells #[.int .i64 A.n, .int .i64 A.fr, .int .i64 A.to, .slice a2 A.bits.length G2] 25)
  clear t2 c1
  generalize w2.heap.size = g1 at *
  generalize w2.alloc _ = w3 at *
  go_at_call 22
  refine (points_any _).mono ?_
  rintro e w4 ⟨a4, rfl, s4, b4⟩
  obtain ⟨yb, yo, rfl, _⟩ := s4.where (by decide)
  have q4 : SlP w4 (some ⟨yb, yo + 2, none⟩) 2 ptsB := s4.part 1 3 (by decide) (by decide)
  have bel := belowCall bel b4
  have H1 := H1.call b4
  clear s4 b4
  go_wp2_with fail
  go_at_call 5
  refine (c2 _ _ _ q4).mono ?_
  rintro e w5 ⟨a5, G5, rfl, t5, b5⟩
  have bel := belowCall bel b5
  have H1 := H1.call b5
  clear b5 q4 c2
  obtain ⟨i0, i1, i2, i3⟩ := H1.cells
  have l1 := H1.blk.lt
  go_wp2_with fail
  have H2 := Held.laid B t5
  have bel := belowNew bel (.cells #[.int .i64 B.n, .int .i64 B.fr, .int .i64 B.to, .slice a5 B.bits.length G5] 25)
  have H1 := H1.alloc (.cells #[.int .i64 B.n, .int .i64 B.fr, .int .i64 B.to, .slice a5 B.bits.length G5] 25)
  clear t5 i0 i1 i2 i3 l1
  generalize w5.heap.size = g2 at *
  generalize w5.alloc _ = w6 at *
  go_at_call 7
  refine (c3 _ _ _ _ _ H1.bits H2.bits).mono ?_
  rintro e w7 ⟨a7, G7, rfl, t7, b7⟩
  have bel := belowCall bel b7
  have H1 := H1.call b7
  have H2 := H2.call b7
  clear c3 b7
  go_wp2_with fail
  have H3 := Held.laid ⟨3, 10, 30, CX⟩ t7
  have bel := belowNew bel (.cells #[.int .i64 3, .int .i64 10, .int .i64 30, .slice a7 CX.length G7] 25)
  have H1 := H1.alloc (.cells #[.int .i64 3, .int .i64 10, .int .i64 30, .slice a7 CX.length G7] 25)
  have H2 := H2.alloc (.cells #[.int .i64 3, .int .i64 10, .int .i64 30, .slice a7 CX.length G7] 25)
  simp only at H3
  clear t7
  generalize w7.heap.size = g3 at *
  generalize w7.alloc _ = w8 at *
  go_at_call 6
  refine (c4 _ _ _ H3.bits).mono ?_
  rintro e w9 ⟨a9, G9, rfl, s9, b9⟩
  have bel := belowCall bel b9
  have H1 := H1.call b9
  have H2 := H2.call b9
  have H3 := H3.call b9
  clear c4 b9
  obtain ⟨i0, i1, i2, i3⟩ := H1.cells
  obtain ⟨j0, j1, j2, j3⟩ := H2.cells
  go_wp2_with fail
  go_at_call 7
  refine (c5 _ _ _ _ _ H2.bits H1.bits).mono ?_
  rintro e w10 ⟨a10, G10, rfl, t10, b10⟩
  have bel := belowCall bel b10
  have H3 := H3.call b10
  have s9 := s9.call b10
  clear c5 b10 H1 H2 i0 i1 i2 i3 j0 j1 j2 j3
  go_wp2_with fail
  have bel := belowNew bel (.cells #[.int .i64 D.n, .int .i64 D.fr, .int .i64 D.to, .slice a10 D.bits.length G10] 25)
  have H3 := H3.alloc (.cells #[.int .i64 D.n, .int .i64 D.fr, .int .i64 D.to, .slice a10 D.bits.length G10] 25)
  have s9 := s9.alloc (.cells #[.int .i64 D.n, .int .i64 D.fr, .int .i64 D.to, .slice a10 D.bits.length G10] 25)
  clear t10
  generalize w10.heap.size = g4 at *
  generalize w10.alloc _ = w11 at *
  go_at_call 5
  refine (c6 _).mono ?_
  rintro e w12 ⟨a12, G12, rfl, t12, b12⟩
  have bel := belowCall bel b12
  have H3 := H3.call b12
  have s9 := s9.call b12
  clear c6 b12
  obtain ⟨i0, i1, i2, i3⟩ := H3.cells
  have l3 := H3.blk.lt
  simp only at i0 i1 i2 i3
  go_wp2_with fail
  have bel := belowNew bel (.cells #[.int .i64 O.n, .int .i64 O.fr, .int .i64 O.to, .slice a12 O.bits.length G12] 25)
  have s9 := s9.alloc (.cells #[.int .i64 O.n, .int .i64 O.fr, .int .i64 O.to, .slice a12 O.bits.length G12] 25)
  clear t12 i0 i1 i2 i3 H3 l3
  generalize w12.heap.size = g5 at *
  generalize w12.alloc _ = w13 at *
  go_at_call 22
  refine (points_any _).mono ?_
  rintro e w14 ⟨a14, rfl, s14, b14⟩
  have bel := belowCall bel b14
  have s9 := s9.call b14
  clear b14
  go_wp2_with fail
  go_at_call 14
  refine (equalP3 _ _ _ _ _ s9 s14).mono ?_
  rintro e w15 ⟨rfl, b15⟩
  have bel := belowCall bel b15
  go_wp2_with fail
  go_ret
  exact ⟨rfl, bel⟩

end Go.Proofs.Ytpeeeealbfmklac
