/-
  block.Same: are all fields of two blocks alike?
-/
import Derived.Test.YtpeeeealbfmklacBlockMath
import Derived.Test.YtpeeeealbfmklacEqual
namespace Go.Proofs.Ytpeeeealbfmklac
open Go.RowKit

set_option maxHeartbeats 400000 in
set_option maxRecDepth 100000 in
theorem same_any (a b : Bk) (ao bo : Option Addr) (ca cb : Nat) (w : World) (ha : Sl w ao ca (a.bits.map Value.bool)) (hb : Sl w bo cb (b.bits.map Value.bool)) (la : a.bits.length ≤ 140737488355328) (lb : b.bits.length ≤ 140737488355328) :
    Calls Try.prog 12 #[bkV a ao ca, bkV b bo cb] w fun e w' => e = .returned (.bool (sameB a b)) ∧ Below w.heap.size w w' := by
  obtain ⟨an, af, aT, X⟩ := a
  obtain ⟨bn, bf, bT, Y⟩ := b
  unfold bkV sameB
  simp only at *
  have c1 := fun W h k => equalBool ao bo ca cb X Y W h k (by omega) (by omega)
  generalize decide (X = Y) = D at *
  clear la lb
  have sa := fun o1 o2 => (ha.alloc o1).alloc o2
  have sb := fun o1 o2 => (hb.alloc o1).alloc o2
  by_cases h1 : an = bn
  · subst h1
    by_cases h2 : af = bf
    · subst h2
      by_cases h3 : aT = bT
      · subst h3
        go_enter Try.func12, Try.ntmps12
        go_wp2_with fail
        go_at_call 23
        refine (c1 _ (sa _ _).row (sb _ _).row).mono ?_
        rintro e w1 ⟨rfl, q, rfl⟩
        go_wp2_with fail
        go_ret
        exact ⟨by simp, belowDrewN (below2 w _ _) q⟩
      · go_enter Try.func12, Try.ntmps12
        go_wp2_with fail
        go_ret
        exact ⟨by simp [h3], below2 w _ _⟩
    · go_enter Try.func12, Try.ntmps12
      go_wp2_with fail
      go_ret
      exact ⟨by simp [h2], below2 w _ _⟩
  · go_enter Try.func12, Try.ntmps12
    go_wp2_with fail
    go_ret
    exact ⟨by simp [h1], below2 w _ _⟩

end Go.Proofs.Ytpeeeealbfmklac
