/-
  The three points that the closed facts speak of.
-/
import Derived.Test.YtpeeeealbfmklacPoints
namespace Go.Proofs.Ytpeeeealbfmklac
open Go.RowKit

def pts3 : List Pt := [(10, 5), (20, 5), (30, 7)]

theorem points_any (w : World) :
    Calls Try.prog 22 #[] w fun e w' => ∃ a', e = .returned (.slice a' 3 3) ∧ SlP w' a' 3 pts3 ∧ Below w.heap.size w w' := by
  go_enter Try.func22, Try.ntmps22
  go_wp2_with fail
  go_ret
  exact ⟨_, rfl, SlP.laid w pts3 _ rfl _ _ rfl 3 rfl (by decide), (Below.refl _ _).alloc (Nat.le_refl _) _⟩

end Go.Proofs.Ytpeeeealbfmklac
