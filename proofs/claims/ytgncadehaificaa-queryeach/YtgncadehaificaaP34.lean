/-
  'at' of the laws: a number brought within bounds; it touches no memory.
-/
import Derived.Test.YtgncadehaificaaP01
namespace Go.Proofs.Ytgncadehaificaa
open Go.RowKit

/-- 'at': a number brought within bounds. -/
theorem at_any (k n : Int) (w : World) (hn : 1 ≤ n) (hn2 : n ≤ 1152921504606846976) :
    Calls Try.prog 28 #[.int .i64 k, .int .i64 n] w fun e w' => e = .returned (.int .i64 (k % n)) ∧ w = w' := by
  go_enter Try.func28, Try.ntmps28
  go_wp2
  · have h : k.tmod n < 0 := by assumption
    go_ret
    have e := tmod_up' hn h
    have b1 := Int.emod_nonneg k (show n ≠ 0 by omega)
    have b2 := Int.emod_lt_of_pos k (show 0 < n by omega)
    exact ⟨ret_int (by rw [e]; unfold wrap64; omega), rfl⟩
  · have h : 0 ≤ k.tmod n := by assumption
    go_ret
    exact ⟨ret_int (tmod_up hn h), rfl⟩

end Go.Proofs.Ytgncadehaificaa
