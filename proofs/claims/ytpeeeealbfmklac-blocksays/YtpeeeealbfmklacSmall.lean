/-
  The small functions: widthFits, numberFits of package bits: what each returns; none touches memory.
-/
import Derived.Test.YtpeeeealbfmklacBitsMath
namespace Go.Proofs.Ytpeeeealbfmklac
open Go.RowKit

theorem widthFits_any (width : Int) (w : World) :
    Calls Try.prog 41 #[.int .i64 width] w fun e w' => e = .returned (.bool (okW width)) ∧ w = w' := by
  cases h : okW width with
  | true =>
    obtain ⟨h0, h1⟩ := okW_true h
    clear h
    go_enter Try.func41, Try.ntmps41
    go_wp2
    go_ret
    exact ⟨rfl, rfl⟩
  | false =>
    have h' := okW_false h
    clear h
    by_cases h0 : 0 ≤ width
    · have h1 : ¬ width ≤ 40 := by omega
      clear h'
      go_enter Try.func41, Try.ntmps41
      go_wp2
      go_ret
      exact ⟨rfl, rfl⟩
    · clear h'
      go_enter Try.func41, Try.ntmps41
      go_wp2
      go_ret
      exact ⟨rfl, rfl⟩

theorem numberFits_any (n width : Int) (w : World) (hw : okW width = true) :
    Calls Try.prog 42 #[.int .i64 n, .int .i64 width] w fun e w' => e = .returned (.bool (okN n width)) ∧ w = w' := by
  obtain ⟨h0, h1⟩ := okW_true hw
  clear hw
  by_cases hn : 0 ≤ n
  · rw [okN_shift hn]
    cases h : (n / 2 ^ width.toNat == 0) with
    | true =>
      go_enter Try.func42, Try.ntmps42
      go_wp2
      go_ret
      exact ⟨rfl, rfl⟩
    | false =>
      go_enter Try.func42, Try.ntmps42
      go_wp2
      go_ret
      exact ⟨rfl, rfl⟩
  · have e : okN n width = false := by unfold okN; simp; omega
    rw [e]
    clear e
    go_enter Try.func42, Try.ntmps42
    go_wp2
    go_ret
    exact ⟨rfl, rfl⟩

end Go.Proofs.Ytpeeeealbfmklac
