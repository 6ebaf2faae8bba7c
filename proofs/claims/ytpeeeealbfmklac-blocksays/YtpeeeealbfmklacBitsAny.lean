/-
  Put and Take of package bits, whatever they are handed.
-/
import Derived.Test.YtpeeeealbfmklacTake
namespace Go.Proofs.Ytpeeeealbfmklac
open Go.RowKit

theorem bools_one (l : List Bool) : ∀ v ∈ l.map Value.bool, v.oneCell' = true := by
  intro v hv
  obtain ⟨b, _, rfl⟩ := List.mem_map.1 hv
  rfl

/-- Put, whatever it is handed. -/
theorem put_any (ao : Option Addr) (cap : Nat) (l : List Bool) (n width : Int) (w : World) (hr : Sl w ao cap (l.map Value.bool)) (hl : l.length ≤ 140737488351232) :
    Calls Try.prog 38 #[.slice ao l.length cap, .int .i64 n, .int .i64 width] w fun e w' =>
      ∃ a' G, e = .returned (.tuple #[.slice a' (putL l n width).length G, .int .i64 (putE n width)]) ∧ Sl w' a' G ((putL l n width).map Value.bool) ∧ Below w.heap.size w w' := by
  cases hw : okW width with
  | false =>
    have e : putOk n width = false := by simp [putOk, hw]
    refine (put_no ao l.length cap n width w (.inl hw)).mono ?_
    rintro e' w' ⟨rfl, rfl⟩
    exact ⟨none, 0, by simp [putL, putE, e], by simpa [putL, e] using Sl.ofNil w, Below.refl _ _⟩
  | true =>
    cases hn : okN n width with
    | false =>
      have e : putOk n width = false := by simp [putOk, hn]
      refine (put_no ao l.length cap n width w (.inr hn)).mono ?_
      rintro e' w' ⟨rfl, rfl⟩
      exact ⟨none, 0, by simp [putL, putE, e], by simpa [putL, e] using Sl.ofNil w, Below.refl _ _⟩
    | true =>
      have e : putOk n width = true := by simp [putOk, hw, hn]
      obtain ⟨h0, h1⟩ := okW_true hw
      obtain ⟨k, rfl⟩ := Int.eq_ofNat_of_zero_le h0
      refine (put_ok ao cap l n k w hr.row (by omega) hn (by omega)).mono ?_
      rintro e' w' ⟨rfl, B, hb⟩
      have hlen : ((l ++ bitsOf n k).map Value.bool).length = l.length + k := by simp [length_bitsOf]
      have hs := Sl.ofBlk B (by omega)
      rw [hlen] at hs
      exact ⟨some ⟨w.heap.size, 0, none⟩, l.length + k, by simp [putL, putE, e, length_bitsOf], by simpa [putL, e] using hs, hb⟩

/-- Take, whatever it is handed. -/
theorem take_any (ao : Option Addr) (cap : Nat) (l : List Bool) (width : Int) (w : World) (hr : Sl w ao cap (l.map Value.bool)) (hl : l.length ≤ 140737488355328) :
    Calls Try.prog 39 #[.slice ao l.length cap, .int .i64 width] w fun e w' =>
      ∃ a' G, e = .returned (.tuple #[.int .i64 (takeN l width), .slice a' (takeL l width).length G, .int .i64 (takeE l width)]) ∧ Sl w' a' G ((takeL l width).map Value.bool) ∧ Below w.heap.size w w' := by
  cases hw : okW width with
  | false =>
    have e : takeOk l width = false := by simp [takeOk, hw]
    refine (take_range ao l.length cap width w hw).mono ?_
    rintro e' w' ⟨rfl, rfl⟩
    exact ⟨none, 0, by simp [takeL, takeE, takeN, e, hw], by simpa [takeL, e] using Sl.ofNil w, Below.refl _ _⟩
  | true =>
    by_cases hn : width ≤ l.length
    · have e : takeOk l width = true := by simp [takeOk, hw, hn]
      obtain ⟨h0, h1⟩ := okW_true hw
      obtain ⟨k, rfl⟩ := Int.eq_ofNat_of_zero_le h0
      have hle := hr.le
      rw [List.length_map] at hle
      refine (take_ok ao cap l k w hr.row (by omega) (by omega) hl hle hr.max).mono ?_
      rintro e' w' ⟨rfl, B, hb⟩
      have hlen : ((l.drop k).map Value.bool).length = l.length - k := by simp
      have hs := Sl.ofBlk B (by omega)
      rw [hlen] at hs
      exact ⟨some ⟨w.heap.size, 0, none⟩, l.length - k, by simp [takeL, takeE, takeN, e], by simpa [takeL, e] using hs, hb⟩
    · have e : takeOk l width = false := by simp [takeOk, hn]
      refine (take_torn ao l.length cap width w hw (by omega)).mono ?_
      rintro e' w' ⟨rfl, rfl⟩
      exact ⟨none, 0, by simp [takeL, takeE, takeN, e, hw], by simpa [takeL, e] using Sl.ofNil w, Below.refl _ _⟩

end Go.Proofs.Ytpeeeealbfmklac
