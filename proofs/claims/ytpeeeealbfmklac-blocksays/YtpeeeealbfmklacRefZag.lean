/-
  The reference's answer of chapter 2, Decoded: what it returns; nothing is written.
-/
import Derived.Test.YtpeeeealbfmklacRefZig
namespace Go.Proofs.Ytpeeeealbfmklac
open Go.RowKit

/-- The first so many of three bits, in their places. -/
def part (b c d : Bool) : Nat → Nat
  | 0 => 0
  | 1 => 4 * b.toNat
  | 2 => 4 * b.toNat + 2 * c.toNat
  | _ => 4 * b.toNat + 2 * c.toNat + d.toNat

theorem part_lt (b c d : Bool) : part b c d 3 < 8 := by revert b c d; decide
theorem part1_le (b c d : Bool) : part b c d 1 ≤ 4 := by revert b c d; decide
theorem part2_le (b c d : Bool) : part b c d 2 ≤ 6 := by revert b c d; decide

theorem abc (j q : Nat) : ((0 : Int) < (j : Int) ∧ (q : Int) = 0) ∨ ((0 : Int) < (j : Int) ∧ ¬ (q : Int) = 0) ∨ ¬ (0 : Int) < (j : Int) := by omega

theorem Sl.tailA {w : World} {B off G : Nat} {Y : List Bool} (hrow : Row w (some ⟨B, off + 4, none⟩) (Y.map Value.bool)) (hle : Y.length + 4 ≤ G) (hG : G ≤ 9223372036854775807) : Sl w (some ⟨B, off + 4, none⟩) (G - 4) (Y.map Value.bool) :=
  ⟨hrow, by rw [List.length_map]; omega, by omega, fun e => by cases e⟩

theorem Sl.tailB {w : World} {B off G : Nat} {Y : List Bool} (hle : Y.length + 4 ≤ G) (hG : G = 4) : Sl w (some ⟨B, off, none⟩) 0 (Y.map Value.bool) := by
  have hY : Y = [] := List.eq_nil_of_length_eq_zero (by omega)
  subst hY
  exact ⟨.inl rfl, Nat.le_refl _, by decide, fun e => by cases e⟩

set_option maxHeartbeats 1000000 in
set_option maxRecDepth 100000 in
/-- Decoded, whatever it is handed; what is left lies in what it was handed, so in whatever world that lay. -/
theorem decoded_two (ao : Option Addr) (cap : Nat) (l : List Bool) (w w0 : World) (hr : Sl w ao cap (l.map Value.bool)) (hr0 : Sl w0 ao cap (l.map Value.bool)) :
    Calls Try.prog 32 #[.slice ao l.length cap] w fun e w' =>
      ∃ a' G, e = .returned (.tuple #[.int .i64 (zigN l), .slice a' (zigR l).length G, .int .i64 (zigF l)]) ∧ Sl w' a' G ((zigR l).map Value.bool) ∧ Sl w0 a' G ((zigR l).map Value.bool) ∧ Below w.heap.size w w' := by
  unfold zigN zigR zigF
  obtain ⟨D, hD⟩ : ∃ D, D = decode 8 0 0 l := ⟨_, rfl⟩
  rw [← hD]
  go_enter Try.func32, Try.ntmps32
  go_wp2_with fail
  go_loop [0, 5, 6, 7] (fun s n p i => ∃ (j m G pw : Nat) (a' : Option Addr) (X : List Bool), Hid (pw = 8 ^ j) ∧ j ≤ 8 ∧ m ≤ 8000000 ∧ s = .slice a' X.length G ∧ n = .int .i64 m ∧ p = .int .i64 pw ∧ i = .int .i64 j ∧ D = decode (8 - j) j m X ∧ Sl w a' G (X.map Value.bool) ∧ Sl w0 a' G (X.map Value.bool)) (fun _ _ _ i => 9 - (intOf i).toNat)
  case atStart => exact ⟨0, 0, cap, 1, ao, l, hide rfl, by omega, by omega, rfl, rfl, rfl, rfl, hD, hr, hr0⟩
  case round =>
    obtain ⟨j, m, G, pw, a', X, HP, hj, hm, rfl, rfl, rfl, rfl, hdec, hs, hs0⟩ := hrel
    clear hr hr0 hD
    by_cases hlt : j < 8
    · have hj' : ¬ (j : Int) = 8 := by omega
      rw [show 8 - j = (8 - (j + 1)) + 1 by omega, decode] at hdec
      by_cases h4 : X.length < 4
      · rw [if_pos h4] at hdec
        subst hdec
        have h4' : (X.length : Int) < 4 := by omega
        go_wp2_with fail
        go_ret3
        exact ⟨none, 0, rfl, Sl.ofNil _, Sl.ofNil _, Below.refl _ _⟩
      · rw [if_neg h4] at hdec
        obtain ⟨x, b, c, d, Y, rfl⟩ := four X h4
        have h4' : ¬ ((x :: b :: c :: d :: Y).length : Int) < 4 := by omega
        obtain ⟨B, off, rfl, hB, hcell⟩ := hs.row.at (by simp)
        obtain ⟨B2, off2, hBo, hB0, hcell0⟩ := hs0.row.at (by simp)
        simp only [Option.some.injEq, Addr.mk.injEq, and_true] at hBo
        obtain ⟨rfl, rfl⟩ := hBo
        have hYrow0 : Row w0 (some ⟨B, off + 4, none⟩) (Y.map Value.bool) := .inr ⟨B, off + 4, rfl, hB0, fun i v hv => by
          rw [Nat.add_assoc, Nat.add_comm 4 i]
          exact hcell0 (i + 4) v hv⟩
        clear hcell0 hs0
        have c0 := hcell 0 (.bool x) rfl
        rw [Nat.add_zero] at c0
        have c1 := hcell 1 (.bool b) rfl
        have c2 := hcell 2 (.bool c) rfl
        have c3 := hcell 3 (.bool d) rfl
        have hle := hs.le
        have hmx := hs.max
        have htk : (x :: b :: c :: d :: Y).take 4 = [x, b, c, d] := rfl
        have hdr : (x :: b :: c :: d :: Y).drop 4 = Y := rfl
        rw [htk, hdr, numOf_four] at hdec
        have hlen : (x :: b :: c :: d :: Y).length = Y.length + 4 := rfl
        have hYrow : Row w (some ⟨B, off + 4, none⟩) (Y.map Value.bool) := .inr ⟨B, off + 4, rfl, hB, fun i v hv => by
          rw [Nat.add_assoc, Nat.add_comm 4 i]
          exact hcell (i + 4) v hv⟩
        rw [List.length_map] at hle
        rw [hlen] at hle h4' ⊢
        clear hcell htk hdr hlen h4
        have HD := hide hdec
        clear hdec
        go_wp2_with fail
        go_loop [8, 22] (fun dv i => ∃ k : Nat, k ≤ 3 ∧ i = .int .i64 k ∧ dv = .int .i64 (part b c d k)) (fun _ i => 3 - (intOf i).toNat)
        case atStart => exact ⟨0, by omega, rfl, rfl⟩
        case round =>
          obtain ⟨k, hk, rfl, rfl⟩ := hrel
          have hk4 : k = 0 ∨ k = 1 ∨ k = 2 ∨ k = 3 := by omega
          rcases hk4 with rfl | rfl | rfl | rfl
          · clear c0 c2 c3 HD hYrow
            cases b
            all_goals (
              go_wp2_with fail
              go_round
              case rel => exact ⟨1, by omega, by go_num, by simp [part, wrap64]⟩
              case measure => simp [intOf])
          · clear c0 c1 c3 HD hYrow
            cases c
            all_goals (
              have hp := part1_le b false d
              have hp' := part1_le b true d
              go_wp2_with fail
              go_round
              case rel => exact ⟨2, by omega, by go_num, by simp [part]⟩
              case measure => simp [intOf])
          · clear c0 c1 c2 HD hYrow
            cases d
            all_goals (
              have hp := part2_le b c false
              have hp' := part2_le b c true
              go_wp2_with fail
              go_round
              case rel => exact ⟨3, by omega, by go_num, by simp [part]⟩
              case measure => simp [intOf])
          · have hpl := part_lt b c d
            have hpe : 4 * b.toNat + 2 * c.toNat + d.toNat = part b c d 3 := rfl
            rw [hpe] at HD
            generalize part b c d 3 = q at *
            clear hpe c1 c2 c3
            have hpw : pw ≤ 2097152 := by
              rw [HP.out]
              exact Nat.pow_le_pow_right (n := 8) (j := 7) (by decide) (by omega)
            have hple : q * pw ≤ 7 * 2097152 := Nat.mul_le_mul (by omega) hpw
            have hmul : (q : Int) * (pw : Int) = ((q * pw : Nat) : Int) := by rw [Int.natCast_mul]
            rw [← HP.out] at HD
            have HP' : Hid (pw * 8 = 8 ^ (j + 1)) := by
              show _ = _
              rw [Nat.pow_succ, HP.out]
            have hq8 : (8 * x.toNat + q) % 8 = q := by omega
            rw [hq8] at HD
            generalize q * pw = r at *
            clear hq8 HP
            have HD' := HD.out
            clear HD
            by_cases h0 : 0 < j ∧ 8 * x.toNat + q = 0
            · rw [if_pos h0] at HD'
              subst HD'
              obtain rfl : x = false := by
                cases x with
                | false => rfl
                | true => simp at h0
              obtain rfl : q = 0 := by omega
              have hj0 : (0 : Int) < (j : Int) := by omega
              clear h0
              go_wp2_with fail
              go_ret3
              exact ⟨none, 0, rfl, Sl.ofNil _, Sl.ofNil _, Below.refl _ _⟩
            · rw [if_neg h0] at HD'
              by_cases hbig : 8000000 < m + r
              · rw [if_pos hbig] at HD'
                subst HD'
                have hb' : (8000000 : Int) < (m : Int) + (r : Int) := by omega
                clear hbig hYrow HP'
                cases x
                · by_cases hj0 : 0 < j
                  · have hj0' : (0 : Int) < (j : Int) := by omega
                    have hq0 : ¬ (q : Int) = 0 := by simp at h0; omega
                    clear h0 hj0
                    go_wp2_with fail
                    all_goals go_ret3
                    all_goals exact ⟨none, 0, rfl, Sl.ofNil _, Sl.ofNil _, Below.refl _ _⟩
                  · have hj0' : ¬ (0 : Int) < (j : Int) := by omega
                    clear h0 hj0
                    go_wp2_with fail
                    all_goals go_ret3
                    all_goals exact ⟨none, 0, rfl, Sl.ofNil _, Sl.ofNil _, Below.refl _ _⟩
                · clear h0
                  rcases abc j q with ⟨hj0, hq0⟩ | ⟨hj0, hq0⟩ | hj0
                  · rw [hq0, Int.zero_mul] at hmul
                    omega
                  all_goals (
                    go_wp2_with fail
                    all_goals go_ret3
                    all_goals exact ⟨none, 0, rfl, Sl.ofNil _, Sl.ofNil _, Below.refl _ _⟩)
              · rw [if_neg hbig] at HD'
                have hb' : ¬ (8000000 : Int) < (m : Int) + (r : Int) := by omega
                have tA := hide (Sl.tailA hYrow hle hmx)
                have tB := hide (fun h => Sl.tailB (w := w) (B := B) (off := off) hle h)
                have tA0 := hide (Sl.tailA hYrow0 hle hmx)
                have tB0 := hide (fun h => Sl.tailB (w := w0) (B := B) (off := off) hle h)
                have tC0 : Hid (Sl w0 (if G = 4 then some ⟨B, off, none⟩ else some ⟨B, off + 4, none⟩) (G - 4) (Y.map Value.bool)) := by
                  show Sl _ _ _ _
                  by_cases hG : G = 4
                  · rw [if_pos hG, hG]; exact tB0.out hG
                  · rw [if_neg hG]; exact tA0.out
                have tC : Hid (Sl w (if G = 4 then some ⟨B, off, none⟩ else some ⟨B, off + 4, none⟩) (G - 4) (Y.map Value.bool)) := by
                  show Sl _ _ _ _
                  by_cases hG : G = 4
                  · rw [if_pos hG, hG]; exact tB.out hG
                  · rw [if_neg hG]; exact tA.out
                clear hYrow hbig
                cases x
                · have hsure : (decide ((0 : Int) < (j : Int)) && ((q : Int) == 0)) = false := by
                    rw [Bool.eq_false_iff]; simp at h0 ⊢; omega
                  have hjq : ((0 : Int) < (j : Int) ∧ ¬ (q : Int) = 0) ∨ ¬ (0 : Int) < (j : Int) := by
                    simp at h0; omega
                  rw [if_pos (by simp; omega)] at HD'
                  clear hsure h0
                  by_cases hodd : (m + r) % 2 = 1
                  · have hodd' : ¬ ((m : Int) + (r : Int)) % 2 = 0 := by omega
                    have hu : unfoldN (m + r) = -(((m : Int) + (r : Int)) / 2 + 1) := by
                      unfold unfoldN
                      rw [if_pos hodd]; omega
                    rw [hu] at HD'
                    subst HD'
                    clear hu hodd HP'
                    rcases hjq with ⟨hj0, hq0⟩ | hj0
                    all_goals (
                      go_wp2_with fail
                      all_goals go_ret3
                      all_goals first
                        | exact ⟨_, _, rfl, tA.out, tA0.out, Below.refl _ _⟩
                        | exact ⟨_, _, rfl, tB.out (by omega), tB0.out (by omega), Below.refl _ _⟩)
                  · have hodd' : ((m : Int) + (r : Int)) % 2 = 0 := by omega
                    have hu : unfoldN (m + r) = ((m : Int) + (r : Int)) / 2 := by
                      unfold unfoldN
                      rw [if_neg hodd]; omega
                    rw [hu] at HD'
                    subst HD'
                    clear hu hodd HP'
                    rcases hjq with ⟨hj0, hq0⟩ | hj0
                    all_goals (
                      go_wp2_with fail
                      all_goals go_ret3
                      all_goals first
                        | exact ⟨_, _, rfl, tA.out, tA0.out, Below.refl _ _⟩
                        | exact ⟨_, _, rfl, tB.out (by omega), tB0.out (by omega), Below.refl _ _⟩)
                · rw [if_neg (by simp)] at HD'
                  have HD := hide HD'
                  clear HD' h0
                  rcases abc j q with ⟨hj0, hq0⟩ | ⟨hj0, hq0⟩ | hj0
                  · obtain rfl : q = 0 := by omega
                    obtain rfl : r = 0 := by simp at hmul; omega
                    clear hmul hq0 hple hb'
                    have hj9 : ¬ (8000000 : Int) < (m : Int) := by omega
                    go_wp2_with fail
                    all_goals go_round
                    all_goals first
                      | exact ⟨j + 1, m, _, pw * 8, _, Y, HP', by omega, by omega, rfl, by go_num, by go_num, by go_num, HD.out, tC.out, tC0.out⟩
                      | (simp [intOf]; omega)
                  all_goals (
                    go_wp2_with fail
                    all_goals go_round)
                  all_goals first
                    | exact ⟨j + 1, m + r, _, pw * 8, _, Y, HP', by omega, by omega, rfl, by go_num, by go_num, by go_num, HD.out, tC.out, tC0.out⟩
                    | (simp [intOf]; omega)
    · obtain rfl : j = 8 := by omega
      rw [Nat.sub_self, decode] at hdec
      subst hdec
      go_wp2_with fail
      go_ret3
      exact ⟨none, 0, rfl, Sl.ofNil _, Sl.ofNil _, Below.refl _ _⟩

/-- Decoded, whatever it is handed. -/
theorem decoded_any (ao : Option Addr) (cap : Nat) (l : List Bool) (w : World) (hr : Sl w ao cap (l.map Value.bool)) :
    Calls Try.prog 32 #[.slice ao l.length cap] w fun e w' =>
      ∃ a' G, e = .returned (.tuple #[.int .i64 (zigN l), .slice a' (zigR l).length G, .int .i64 (zigF l)]) ∧ Sl w' a' G ((zigR l).map Value.bool) ∧ Below w.heap.size w w' := by
  refine (decoded_two ao cap l w w hr hr).mono ?_
  rintro e' w' ⟨a', G, h, hs, _, bel⟩
  exact ⟨a', G, h, hs, bel⟩

end Go.Proofs.Ytpeeeealbfmklac
