/-
  bits.Put: what it returns, for every list, number and width; its answer lies in new memory; nothing that was there is written.
-/
import Derived.Test.YtpeeeealbfmklacSmall
import Derived.Laws.CopyOwn
namespace Go.Proofs.Ytpeeeealbfmklac
open Go.RowKit

theorem infoBool : (Try.prog.info? 4).map (fun i => (i.zero, i.size, i.bytes)) = some (some (.bool false), 1, 1) := by kernel_rfl
theorem infoInt : (Try.prog.info? 3).map (fun i => (i.zero, i.size, i.bytes)) = some (some (.int .i64 0), 1, 8) := by kernel_rfl

/-- What make has laid, as a block. -/
theorem madeBlk {w' : World} {g n : Nat} {z : Value} {t : TypeId} (h : w'.ownsRow g t 1 (.slice (some ⟨g, 0, none⟩) n n) n (madeCells #[z] n).toList) : Blk w' g (List.replicate n z) t := by
  rcases h.2 with ⟨h', _⟩ | ⟨g', cap', cur, h', _, hg, _, _, hs, htake⟩
  · simp at h'
  · simp only [Value.slice.injEq, Option.some.injEq, Addr.mk.injEq, and_true, true_and] at h'
    obtain ⟨rfl, rfl⟩ := h'
    unfold Blk
    rw [toList_madeCells_one] at htake
    rw [hg, ← htake, List.take_of_length_le (by simp [hs])]

set_option maxHeartbeats 1000000 in
set_option maxRecDepth 100000 in
theorem put_ok (ao : Option Addr) (cap : Nat) (l : List Bool) (n : Int) (k : Nat) (w : World) (hr : Row w ao (l.map Value.bool)) (hk : k ≤ 40) (hn : okN n k = true) (hl : l.length ≤ 140737488355200) :
    Calls Try.prog 38 #[.slice ao l.length cap, .int .i64 n, .int .i64 k] w fun e w' =>
      e = .returned (.tuple #[.slice (some ⟨w.heap.size, 0, none⟩) (l.length + k) (l.length + k), .int .i64 0]) ∧ Blk w' w.heap.size ((l ++ bitsOf n k).map Value.bool) 4 ∧ Below w.heap.size w w' := by
  have hw : okW (k : Int) = true := by unfold okW; simp; omega
  obtain ⟨i0, hi, hz0, hz1, hz2⟩ := info_parts infoBool
  go_enter Try.func38, Try.ntmps38
  go_wp2_with (first | (go_at_call 41; refine (widthFits_any _ _).mono ?_; rintro e w' ⟨rfl, rfl⟩) | (go_at_call 42; refine (numberFits_any _ _ _ hw).mono ?_; rintro e w' ⟨rfl, rfl⟩) | (at_make; refine wpList_make_full _ rfl (.tmp 22) (.tmp 22) 23 rfl w.heap.size 4 i0 (.bool false) 1 Try.underlying23 hi hz0 hz1 _ _ _ _ (l.length + k) rfl rfl (by omega) (by omega) (by rw [hz2]; omega) (by unfold maxLen; omega) (Nat.le_refl _) ?_))
  intro w1 hown hgrow
  have B0 := madeBlk hown
  have bel : Below w.heap.size w w1 := (Below.refl _ _).grown hgrow (Nat.le_refl _) (fun k h => by cases h)
  clear hown hgrow
  have hr1 := hr.keep bel (Nat.le_refl _)
  have hmin : (l.map Value.bool).length = Nat.min l.length (l.length + k) := by
    rw [List.length_map]; exact (Nat.min_eq_left (by omega)).symm
  have hone : ∀ v ∈ l.map Value.bool, v.oneCell' = true := by
    intro v hv
    obtain ⟨b, _, rfl⟩ := List.mem_map.1 hv
    rfl
  have hpos : 0 < (l.map Value.bool).length → some (⟨w.heap.size, 0, none⟩ : Addr) = some ⟨w.heap.size, 0, none⟩ ∧ ∃ ad, ao = some ad ∧ ∀ j v, (l.map Value.bool)[j]? = some v → w1.cell? (ad.add j) = some v := by
    intro h
    obtain ⟨b, off, e, _, hc⟩ := hr1.at (by intro e; rw [e] at h; simp at h)
    exact ⟨rfl, _, e, fun j v hv => by rw [Addr.add_lit]; exact hc j v hv⟩
  have hfit : 0 + (l.map Value.bool).length ≤ (List.replicate (l.length + k) (Value.bool false)).length := by simp
  have hsz : (Try.prog.info? 4).map (·.size) = some 1 := by rw [hi]; simp [hz1]
  obtain ⟨cs, hcs⟩ : ∃ cs, cs = l.map Value.bool := ⟨_, rfl⟩
  rw [← hcs] at hmin hone hpos hfit
  have HC : Hid (cs = l.map Value.bool) := hcs
  clear hcs
  go_wp2_with (refine wpList_copy_splice rfl (.tmp 24) (.tmp 25) 23 23 rfl 4 Try.underlying23 hsz _ _ _ _ _ _ rfl rfl w.heap.size 0 (List.replicate (l.length + k) (.bool false)) 4 B0 cs hmin hpos hfit hone w.heap.size w bel (Nat.le_refl _) ?_)
  intro w2 HG bel2
  have B1 : Blk w2 w.heap.size ((l ++ (bitsOf n k).take 0).map Value.bool ++ List.replicate (k - 0) (Value.bool false)) 4 := by
    have h := HG.out
    unfold Blk
    rw [h, HC.out]
    simp [splice]
  clear B0 HG bel hr hr1 hmin hone hpos hfit hsz hi hz0 hz1 hz2 HC
  have hN := (of_decide_eq_true hn : 0 ≤ n ∧ n < 2 ^ (k : Int).toNat)
  have hp := pow_le_40 k hk
  have hn0 : 0 ≤ n := hN.1
  have hn1 : n ≤ 1099511627776 := by
    have h2 := hN.2
    rw [Int.toNat_natCast] at h2
    omega
  clear hN hp hn
  go_wp2_with fail
  go_loopw [28] (fun i wr => ∃ j : Nat, j ≤ k ∧ i = .int .i64 j ∧ Blk wr w.heap.size ((l ++ (bitsOf n k).take j).map Value.bool ++ List.replicate (k - j) (Value.bool false)) 4 ∧ Below w.heap.size w wr) (fun i _ => k - (intOf i).toNat)
  case atStart => exact ⟨0, Nat.zero_le _, rfl, B1, bel2⟩
  case round =>
    obtain ⟨j, hj, rfl, B, bel⟩ := hrel
    by_cases hlt : j < k
    · have e1 : wr.cell? ⟨w.heap.size, l.length + j, none⟩ = some (.bool false) := by
        have hl : ((l ++ (bitsOf n k).take j).map Value.bool).length = l.length + j := by simp [length_bitsOf]; omega
        rw [B.cell, List.getElem?_append_right (by rw [hl]; exact Nat.le_refl _), hl, Nat.sub_self, List.getElem?_replicate, if_pos (by omega)]
      have e2 := B.free (l.length + j)
      clear B1 bel2
      go_wp2_with fail
      go_roundw
      case rel =>
        refine ⟨j + 1, by omega, by go_num, ?_, bel.setCell (Nat.le_refl _) _⟩
        have h := B.set (l.length + j) (.bool (bitAt n (k - 1 - j)))
        rw [put_step l n k j hlt] at h
        rw [bit_stored n (k - 1 - j) hn0 (by omega)]
        exact h
      case measure => simp [intOf]; omega
    · obtain rfl : j = k := by omega
      clear B1 bel2
      go_wp2_with fail
      go_ret2
      refine ⟨rfl, ?_, bel⟩
      have h := B
      rw [List.take_of_length_le (by rw [length_bitsOf]; exact Nat.le_refl _), Nat.sub_self, List.replicate_zero, List.append_nil] at h
      exact h

/-- A width or a number that may not be: nothing, and ErrRange. -/
theorem put_no (ao : Option Addr) (len cap : Nat) (n width : Int) (w : World) (h : okW width = false ∨ okN n width = false) :
    Calls Try.prog 38 #[.slice ao len cap, .int .i64 n, .int .i64 width] w fun e w' => e = .returned (.tuple #[.slice none 0 0, .int .i64 3]) ∧ w = w' := by
  cases hw : okW width with
  | false =>
    clear h
    go_enter Try.func38, Try.ntmps38
    go_wp2_with (go_at_call 41; refine (widthFits_any _ _).mono ?_; rintro e w' ⟨rfl, rfl⟩)
    go_ret2
    exact ⟨rfl, rfl⟩
  | true =>
    have hn : okN n width = false := by
      rcases h with h | h
      · rw [hw] at h; cases h
      · exact h
    clear h
    go_enter Try.func38, Try.ntmps38
    go_wp2_with (first | (go_at_call 41; refine (widthFits_any _ _).mono ?_; rintro e w' ⟨rfl, rfl⟩) | (go_at_call 42; refine (numberFits_any _ _ _ hw).mono ?_; rintro e w' ⟨rfl, rfl⟩))
    go_ret2
    exact ⟨rfl, rfl⟩

end Go.Proofs.Ytpeeeealbfmklac
