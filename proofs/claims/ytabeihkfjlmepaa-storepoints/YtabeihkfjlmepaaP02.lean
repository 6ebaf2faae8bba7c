/-
  line.inRange and line.Check: what they return; nothing that was there is written.
-/
import Derived.Laws.CopyOwn
import Derived.Test.YtabeihkfjlmepaaP01
namespace Go.Proofs.Ytabeihkfjlmepaa
open Go.RowKit

theorem inRange_any (x y : Int) (w : World) :
    Calls Try.prog 72 #[.agg #[.int .i64 x, .int .i64 y]] w fun e w' => e = .returned (.bool (ptOk (x, y))) ∧ Below w.heap.size w w' := by
  by_cases h1 : 0 ≤ x
  · by_cases h2 : x ≤ 100000
    · by_cases h3 : -1000000 ≤ y
      · by_cases h4 : y ≤ 1000000
        · have e : ptOk (x, y) = true := decide_eq_true ⟨h1, h2, h3, h4⟩
          rw [e]
          clear e
          go_enter Try.func72, Try.ntmps72
          go_wp2
          go_ret
          exact ⟨rfl, (Below.refl _ _).alloc (Nat.le_refl _) _⟩
        · have e : ptOk (x, y) = false := decide_eq_false (fun h => h4 h.2.2.2)
          rw [e]
          clear e
          go_enter Try.func72, Try.ntmps72
          go_wp2
          go_ret
          exact ⟨rfl, (Below.refl _ _).alloc (Nat.le_refl _) _⟩
      · have e : ptOk (x, y) = false := decide_eq_false (fun h => h3 h.2.2.1)
        rw [e]
        clear e
        go_enter Try.func72, Try.ntmps72
        go_wp2
        go_ret
        exact ⟨rfl, (Below.refl _ _).alloc (Nat.le_refl _) _⟩
    · have e : ptOk (x, y) = false := decide_eq_false (fun h => h2 h.2.1)
      rw [e]
      clear e
      go_enter Try.func72, Try.ntmps72
      go_wp2
      go_ret
      exact ⟨rfl, (Below.refl _ _).alloc (Nat.le_refl _) _⟩
  · have e : ptOk (x, y) = false := decide_eq_false (fun h => h1 h.1)
    rw [e]
    clear e
    go_enter Try.func72, Try.ntmps72
    go_wp2
    go_ret
    exact ⟨rfl, (Below.refl _ _).alloc (Nat.le_refl _) _⟩

set_option maxHeartbeats 1000000 in
set_option maxRecDepth 100000 in
theorem check_any (ao : Option Addr) (cap : Nat) (l : List Pt) (w : World) (hr : SlP w ao cap l) :
    Calls Try.prog 58 #[.slice ao l.length cap] w fun e w' => e = .returned (.int .i64 (checkE l)) ∧ Below w.heap.size w w' := by
  by_cases h40 : 40 < l.length
  · have h40' : (40 : Int) < l.length := by omega
    have e : checkE l = 2 := if_pos h40
    rw [e]
    clear e h40
    go_enter Try.func58, Try.ntmps58
    go_wp2
    go_ret
    exact ⟨rfl, Below.refl _ _⟩
  · have e : checkE l = chk (-1) l := if_neg h40
    rw [e]
    clear e
    obtain ⟨C, hC⟩ : ∃ C, C = chk (-1) l := ⟨_, rfl⟩
    rw [← hC]
    obtain ⟨n, hn⟩ : ∃ n, n = l.length := ⟨_, rfl⟩
    rw [← hn] at h40 ⊢
    have HL := hide hn
    have HC : Hid (C = chk (-1) (l.drop 0)) := by rw [List.drop_zero]; exact hC
    clear hn hC
    have h40' : ¬ (40 : Int) < (n : Int) := by omega
    go_enter Try.func58, Try.ntmps58
    go_wp2
    go_loopw [10] (fun i wr => ∃ (k : Nat) (last : Int), k ≤ n ∧ i = .int .i64 k ∧ Hid (C = chk last (l.drop k)) ∧ Hid ((k = 0 ∧ last = -1) ∨ ∃ j y, k = j + 1 ∧ l[j]? = some (last, y)) ∧ Below w.heap.size w wr) (fun i _ => n - (intOf i).toNat)
    case atStart => exact ⟨0, -1, by omega, rfl, HC, hide (.inl ⟨rfl, rfl⟩), Below.refl _ _⟩
    case round =>
      obtain ⟨k, last, hk, rfl, HR, HK, bel⟩ := hrel
      clear HC
      by_cases hlt : k < n
      · have hs := hr.keep bel (Nat.le_refl _)
        obtain ⟨b, off, rfl, hbw⟩ := hs.where (by intro h; rw [HL.out, h] at hlt; simp at hlt)
        obtain ⟨x, y, e0, e1, hx, hd⟩ := hs.pt k (by rw [← HL.out]; exact hlt)
        have HX := hide hx
        have HR' : Hid (C = chk last ((x, y) :: l.drop (k + 1))) := by have := HR.out; rw [hd] at this; exact this
        clear HR hx hd
        have inr : ∀ W : World, (wr.alloc (.cells #[.int .i64 x, .int .i64 y] 43)) = W → Calls Try.prog 72 #[.agg #[.int .i64 x, .int .i64 y]] W fun e w1 => e = .returned (.bool (ptOk (x, y))) ∧ Below w.heap.size w w1 ∧ w1.cell? ⟨wr.heap.size, 0, none⟩ = some (.int .i64 x) ∧ SlP w1 (some ⟨b, off, none⟩) cap l := by
          rintro W rfl
          refine (inRange_any x y _).mono ?_
          rintro e w1 ⟨rfl, b1⟩
          refine ⟨rfl, belowCall (bel.alloc bel.size _) b1, ?_, (hs.alloc _).call b1⟩
          rw [b1.cell (p := ⟨wr.heap.size, 0, none⟩) (by simp), World.cell?_alloc_at (hn := rfl)]
          rfl
        cases hp : ptOk (x, y) with
        | false =>
          rw [hp] at inr
          go_wp2_with (go_at_call 72; refine (inr _ rfl).mono ?_; rintro e w1 ⟨rfl, b1, -, -⟩)
          go_ret
          refine ⟨ret_int ?_, b1⟩
          rw [HR'.out, chk, if_pos hp]
        | true =>
          rw [hp] at inr
          rcases HK.out with ⟨rfl, rfl⟩ | ⟨j, yy, rfl, hj⟩
          · clear HK
            rw [Nat.zero_mul, Nat.add_zero] at e0 e1
            go_wp2_with (go_at_call 72; refine (inr _ rfl).mono ?_; rintro e w1 ⟨rfl, b1, c1, s1⟩)
            go_region
            all_goals go_wp2
            all_goals go_roundw
            case rel =>
              refine ⟨1, x, by omega, by go_num, hide ?_, hide (.inr ⟨0, y, rfl, HX.out⟩), belowDrew b1⟩
              rw [HR'.out, chk, if_neg (by rw [hp]; decide), if_neg (by have := (ptOk_true hp).1; simp only at this ⊢; omega)]
            case measure => simp [intOf]; omega
          · clear HK
            have hj' := hide hj
            clear hj
            by_cases hle : x ≤ last
            · go_wp2_with (go_at_call 72; refine (inr _ rfl).mono ?_; rintro e w1 ⟨rfl, b1, c1, s1⟩)
              obtain ⟨x', y', e2, -, h2, -⟩ := s1.pt j (by rw [← HL.out]; omega)
              obtain rfl : last = x' := by rw [hj'.out] at h2; simpa using (Prod.ext_iff.1 (Option.some.inj h2)).1
              clear h2
              go_region
              all_goals go_wp2
              all_goals go_ret
              refine ⟨ret_int ?_, belowDrew b1⟩
              rw [HR'.out, chk, if_neg (by rw [hp]; decide), if_pos hle]
            · go_wp2_with (go_at_call 72; refine (inr _ rfl).mono ?_; rintro e w1 ⟨rfl, b1, c1, s1⟩)
              obtain ⟨x', y', e2, -, h2, -⟩ := s1.pt j (by rw [← HL.out]; omega)
              obtain rfl : last = x' := by rw [hj'.out] at h2; simpa using (Prod.ext_iff.1 (Option.some.inj h2)).1
              clear h2
              go_region
              all_goals go_wp2
              all_goals go_roundw
              case rel =>
                refine ⟨j + 1 + 1, x, by omega, by go_num, hide ?_, hide (.inr ⟨j + 1, y, rfl, HX.out⟩), belowDrew b1⟩
                rw [HR'.out, chk, if_neg (by rw [hp]; decide), if_neg (by simp only; omega)]
              case measure => simp [intOf]; omega
      · obtain rfl : k = n := by omega
        go_wp2_with fail
        go_ret
        refine ⟨ret_int ?_, bel⟩
        rw [HR.out, HL.out, List.drop_length, chk]

end Go.Proofs.Ytabeihkfjlmepaa

/-
  The small functions: widthFits, numberFits of package bits: what each returns; none touches memory.
-/
namespace Go.Proofs.Ytabeihkfjlmepaa
open Go.RowKit

theorem widthFits_any (width : Int) (w : World) :
    Calls Try.prog 93 #[.int .i64 width] w fun e w' => e = .returned (.bool (okW width)) ∧ w = w' := by
  cases h : okW width with
  | true =>
    obtain ⟨h0, h1⟩ := okW_true h
    clear h
    go_enter Try.func93, Try.ntmps93
    go_wp2
    go_ret
    exact ⟨rfl, rfl⟩
  | false =>
    have h' := okW_false h
    clear h
    by_cases h0 : 0 ≤ width
    · have h1 : ¬ width ≤ 40 := by omega
      clear h'
      go_enter Try.func93, Try.ntmps93
      go_wp2
      go_ret
      exact ⟨rfl, rfl⟩
    · clear h'
      go_enter Try.func93, Try.ntmps93
      go_wp2
      go_ret
      exact ⟨rfl, rfl⟩

theorem numberFits_any (n width : Int) (w : World) (hw : okW width = true) :
    Calls Try.prog 94 #[.int .i64 n, .int .i64 width] w fun e w' => e = .returned (.bool (okN n width)) ∧ w = w' := by
  obtain ⟨h0, h1⟩ := okW_true hw
  clear hw
  by_cases hn : 0 ≤ n
  · rw [okN_shift hn]
    cases h : (n / 2 ^ width.toNat == 0) with
    | true =>
      go_enter Try.func94, Try.ntmps94
      go_wp2
      go_ret
      exact ⟨rfl, rfl⟩
    | false =>
      go_enter Try.func94, Try.ntmps94
      go_wp2
      go_ret
      exact ⟨rfl, rfl⟩
  · have e : okN n width = false := by unfold okN; simp; omega
    rw [e]
    clear e
    go_enter Try.func94, Try.ntmps94
    go_wp2
    go_ret
    exact ⟨rfl, rfl⟩

end Go.Proofs.Ytabeihkfjlmepaa

/-
  bits.Put: what it returns, for every list, number and width; its answer lies in new memory; nothing that was there is written.
-/
namespace Go.Proofs.Ytabeihkfjlmepaa
open Go.RowKit

theorem infoBool : (Try.prog.info? 4).map (fun i => (i.zero, i.size, i.bytes)) = some (some (.bool false), 1, 1) := by kernel_rfl
theorem infoInt : (Try.prog.info? 3).map (fun i => (i.zero, i.size, i.bytes)) = some (some (.int .i64 0), 1, 8) := by kernel_rfl

/-- What make has laid, as a block. -/
theorem madeBlk {w' : World} {g n : Nat} {z : Value} {t : TypeId} (h : w'.ownsRow g t 1 (.slice (some ⟨g, 0, none⟩) n n) n (madeCells #[z] n).toList) : Blk w' g (List.replicate n z) t := by
  rcases h.2 with ⟨h', _⟩ | ⟨g', cap', cur, h', _, hg, _, _, hs, htake⟩
  · simp at h'
  · simp only [Value.slice.injEq, Option.some.injEq, Addr.mk.injEq, and_true, true_and] at h'
    obtain ⟨rfl, rfl⟩ := h'
    unfold Blk
    rw [toList_madeCells_one] at htake
    rw [hg, ← htake, List.take_of_length_le (by simp [hs])]

set_option maxHeartbeats 1000000 in
set_option maxRecDepth 100000 in
theorem put_ok (ao : Option Addr) (cap : Nat) (l : List Bool) (n : Int) (k : Nat) (w : World) (hr : Row w ao (l.map Value.bool)) (hk : k ≤ 40) (hn : okN n k = true) (hl : l.length ≤ 140737488355200) :
    Calls Try.prog 89 #[.slice ao l.length cap, .int .i64 n, .int .i64 k] w fun e w' =>
      e = .returned (.tuple #[.slice (some ⟨w.heap.size, 0, none⟩) (l.length + k) (l.length + k), .int .i64 0]) ∧ Blk w' w.heap.size ((l ++ bitsOf n k).map Value.bool) 4 ∧ Below w.heap.size w w' := by
  have hw : okW (k : Int) = true := by unfold okW; simp; omega
  obtain ⟨i0, hi, hz0, hz1, hz2⟩ := info_parts infoBool
  go_enter Try.func89, Try.ntmps89
  go_wp2_with (first | (go_at_call 93; refine (widthFits_any _ _).mono ?_; rintro e w' ⟨rfl, rfl⟩) | (go_at_call 94; refine (numberFits_any _ _ _ hw).mono ?_; rintro e w' ⟨rfl, rfl⟩) | (at_make; refine wpList_make_full _ rfl (.tmp 22) (.tmp 22) 58 rfl w.heap.size 4 i0 (.bool false) 1 Try.underlying58 hi hz0 hz1 _ _ _ _ (l.length + k) rfl rfl (by omega) (by omega) (by rw [hz2]; omega) (by unfold maxLen; omega) (Nat.le_refl _) ?_))
  intro w1 hown hgrow
  have B0 := madeBlk hown
  have bel : Below w.heap.size w w1 := (Below.refl _ _).grown hgrow (Nat.le_refl _) (fun k h => by cases h)
  clear hown hgrow
  have hr1 := hr.keep bel (Nat.le_refl _)
  have hmin : (l.map Value.bool).length = Nat.min l.length (l.length + k) := by
    rw [List.length_map]; exact (Nat.min_eq_left (by omega)).symm
  have hone : ∀ v ∈ l.map Value.bool, v.oneCell' = true := by
    intro v hv
    obtain ⟨b, _, rfl⟩ := List.mem_map.1 hv
    rfl
  have hpos : 0 < (l.map Value.bool).length → some (⟨w.heap.size, 0, none⟩ : Addr) = some ⟨w.heap.size, 0, none⟩ ∧ ∃ ad, ao = some ad ∧ ∀ j v, (l.map Value.bool)[j]? = some v → w1.cell? (ad.add j) = some v := by
    intro h
    obtain ⟨b, off, e, _, hc⟩ := hr1.at (by intro e; rw [e] at h; simp at h)
    exact ⟨rfl, _, e, fun j v hv => by rw [Addr.add_lit]; exact hc j v hv⟩
  have hfit : 0 + (l.map Value.bool).length ≤ (List.replicate (l.length + k) (Value.bool false)).length := by simp
  have hsz : (Try.prog.info? 4).map (·.size) = some 1 := by rw [hi]; simp [hz1]
  obtain ⟨cs, hcs⟩ : ∃ cs, cs = l.map Value.bool := ⟨_, rfl⟩
  rw [← hcs] at hmin hone hpos hfit
  have HC : Hid (cs = l.map Value.bool) := hcs
  clear hcs
  go_wp2_with (refine wpList_copy_splice rfl (.tmp 24) (.tmp 25) 58 58 rfl 4 Try.underlying58 hsz _ _ _ _ _ _ rfl rfl w.heap.size 0 (List.replicate (l.length + k) (.bool false)) 4 B0 cs hmin hpos hfit hone w.heap.size w bel (Nat.le_refl _) ?_)
  intro w2 HG bel2
  have B1 : Blk w2 w.heap.size ((l ++ (bitsOf n k).take 0).map Value.bool ++ List.replicate (k - 0) (Value.bool false)) 4 := by
    have h := HG.out
    unfold Blk
    rw [h, HC.out]
    simp [splice]
  clear B0 HG bel hr hr1 hmin hone hpos hfit hsz hi hz0 hz1 hz2 HC
  have hN := (of_decide_eq_true hn : 0 ≤ n ∧ n < 2 ^ (k : Int).toNat)
  have hp := pow_le_40 k hk
  have hn0 : 0 ≤ n := hN.1
  have hn1 : n ≤ 1099511627776 := by
    have h2 := hN.2
    rw [Int.toNat_natCast] at h2
    omega
  clear hN hp hn
  go_wp2_with fail
  go_loopw [28] (fun i wr => ∃ j : Nat, j ≤ k ∧ i = .int .i64 j ∧ Blk wr w.heap.size ((l ++ (bitsOf n k).take j).map Value.bool ++ List.replicate (k - j) (Value.bool false)) 4 ∧ Below w.heap.size w wr) (fun i _ => k - (intOf i).toNat)
  case atStart => exact ⟨0, Nat.zero_le _, rfl, B1, bel2⟩
  case round =>
    obtain ⟨j, hj, rfl, B, bel⟩ := hrel
    by_cases hlt : j < k
    · have e1 : wr.cell? ⟨w.heap.size, l.length + j, none⟩ = some (.bool false) := by
        have hl : ((l ++ (bitsOf n k).take j).map Value.bool).length = l.length + j := by simp [length_bitsOf]; omega
        rw [B.cell, List.getElem?_append_right (by rw [hl]; exact Nat.le_refl _), hl, Nat.sub_self, List.getElem?_replicate, if_pos (by omega)]
      have e2 := B.free (l.length + j)
      clear B1 bel2
      go_wp2_with fail
      go_roundw
      case rel =>
        refine ⟨j + 1, by omega, by go_num, ?_, bel.setCell (Nat.le_refl _) _⟩
        have h := B.set (l.length + j) (.bool (bitAt n (k - 1 - j)))
        rw [put_step l n k j hlt] at h
        rw [bit_stored n (k - 1 - j) hn0 (by omega)]
        exact h
      case measure => simp [intOf]; omega
    · obtain rfl : j = k := by omega
      clear B1 bel2
      go_wp2_with fail
      go_ret2
      refine ⟨rfl, ?_, bel⟩
      have h := B
      rw [List.take_of_length_le (by rw [length_bitsOf]; exact Nat.le_refl _), Nat.sub_self, List.replicate_zero, List.append_nil] at h
      exact h

/-- A width or a number that may not be: nothing, and ErrRange. -/
theorem put_no (ao : Option Addr) (len cap : Nat) (n width : Int) (w : World) (h : okW width = false ∨ okN n width = false) :
    Calls Try.prog 89 #[.slice ao len cap, .int .i64 n, .int .i64 width] w fun e w' => e = .returned (.tuple #[.slice none 0 0, .int .i64 3]) ∧ w = w' := by
  cases hw : okW width with
  | false =>
    clear h
    go_enter Try.func89, Try.ntmps89
    go_wp2_with (go_at_call 93; refine (widthFits_any _ _).mono ?_; rintro e w' ⟨rfl, rfl⟩)
    go_ret2
    exact ⟨rfl, rfl⟩
  | true =>
    have hn : okN n width = false := by
      rcases h with h | h
      · rw [hw] at h; cases h
      · exact h
    clear h
    go_enter Try.func89, Try.ntmps89
    go_wp2_with (first | (go_at_call 93; refine (widthFits_any _ _).mono ?_; rintro e w' ⟨rfl, rfl⟩) | (go_at_call 94; refine (numberFits_any _ _ _ hw).mono ?_; rintro e w' ⟨rfl, rfl⟩))
    go_ret2
    exact ⟨rfl, rfl⟩

end Go.Proofs.Ytabeihkfjlmepaa

/-
  bits.Take: what it returns, for every list and width; the bits behind lie in new memory; nothing that was there is written.
-/
namespace Go.Proofs.Ytabeihkfjlmepaa
open Go.RowKit

set_option maxHeartbeats 1000000 in
set_option maxRecDepth 100000 in
theorem take_nil (ao : Option Addr) (cap : Nat) (w : World) :
    Calls Try.prog 91 #[.slice ao 0 cap, .int .i64 0] w fun e w' =>
      e = .returned (.tuple #[.int .i64 0, .slice (some ⟨w.heap.size, 0, none⟩) 0 0, .int .i64 0]) ∧ Blk w' w.heap.size [] 4 ∧ Below w.heap.size w w' := by
  have hw : okW 0 = true := by decide
  obtain ⟨i0, hi, hz0, hz1, hz2⟩ := info_parts infoBool
  have hsz : (Try.prog.info? 4).map (·.size) = some 1 := by rw [hi]; simp [hz1]
  go_enter Try.func91, Try.ntmps91
  go_wp2_with (go_at_call 93; refine (widthFits_any _ _).mono ?_; rintro e w' ⟨rfl, rfl⟩)
  refine wp_loop_rounds 1 ?_
  rw [rounds_succ]
  go_wp2_with (at_make; refine wpList_make_full _ rfl (.tmp 35) (.tmp 35) 58 rfl w.heap.size 4 i0 (.bool false) 1 Try.underlying58 hi hz0 hz1 _ _ _ _ 0 rfl rfl rfl rfl (by rw [hz2]; omega) (by unfold maxLen; omega) (Nat.le_refl _) ?_)
  intro w1 hown hgrow
  have B0 : Blk w1 w.heap.size [] 4 := madeBlk (z := .bool false) hown
  have bel : Below w.heap.size w w1 := (Below.refl _ _).grown hgrow (Nat.le_refl _) (fun k h => by cases h)
  clear hown hgrow
  go_wp2_with (refine wpList_copy_nothing rfl (.tmp 37) (.tmp 40) 58 58 rfl 4 Try.underlying58 hsz _ _ _ _ _ _ rfl rfl rfl ?_)
  all_goals go_ret3
  all_goals exact ⟨rfl, B0, bel⟩

set_option maxHeartbeats 1000000 in
set_option maxRecDepth 100000 in
theorem take_ok (ao : Option Addr) (cap : Nat) (l : List Bool) (k : Nat) (w : World) (hr : Row w ao (l.map Value.bool)) (hk : k ≤ 40) (hkl : k ≤ l.length) (hl : l.length ≤ 140737488355328) (hc : l.length ≤ cap) (hc2 : cap ≤ 9223372036854775807) :
    Calls Try.prog 91 #[.slice ao l.length cap, .int .i64 k] w fun e w' =>
      e = .returned (.tuple #[.int .i64 (numOf (l.take k)), .slice (some ⟨w.heap.size, 0, none⟩) (l.length - k) (l.length - k), .int .i64 0]) ∧ Blk w' w.heap.size ((l.drop k).map Value.bool) 4 ∧ Below w.heap.size w w' := by
  have hw : okW (k : Int) = true := by unfold okW; simp; omega
  obtain ⟨i0, hi, hz0, hz1, hz2⟩ := info_parts infoBool
  have hge : ¬ (l.length : Int) < (k : Int) := by omega
  rcases hr with hnil | ⟨b, off, rfl, hb, hcell⟩
  · obtain rfl : l = [] := by simpa using hnil
    obtain rfl : k = 0 := by simpa using hkl
    clear hnil hkl hge hl hc hw
    have h := take_nil ao cap w
    refine h.mono fun e w' ⟨he, hb, hbel⟩ => ⟨by rw [he]; rfl, hb, hbel⟩
  have g := fun j hj => boolAt hcell j hj
  go_enter Try.func91, Try.ntmps91
  go_wp2_with (go_at_call 93; refine (widthFits_any _ _).mono ?_; rintro e w' ⟨rfl, rfl⟩)
  go_loop [7, 22] (fun n i => ∃ j : Nat, j ≤ k ∧ i = .int .i64 j ∧ n = .int .i64 (numOf (l.take j))) (fun _ i => k - (intOf i).toNat)
  case atStart => exact ⟨0, Nat.zero_le _, rfl, rfl⟩
  case round =>
    obtain ⟨j, hj, rfl, rfl⟩ := hrel
    by_cases hlt : j < k
    · have e1 := g j (by omega)
      have hN := numOf_take l j (by omega)
      have hM : numOf (l.take j) < 549755813888 := by
        have h1 := numOf_take_lt l j
        have h2 := pow_le_nat j 39 (by omega)
        omega
      generalize numOf (l.take j) = m at *
      generalize l.getD j false = x at *
      have HN : Hid (numOf (l.take (j + 1)) = 2 * m + x.toNat) := hN
      clear hN g hcell
      have ho := or_one m (by omega)
      cases x
      · go_wp2_with fail
        go_round
        case rel => exact ⟨j + 1, by omega, by go_num, by rw [HN.out]; simp; omega⟩
        case measure => simp [intOf]; omega
      · go_wp2_with fail
        go_round
        case rel => exact ⟨j + 1, by omega, by go_num, by rw [HN.out]; simp; omega⟩
        case measure => simp [intOf]; omega
    · obtain rfl : j = k := by omega
      clear g
      go_wp2_with (at_make; refine wpList_make_full _ rfl (.tmp 35) (.tmp 35) 58 rfl w.heap.size 4 i0 (.bool false) 1 Try.underlying58 hi hz0 hz1 _ _ _ _ (l.length - j) rfl rfl (by omega) (by omega) (by rw [hz2]; omega) (by unfold maxLen; omega) (Nat.le_refl _) ?_)
      intro w1 hown hgrow
      have B0 := madeBlk hown
      have bel : Below w.heap.size w w1 := (Below.refl _ _).grown hgrow (Nat.le_refl _) (fun k h => by cases h)
      clear hown hgrow
      have hdl : (l.drop j).length = l.length - j := List.length_drop
      have hmin : ((l.drop j).map Value.bool).length = Nat.min (l.length - j) (l.length - j) := by
        rw [List.length_map, hdl]; exact (Nat.min_self _).symm
      have hone : ∀ v ∈ (l.drop j).map Value.bool, v.oneCell' = true := by
        intro v hv
        obtain ⟨b, _, rfl⟩ := List.mem_map.1 hv
        rfl
      have hfit : 0 + ((l.drop j).map Value.bool).length ≤ (List.replicate (l.length - j) (Value.bool false)).length := by simp
      have hsz : (Try.prog.info? 4).map (·.size) = some 1 := by rw [hi]; simp [hz1]
      have hsrc : ∀ t v, ((l.drop j).map Value.bool)[t]? = some v → w1.cell? ((⟨b, off + j, none⟩ : Addr).add t) = some v := by
        intro t v hv
        rw [Addr.add_lit, Nat.add_assoc, bel.cell (p := ⟨b, off + (j + t), none⟩) hb]
        refine hcell (j + t) v ?_
        rw [List.getElem?_map, List.getElem?_drop] at hv
        rw [List.getElem?_map]
        exact hv
      have hend : ∀ w2 : World, w2.heap[w.heap.size]? = some (.cells (splice (List.replicate (l.length - j) (Value.bool false)) 0 ((l.drop j).map Value.bool)).toArray 4 (0, 0)) → Blk w2 w.heap.size ((l.drop j).map Value.bool) 4 := by
        intro w2 h
        unfold Blk
        rw [h]
        simp [splice]
      have hz : cap = j → ¬ 0 < ((l.drop j).map Value.bool).length := by
        intro h; simp; omega
      clear hdl hcell
      obtain ⟨cs, hcs⟩ : ∃ cs, cs = (l.drop j).map Value.bool := ⟨_, rfl⟩
      rw [← hcs] at hmin hone hfit hsrc hz
      have HE : Hid (∀ w2 : World, w2.heap[w.heap.size]? = some (.cells (splice (List.replicate (l.length - j) (Value.bool false)) 0 cs).toArray 4 (0, 0)) → Blk w2 w.heap.size ((l.drop j).map Value.bool) 4) := by
        rw [hcs]; exact hend
      clear hend hcs
      by_cases hcj : cap = j
      · have hz' := hz hcj
        clear hz hsrc
        go_wp2_with (refine wpList_copy_splice rfl (.tmp 37) (.tmp 40) 58 58 rfl 4 Try.underlying58 hsz _ _ _ _ _ _ rfl rfl w.heap.size 0 (List.replicate (l.length - j) (.bool false)) 4 B0 cs hmin (fun h => absurd h hz') hfit hone w.heap.size w bel (Nat.le_refl _) ?_)
        intro w2 HG bel2
        go_wp2_with fail
        go_ret3
        exact ⟨rfl, HE.out w2 HG.out, bel2⟩
      · clear hz
        go_wp2_with (refine wpList_copy_splice rfl (.tmp 37) (.tmp 40) 58 58 rfl 4 Try.underlying58 hsz _ _ _ _ _ _ rfl rfl w.heap.size 0 (List.replicate (l.length - j) (.bool false)) 4 B0 cs hmin (fun _ => ⟨rfl, _, rfl, hsrc⟩) hfit hone w.heap.size w bel (Nat.le_refl _) ?_)
        intro w2 HG bel2
        go_wp2_with fail
        go_ret3
        exact ⟨rfl, HE.out w2 HG.out, bel2⟩

/-- A width that may not be: nothing, and ErrRange. -/
theorem take_range (ao : Option Addr) (len cap : Nat) (width : Int) (w : World) (h : okW width = false) :
    Calls Try.prog 91 #[.slice ao len cap, .int .i64 width] w fun e w' => e = .returned (.tuple #[.int .i64 0, .slice none 0 0, .int .i64 3]) ∧ w = w' := by
  go_enter Try.func91, Try.ntmps91
  go_wp2_with (go_at_call 93; refine (widthFits_any _ _).mono ?_; rintro e w' ⟨rfl, rfl⟩)
  go_ret3
  exact ⟨rfl, rfl⟩

/-- Fewer bits than are asked: nothing, and ErrTorn. -/
theorem take_torn (ao : Option Addr) (len cap : Nat) (width : Int) (w : World) (h : okW width = true) (hlt : (len : Int) < width) :
    Calls Try.prog 91 #[.slice ao len cap, .int .i64 width] w fun e w' => e = .returned (.tuple #[.int .i64 0, .slice none 0 0, .int .i64 8]) ∧ w = w' := by
  go_enter Try.func91, Try.ntmps91
  go_wp2_with (go_at_call 93; refine (widthFits_any _ _).mono ?_; rintro e w' ⟨rfl, rfl⟩)
  go_ret3
  exact ⟨rfl, rfl⟩

end Go.Proofs.Ytabeihkfjlmepaa

/-
  Put and Take of package bits, whatever they are handed.
-/
namespace Go.Proofs.Ytabeihkfjlmepaa
open Go.RowKit

theorem bools_one (l : List Bool) : ∀ v ∈ l.map Value.bool, v.oneCell' = true := by
  intro v hv
  obtain ⟨b, _, rfl⟩ := List.mem_map.1 hv
  rfl

/-- Put, whatever it is handed. -/
theorem put_any (ao : Option Addr) (cap : Nat) (l : List Bool) (n width : Int) (w : World) (hr : Sl w ao cap (l.map Value.bool)) (hl : l.length ≤ 140737488351232) :
    Calls Try.prog 89 #[.slice ao l.length cap, .int .i64 n, .int .i64 width] w fun e w' =>
      ∃ a' G, e = .returned (.tuple #[.slice a' (putL l n width).length G, .int .i64 (putE n width)]) ∧ Sl w' a' G ((putL l n width).map Value.bool) ∧ Below w.heap.size w w' := by
  cases hw : okW width with
  | false =>
    have e : putOk n width = false := by simp [putOk, hw]
    refine (put_no ao l.length cap n width w (.inl hw)).mono ?_
    rintro e' w' ⟨rfl, rfl⟩
    exact ⟨none, 0, by simp [putL, putE, e], by simpa [putL, e] using Sl.ofNil w, Below.refl _ _⟩
  | true =>
    cases hn : okN n width with
    | false =>
      have e : putOk n width = false := by simp [putOk, hn]
      refine (put_no ao l.length cap n width w (.inr hn)).mono ?_
      rintro e' w' ⟨rfl, rfl⟩
      exact ⟨none, 0, by simp [putL, putE, e], by simpa [putL, e] using Sl.ofNil w, Below.refl _ _⟩
    | true =>
      have e : putOk n width = true := by simp [putOk, hw, hn]
      obtain ⟨h0, h1⟩ := okW_true hw
      obtain ⟨k, rfl⟩ := Int.eq_ofNat_of_zero_le h0
      refine (put_ok ao cap l n k w hr.row (by omega) hn (by omega)).mono ?_
      rintro e' w' ⟨rfl, B, hb⟩
      have hlen : ((l ++ bitsOf n k).map Value.bool).length = l.length + k := by simp [length_bitsOf]
      have hs := Sl.ofBlk B (by omega)
      rw [hlen] at hs
      exact ⟨some ⟨w.heap.size, 0, none⟩, l.length + k, by simp [putL, putE, e, length_bitsOf], by simpa [putL, e] using hs, hb⟩

/-- Take, whatever it is handed. -/
theorem take_any (ao : Option Addr) (cap : Nat) (l : List Bool) (width : Int) (w : World) (hr : Sl w ao cap (l.map Value.bool)) (hl : l.length ≤ 140737488355328) :
    Calls Try.prog 91 #[.slice ao l.length cap, .int .i64 width] w fun e w' =>
      ∃ a' G, e = .returned (.tuple #[.int .i64 (takeN l width), .slice a' (takeL l width).length G, .int .i64 (takeE l width)]) ∧ Sl w' a' G ((takeL l width).map Value.bool) ∧ Below w.heap.size w w' := by
  cases hw : okW width with
  | false =>
    have e : takeOk l width = false := by simp [takeOk, hw]
    refine (take_range ao l.length cap width w hw).mono ?_
    rintro e' w' ⟨rfl, rfl⟩
    exact ⟨none, 0, by simp [takeL, takeE, takeN, e, hw], by simpa [takeL, e] using Sl.ofNil w, Below.refl _ _⟩
  | true =>
    by_cases hn : width ≤ l.length
    · have e : takeOk l width = true := by simp [takeOk, hw, hn]
      obtain ⟨h0, h1⟩ := okW_true hw
      obtain ⟨k, rfl⟩ := Int.eq_ofNat_of_zero_le h0
      have hle := hr.le
      rw [List.length_map] at hle
      refine (take_ok ao cap l k w hr.row (by omega) (by omega) hl hle hr.max).mono ?_
      rintro e' w' ⟨rfl, B, hb⟩
      have hlen : ((l.drop k).map Value.bool).length = l.length - k := by simp
      have hs := Sl.ofBlk B (by omega)
      rw [hlen] at hs
      exact ⟨some ⟨w.heap.size, 0, none⟩, l.length - k, by simp [takeL, takeE, takeN, e], by simpa [takeL, e] using hs, hb⟩
    · have e : takeOk l width = false := by simp [takeOk, hn]
      refine (take_torn ao l.length cap width w hw (by omega)).mono ?_
      rintro e' w' ⟨rfl, rfl⟩
      exact ⟨none, 0, by simp [takeL, takeE, takeN, e, hw], by simpa [takeL, e] using Sl.ofNil w, Below.refl _ _⟩

end Go.Proofs.Ytabeihkfjlmepaa
