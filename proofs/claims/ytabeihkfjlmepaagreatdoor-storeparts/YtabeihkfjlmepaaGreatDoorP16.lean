/-
  How an argument that is a slice of records is opened: each with its entries.
-/
import Derived.Laws.CopyOwn
import Derived.Test.YtabeihkfjlmepaaGreatDoorP03
import Derived.Test.YtabeihkfjlmepaaGreatDoorP06
import Derived.Test.YtabeihkfjlmepaaGreatDoorP01
namespace Go.Proofs.YtabeihkfjlmepaaGreatDoor
open Go.RowKit Go.ChangeShapes Go.WideShapes Go.ChangeAt Go.Joins

theorem four_of {α : Type} {l : List α} (h : l.length = 4) : ∃ a b c d, l = [a, b, c, d] := by
  match l, h with
  | [a, b, c, d], _ => exact ⟨a, b, c, d, rfl⟩

set_option maxRecDepth 100000 in
theorem cellsEs : Tryz.prog.cellsOf 25 = 1 := by kernel_rfl

set_option maxRecDepth 100000 in
theorem open_lrc {H : Type} {enc : TypeId × Value → H} {W : World} (cs : List Value) (x : DataW H × List MemPlace) (m : Nat) (hl : cs.length = 4) (h : DataW.trod enc Tryz.prog W 0 (fun _ => true) true m 27 cs = some x) (hw : Light 27 x.1) :
    ∃ y : Lrc, cs = y.cells ∧ SlW ec W y.a y.c y.r.e := by
  obtain ⟨c0, c1, c2, c3, rfl⟩ := four_of hl
  obtain ⟨y0, y1, y2, y3, n, rfl, _, h0, h1, h2, h3⟩ := trod_struct4 Tryz.underlying27 h
  simp only [cellsInt, cellsEs, List.drop_zero, List.drop_succ_cons, List.take_succ_cons, List.take_zero] at h0 h1 h2 h3
  obtain ⟨a0, e0, rfl, w0⟩ := DataW.trod_int Tryz.underlying3 h0
  obtain ⟨a1, e1, rfl, w1⟩ := DataW.trod_int Tryz.underlying3 h1
  obtain ⟨a2, e2, rfl, w2⟩ := DataW.trod_int Tryz.underlying3 h2
  obtain ⟨ao, k, cap, e3⟩ := slice_form Tryz.underlying25 h3
  simp at e0 e1 e2 e3
  subst e0 e1 e2 e3
  have hw3 : Light 25 y3.1 := by
    intro n hn
    refine hw n ?_
    simp [DataW.weights, DataW.weightsEach, Tryz.underlying27, hn]
  obtain ⟨l, hl, s, _, _⟩ := open_wide (ao := ao) (n := k) (cap := cap) ec (fun _ => True) Tryz.underlying25 (by kernel_rfl) (by decide) ec_three (fun cs x m => open_nt cs x m) (by simpa [Value.cells] using h3) hw3
  subst hl
  exact ⟨⟨⟨a0, a1, a2, l⟩, ao, cap⟩, rfl, s⟩

set_option maxRecDepth 100000 in
theorem open_recs {H : Type} {enc : TypeId × Value → H} {W : World} {ao : Option Addr} {n cap : Nat} {d : DataW H} {ps : List MemPlace}
    (h : DataW.Trod enc Tryz.prog W 0 (fun _ => true) true 33 (.slice ao n cap) d ps) (hw : Light 33 d) :
    ∃ l : List Lrc, l.length = n ∧ SlRec W ao cap l ∧ cap * 48 ≤ 140737488351232 := by
  obtain ⟨fuel, hf⟩ := h
  obtain ⟨l, hl, s, g, r⟩ := open_wide (ao := ao) (n := n) (cap := cap) Lrc.cells (fun y => SlW ec W y.a y.c y.r.e) Tryz.underlying33 cellsRec (by decide) Lrc.four (fun cs x m => open_lrc cs x m) (by simpa [Value.cells] using hf) hw
  rw [show Tryz.prog.bytesOf 27 = 48 by kernel_rfl] at r
  exact ⟨l, hl, ⟨s, g⟩, r⟩

end Go.Proofs.YtabeihkfjlmepaaGreatDoor

/-
  The small functions: widthFits, numberFits of package bits: what each returns; none touches memory.
-/
namespace Go.Proofs.YtabeihkfjlmepaaGreatDoor
open Go.RowKit

theorem widthFits_any (width : Int) (w : World) :
    Calls Tryz.prog 167 #[.int .i64 width] w fun e w' => e = .returned (.bool (okW width)) ∧ w = w' := by
  cases h : okW width with
  | true =>
    obtain ⟨h0, h1⟩ := okW_true h
    clear h
    go_enter Tryz.func167, Tryz.ntmps167
    go_wp2
    go_ret
    exact ⟨rfl, rfl⟩
  | false =>
    have h' := okW_false h
    clear h
    by_cases h0 : 0 ≤ width
    · have h1 : ¬ width ≤ 40 := by omega
      clear h'
      go_enter Tryz.func167, Tryz.ntmps167
      go_wp2
      go_ret
      exact ⟨rfl, rfl⟩
    · clear h'
      go_enter Tryz.func167, Tryz.ntmps167
      go_wp2
      go_ret
      exact ⟨rfl, rfl⟩

theorem numberFits_any (n width : Int) (w : World) (hw : okW width = true) :
    Calls Tryz.prog 168 #[.int .i64 n, .int .i64 width] w fun e w' => e = .returned (.bool (okN n width)) ∧ w = w' := by
  obtain ⟨h0, h1⟩ := okW_true hw
  clear hw
  by_cases hn : 0 ≤ n
  · rw [okN_shift hn]
    cases h : (n / 2 ^ width.toNat == 0) with
    | true =>
      go_enter Tryz.func168, Tryz.ntmps168
      go_wp2
      go_ret
      exact ⟨rfl, rfl⟩
    | false =>
      go_enter Tryz.func168, Tryz.ntmps168
      go_wp2
      go_ret
      exact ⟨rfl, rfl⟩
  · have e : okN n width = false := by unfold okN; simp; omega
    rw [e]
    clear e
    go_enter Tryz.func168, Tryz.ntmps168
    go_wp2
    go_ret
    exact ⟨rfl, rfl⟩

end Go.Proofs.YtabeihkfjlmepaaGreatDoor

/-
  bits.Put: what it returns, for every list, number and width; its answer lies in new memory; nothing that was there is written.
-/
namespace Go.Proofs.YtabeihkfjlmepaaGreatDoor
open Go.RowKit

theorem infoBool : (Tryz.prog.info? 4).map (fun i => (i.zero, i.size, i.bytes)) = some (some (.bool false), 1, 1) := by kernel_rfl
theorem infoInt : (Tryz.prog.info? 3).map (fun i => (i.zero, i.size, i.bytes)) = some (some (.int .i64 0), 1, 8) := by kernel_rfl

/-- What make has laid, as a block. -/
theorem madeBlk {w' : World} {g n : Nat} {z : Value} {t : TypeId} (h : w'.ownsRow g t 1 (.slice (some ⟨g, 0, none⟩) n n) n (madeCells #[z] n).toList) : Blk w' g (List.replicate n z) t := by
  rcases h.2 with ⟨h', _⟩ | ⟨g', cap', cur, h', _, hg, _, _, hs, htake⟩
  · simp at h'
  · simp only [Value.slice.injEq, Option.some.injEq, Addr.mk.injEq, and_true, true_and] at h'
    obtain ⟨rfl, rfl⟩ := h'
    unfold Blk
    rw [toList_madeCells_one] at htake
    rw [hg, ← htake, List.take_of_length_le (by simp [hs])]

set_option maxHeartbeats 1000000 in
set_option maxRecDepth 100000 in
theorem put_ok (ao : Option Addr) (cap : Nat) (l : List Bool) (n : Int) (k : Nat) (w : World) (hr : Row w ao (l.map Value.bool)) (hk : k ≤ 40) (hn : okN n k = true) (hl : l.length ≤ 140737488355200) :
    Calls Tryz.prog 162 #[.slice ao l.length cap, .int .i64 n, .int .i64 k] w fun e w' =>
      e = .returned (.tuple #[.slice (some ⟨w.heap.size, 0, none⟩) (l.length + k) (l.length + k), .int .i64 0]) ∧ Blk w' w.heap.size ((l ++ bitsOf n k).map Value.bool) 4 ∧ Below w.heap.size w w' := by
  have hw : okW (k : Int) = true := by unfold okW; simp; omega
  obtain ⟨i0, hi, hz0, hz1, hz2⟩ := info_parts infoBool
  go_enter Tryz.func162, Tryz.ntmps162
  go_wp2_with (first | (go_at_call 167; refine (widthFits_any _ _).mono ?_; rintro e w' ⟨rfl, rfl⟩) | (go_at_call 168; refine (numberFits_any _ _ _ hw).mono ?_; rintro e w' ⟨rfl, rfl⟩) | (at_make; refine wpList_make_full _ rfl (.tmp 22) (.tmp 22) 111 rfl w.heap.size 4 i0 (.bool false) 1 Tryz.underlying111 hi hz0 hz1 _ _ _ _ (l.length + k) rfl rfl (by omega) (by omega) (by rw [hz2]; omega) (by unfold maxLen; omega) (Nat.le_refl _) ?_))
  intro w1 hown hgrow
  have B0 := madeBlk hown
  have bel : Below w.heap.size w w1 := (Below.refl _ _).grown hgrow (Nat.le_refl _) (fun k h => by cases h)
  clear hown hgrow
  have hr1 := hr.keep bel (Nat.le_refl _)
  have hmin : (l.map Value.bool).length = Nat.min l.length (l.length + k) := by
    rw [List.length_map]; exact (Nat.min_eq_left (by omega)).symm
  have hone : ∀ v ∈ l.map Value.bool, v.oneCell' = true := by
    intro v hv
    obtain ⟨b, _, rfl⟩ := List.mem_map.1 hv
    rfl
  have hpos : 0 < (l.map Value.bool).length → some (⟨w.heap.size, 0, none⟩ : Addr) = some ⟨w.heap.size, 0, none⟩ ∧ ∃ ad, ao = some ad ∧ ∀ j v, (l.map Value.bool)[j]? = some v → w1.cell? (ad.add j) = some v := by
    intro h
    obtain ⟨b, off, e, _, hc⟩ := hr1.at (by intro e; rw [e] at h; simp at h)
    exact ⟨rfl, _, e, fun j v hv => by rw [Addr.add_lit]; exact hc j v hv⟩
  have hfit : 0 + (l.map Value.bool).length ≤ (List.replicate (l.length + k) (Value.bool false)).length := by simp
  have hsz : (Tryz.prog.info? 4).map (·.size) = some 1 := by rw [hi]; simp [hz1]
  obtain ⟨cs, hcs⟩ : ∃ cs, cs = l.map Value.bool := ⟨_, rfl⟩
  rw [← hcs] at hmin hone hpos hfit
  have HC : Hid (cs = l.map Value.bool) := hcs
  clear hcs
  go_wp2_with (refine wpList_copy_splice rfl (.tmp 24) (.tmp 25) 111 111 rfl 4 Tryz.underlying111 hsz _ _ _ _ _ _ rfl rfl w.heap.size 0 (List.replicate (l.length + k) (.bool false)) 4 B0 cs hmin hpos hfit hone w.heap.size w bel (Nat.le_refl _) ?_)
  intro w2 HG bel2
  have B1 : Blk w2 w.heap.size ((l ++ (bitsOf n k).take 0).map Value.bool ++ List.replicate (k - 0) (Value.bool false)) 4 := by
    have h := HG.out
    unfold Blk
    rw [h, HC.out]
    simp [splice]
  clear B0 HG bel hr hr1 hmin hone hpos hfit hsz hi hz0 hz1 hz2 HC
  have hN := (of_decide_eq_true hn : 0 ≤ n ∧ n < 2 ^ (k : Int).toNat)
  have hp := pow_le_40 k hk
  have hn0 : 0 ≤ n := hN.1
  have hn1 : n ≤ 1099511627776 := by
    have h2 := hN.2
    rw [Int.toNat_natCast] at h2
    omega
  clear hN hp hn
  go_wp2_with fail
  go_loopw [28] (fun i wr => ∃ j : Nat, j ≤ k ∧ i = .int .i64 j ∧ Blk wr w.heap.size ((l ++ (bitsOf n k).take j).map Value.bool ++ List.replicate (k - j) (Value.bool false)) 4 ∧ Below w.heap.size w wr) (fun i _ => k - (intOf i).toNat)
  case atStart => exact ⟨0, Nat.zero_le _, rfl, B1, bel2⟩
  case round =>
    obtain ⟨j, hj, rfl, B, bel⟩ := hrel
    by_cases hlt : j < k
    · have e1 : wr.cell? ⟨w.heap.size, l.length + j, none⟩ = some (.bool false) := by
        have hl : ((l ++ (bitsOf n k).take j).map Value.bool).length = l.length + j := by simp [length_bitsOf]; omega
        rw [B.cell, List.getElem?_append_right (by rw [hl]; exact Nat.le_refl _), hl, Nat.sub_self, List.getElem?_replicate, if_pos (by omega)]
      have e2 := B.free (l.length + j)
      clear B1 bel2
      go_wp2_with fail
      go_roundw
      case rel =>
        refine ⟨j + 1, by omega, by go_num, ?_, bel.setCell (Nat.le_refl _) _⟩
        have h := B.set (l.length + j) (.bool (bitAt n (k - 1 - j)))
        rw [put_step l n k j hlt] at h
        rw [bit_stored n (k - 1 - j) hn0 (by omega)]
        exact h
      case measure => simp [intOf]; omega
    · obtain rfl : j = k := by omega
      clear B1 bel2
      go_wp2_with fail
      go_ret2
      refine ⟨rfl, ?_, bel⟩
      have h := B
      rw [List.take_of_length_le (by rw [length_bitsOf]; exact Nat.le_refl _), Nat.sub_self, List.replicate_zero, List.append_nil] at h
      exact h

/-- A width or a number that may not be: nothing, and ErrRange. -/
theorem put_no (ao : Option Addr) (len cap : Nat) (n width : Int) (w : World) (h : okW width = false ∨ okN n width = false) :
    Calls Tryz.prog 162 #[.slice ao len cap, .int .i64 n, .int .i64 width] w fun e w' => e = .returned (.tuple #[.slice none 0 0, .int .i64 3]) ∧ w = w' := by
  cases hw : okW width with
  | false =>
    clear h
    go_enter Tryz.func162, Tryz.ntmps162
    go_wp2_with (go_at_call 167; refine (widthFits_any _ _).mono ?_; rintro e w' ⟨rfl, rfl⟩)
    go_ret2
    exact ⟨rfl, rfl⟩
  | true =>
    have hn : okN n width = false := by
      rcases h with h | h
      · rw [hw] at h; cases h
      · exact h
    clear h
    go_enter Tryz.func162, Tryz.ntmps162
    go_wp2_with (first | (go_at_call 167; refine (widthFits_any _ _).mono ?_; rintro e w' ⟨rfl, rfl⟩) | (go_at_call 168; refine (numberFits_any _ _ _ hw).mono ?_; rintro e w' ⟨rfl, rfl⟩))
    go_ret2
    exact ⟨rfl, rfl⟩

end Go.Proofs.YtabeihkfjlmepaaGreatDoor

/-
  bits.Take: what it returns, for every list and width; the bits behind lie in new memory; nothing that was there is written.
-/
namespace Go.Proofs.YtabeihkfjlmepaaGreatDoor
open Go.RowKit

set_option maxHeartbeats 1000000 in
set_option maxRecDepth 100000 in
theorem take_nil (ao : Option Addr) (cap : Nat) (w : World) :
    Calls Tryz.prog 165 #[.slice ao 0 cap, .int .i64 0] w fun e w' =>
      e = .returned (.tuple #[.int .i64 0, .slice (some ⟨w.heap.size, 0, none⟩) 0 0, .int .i64 0]) ∧ Blk w' w.heap.size [] 4 ∧ Below w.heap.size w w' := by
  have hw : okW 0 = true := by decide
  obtain ⟨i0, hi, hz0, hz1, hz2⟩ := info_parts infoBool
  have hsz : (Tryz.prog.info? 4).map (·.size) = some 1 := by rw [hi]; simp [hz1]
  go_enter Tryz.func165, Tryz.ntmps165
  go_wp2_with (go_at_call 167; refine (widthFits_any _ _).mono ?_; rintro e w' ⟨rfl, rfl⟩)
  refine wp_loop_rounds 1 ?_
  rw [rounds_succ]
  go_wp2_with (at_make; refine wpList_make_full _ rfl (.tmp 35) (.tmp 35) 111 rfl w.heap.size 4 i0 (.bool false) 1 Tryz.underlying111 hi hz0 hz1 _ _ _ _ 0 rfl rfl rfl rfl (by rw [hz2]; omega) (by unfold maxLen; omega) (Nat.le_refl _) ?_)
  intro w1 hown hgrow
  have B0 : Blk w1 w.heap.size [] 4 := madeBlk (z := .bool false) hown
  have bel : Below w.heap.size w w1 := (Below.refl _ _).grown hgrow (Nat.le_refl _) (fun k h => by cases h)
  clear hown hgrow
  go_wp2_with (refine wpList_copy_nothing rfl (.tmp 37) (.tmp 40) 111 111 rfl 4 Tryz.underlying111 hsz _ _ _ _ _ _ rfl rfl rfl ?_)
  all_goals go_ret3
  all_goals exact ⟨rfl, B0, bel⟩

set_option maxHeartbeats 1000000 in
set_option maxRecDepth 100000 in
theorem take_ok (ao : Option Addr) (cap : Nat) (l : List Bool) (k : Nat) (w : World) (hr : Row w ao (l.map Value.bool)) (hk : k ≤ 40) (hkl : k ≤ l.length) (hl : l.length ≤ 140737488355328) (hc : l.length ≤ cap) (hc2 : cap ≤ 9223372036854775807) :
    Calls Tryz.prog 165 #[.slice ao l.length cap, .int .i64 k] w fun e w' =>
      e = .returned (.tuple #[.int .i64 (numOf (l.take k)), .slice (some ⟨w.heap.size, 0, none⟩) (l.length - k) (l.length - k), .int .i64 0]) ∧ Blk w' w.heap.size ((l.drop k).map Value.bool) 4 ∧ Below w.heap.size w w' := by
  have hw : okW (k : Int) = true := by unfold okW; simp; omega
  obtain ⟨i0, hi, hz0, hz1, hz2⟩ := info_parts infoBool
  have hge : ¬ (l.length : Int) < (k : Int) := by omega
  rcases hr with hnil | ⟨b, off, rfl, hb, hcell⟩
  · obtain rfl : l = [] := by simpa using hnil
    obtain rfl : k = 0 := by simpa using hkl
    clear hnil hkl hge hl hc hw
    have h := take_nil ao cap w
    refine h.mono fun e w' ⟨he, hb, hbel⟩ => ⟨by rw [he]; rfl, hb, hbel⟩
  have g := fun j hj => boolAt hcell j hj
  go_enter Tryz.func165, Tryz.ntmps165
  go_wp2_with (go_at_call 167; refine (widthFits_any _ _).mono ?_; rintro e w' ⟨rfl, rfl⟩)
  go_loop [7, 22] (fun n i => ∃ j : Nat, j ≤ k ∧ i = .int .i64 j ∧ n = .int .i64 (numOf (l.take j))) (fun _ i => k - (intOf i).toNat)
  case atStart => exact ⟨0, Nat.zero_le _, rfl, rfl⟩
  case round =>
    obtain ⟨j, hj, rfl, rfl⟩ := hrel
    by_cases hlt : j < k
    · have e1 := g j (by omega)
      have hN := numOf_take l j (by omega)
      have hM : numOf (l.take j) < 549755813888 := by
        have h1 := numOf_take_lt l j
        have h2 := pow_le_nat j 39 (by omega)
        omega
      generalize numOf (l.take j) = m at *
      generalize l.getD j false = x at *
      have HN : Hid (numOf (l.take (j + 1)) = 2 * m + x.toNat) := hN
      clear hN g hcell
      have ho := or_one m (by omega)
      cases x
      · go_wp2_with fail
        go_round
        case rel => exact ⟨j + 1, by omega, by go_num, by rw [HN.out]; simp; omega⟩
        case measure => simp [intOf]; omega
      · go_wp2_with fail
        go_round
        case rel => exact ⟨j + 1, by omega, by go_num, by rw [HN.out]; simp; omega⟩
        case measure => simp [intOf]; omega
    · obtain rfl : j = k := by omega
      clear g
      go_wp2_with (at_make; refine wpList_make_full _ rfl (.tmp 35) (.tmp 35) 111 rfl w.heap.size 4 i0 (.bool false) 1 Tryz.underlying111 hi hz0 hz1 _ _ _ _ (l.length - j) rfl rfl (by omega) (by omega) (by rw [hz2]; omega) (by unfold maxLen; omega) (Nat.le_refl _) ?_)
      intro w1 hown hgrow
      have B0 := madeBlk hown
      have bel : Below w.heap.size w w1 := (Below.refl _ _).grown hgrow (Nat.le_refl _) (fun k h => by cases h)
      clear hown hgrow
      have hdl : (l.drop j).length = l.length - j := List.length_drop
      have hmin : ((l.drop j).map Value.bool).length = Nat.min (l.length - j) (l.length - j) := by
        rw [List.length_map, hdl]; exact (Nat.min_self _).symm
      have hone : ∀ v ∈ (l.drop j).map Value.bool, v.oneCell' = true := by
        intro v hv
        obtain ⟨b, _, rfl⟩ := List.mem_map.1 hv
        rfl
      have hfit : 0 + ((l.drop j).map Value.bool).length ≤ (List.replicate (l.length - j) (Value.bool false)).length := by simp
      have hsz : (Tryz.prog.info? 4).map (·.size) = some 1 := by rw [hi]; simp [hz1]
      have hsrc : ∀ t v, ((l.drop j).map Value.bool)[t]? = some v → w1.cell? ((⟨b, off + j, none⟩ : Addr).add t) = some v := by
        intro t v hv
        rw [Addr.add_lit, Nat.add_assoc, bel.cell (p := ⟨b, off + (j + t), none⟩) hb]
        refine hcell (j + t) v ?_
        rw [List.getElem?_map, List.getElem?_drop] at hv
        rw [List.getElem?_map]
        exact hv
      have hend : ∀ w2 : World, w2.heap[w.heap.size]? = some (.cells (splice (List.replicate (l.length - j) (Value.bool false)) 0 ((l.drop j).map Value.bool)).toArray 4 (0, 0)) → Blk w2 w.heap.size ((l.drop j).map Value.bool) 4 := by
        intro w2 h
        unfold Blk
        rw [h]
        simp [splice]
      have hz : cap = j → ¬ 0 < ((l.drop j).map Value.bool).length := by
        intro h; simp; omega
      clear hdl hcell
      obtain ⟨cs, hcs⟩ : ∃ cs, cs = (l.drop j).map Value.bool := ⟨_, rfl⟩
      rw [← hcs] at hmin hone hfit hsrc hz
      have HE : Hid (∀ w2 : World, w2.heap[w.heap.size]? = some (.cells (splice (List.replicate (l.length - j) (Value.bool false)) 0 cs).toArray 4 (0, 0)) → Blk w2 w.heap.size ((l.drop j).map Value.bool) 4) := by
        rw [hcs]; exact hend
      clear hend hcs
      by_cases hcj : cap = j
      · have hz' := hz hcj
        clear hz hsrc
        go_wp2_with (refine wpList_copy_splice rfl (.tmp 37) (.tmp 40) 111 111 rfl 4 Tryz.underlying111 hsz _ _ _ _ _ _ rfl rfl w.heap.size 0 (List.replicate (l.length - j) (.bool false)) 4 B0 cs hmin (fun h => absurd h hz') hfit hone w.heap.size w bel (Nat.le_refl _) ?_)
        intro w2 HG bel2
        go_wp2_with fail
        go_ret3
        exact ⟨rfl, HE.out w2 HG.out, bel2⟩
      · clear hz
        go_wp2_with (refine wpList_copy_splice rfl (.tmp 37) (.tmp 40) 111 111 rfl 4 Tryz.underlying111 hsz _ _ _ _ _ _ rfl rfl w.heap.size 0 (List.replicate (l.length - j) (.bool false)) 4 B0 cs hmin (fun _ => ⟨rfl, _, rfl, hsrc⟩) hfit hone w.heap.size w bel (Nat.le_refl _) ?_)
        intro w2 HG bel2
        go_wp2_with fail
        go_ret3
        exact ⟨rfl, HE.out w2 HG.out, bel2⟩

/-- A width that may not be: nothing, and ErrRange. -/
theorem take_range (ao : Option Addr) (len cap : Nat) (width : Int) (w : World) (h : okW width = false) :
    Calls Tryz.prog 165 #[.slice ao len cap, .int .i64 width] w fun e w' => e = .returned (.tuple #[.int .i64 0, .slice none 0 0, .int .i64 3]) ∧ w = w' := by
  go_enter Tryz.func165, Tryz.ntmps165
  go_wp2_with (go_at_call 167; refine (widthFits_any _ _).mono ?_; rintro e w' ⟨rfl, rfl⟩)
  go_ret3
  exact ⟨rfl, rfl⟩

/-- Fewer bits than are asked: nothing, and ErrTorn. -/
theorem take_torn (ao : Option Addr) (len cap : Nat) (width : Int) (w : World) (h : okW width = true) (hlt : (len : Int) < width) :
    Calls Tryz.prog 165 #[.slice ao len cap, .int .i64 width] w fun e w' => e = .returned (.tuple #[.int .i64 0, .slice none 0 0, .int .i64 8]) ∧ w = w' := by
  go_enter Tryz.func165, Tryz.ntmps165
  go_wp2_with (go_at_call 167; refine (widthFits_any _ _).mono ?_; rintro e w' ⟨rfl, rfl⟩)
  go_ret3
  exact ⟨rfl, rfl⟩

end Go.Proofs.YtabeihkfjlmepaaGreatDoor

/-
  Put and Take of package bits, whatever they are handed.
-/
namespace Go.Proofs.YtabeihkfjlmepaaGreatDoor
open Go.RowKit

theorem bools_one (l : List Bool) : ∀ v ∈ l.map Value.bool, v.oneCell' = true := by
  intro v hv
  obtain ⟨b, _, rfl⟩ := List.mem_map.1 hv
  rfl

/-- Put, whatever it is handed. -/
theorem put_any (ao : Option Addr) (cap : Nat) (l : List Bool) (n width : Int) (w : World) (hr : Sl w ao cap (l.map Value.bool)) (hl : l.length ≤ 140737488351232) :
    Calls Tryz.prog 162 #[.slice ao l.length cap, .int .i64 n, .int .i64 width] w fun e w' =>
      ∃ a' G, e = .returned (.tuple #[.slice a' (putL l n width).length G, .int .i64 (putE n width)]) ∧ Sl w' a' G ((putL l n width).map Value.bool) ∧ Below w.heap.size w w' := by
  cases hw : okW width with
  | false =>
    have e : putOk n width = false := by simp [putOk, hw]
    refine (put_no ao l.length cap n width w (.inl hw)).mono ?_
    rintro e' w' ⟨rfl, rfl⟩
    exact ⟨none, 0, by simp [putL, putE, e], by simpa [putL, e] using Sl.ofNil w, Below.refl _ _⟩
  | true =>
    cases hn : okN n width with
    | false =>
      have e : putOk n width = false := by simp [putOk, hn]
      refine (put_no ao l.length cap n width w (.inr hn)).mono ?_
      rintro e' w' ⟨rfl, rfl⟩
      exact ⟨none, 0, by simp [putL, putE, e], by simpa [putL, e] using Sl.ofNil w, Below.refl _ _⟩
    | true =>
      have e : putOk n width = true := by simp [putOk, hw, hn]
      obtain ⟨h0, h1⟩ := okW_true hw
      obtain ⟨k, rfl⟩ := Int.eq_ofNat_of_zero_le h0
      refine (put_ok ao cap l n k w hr.row (by omega) hn (by omega)).mono ?_
      rintro e' w' ⟨rfl, B, hb⟩
      have hlen : ((l ++ bitsOf n k).map Value.bool).length = l.length + k := by simp [length_bitsOf]
      have hs := Sl.ofBlk B (by omega)
      rw [hlen] at hs
      exact ⟨some ⟨w.heap.size, 0, none⟩, l.length + k, by simp [putL, putE, e, length_bitsOf], by simpa [putL, e] using hs, hb⟩

/-- Take, whatever it is handed. -/
theorem take_any (ao : Option Addr) (cap : Nat) (l : List Bool) (width : Int) (w : World) (hr : Sl w ao cap (l.map Value.bool)) (hl : l.length ≤ 140737488355328) :
    Calls Tryz.prog 165 #[.slice ao l.length cap, .int .i64 width] w fun e w' =>
      ∃ a' G, e = .returned (.tuple #[.int .i64 (takeN l width), .slice a' (takeL l width).length G, .int .i64 (takeE l width)]) ∧ Sl w' a' G ((takeL l width).map Value.bool) ∧ Below w.heap.size w w' := by
  cases hw : okW width with
  | false =>
    have e : takeOk l width = false := by simp [takeOk, hw]
    refine (take_range ao l.length cap width w hw).mono ?_
    rintro e' w' ⟨rfl, rfl⟩
    exact ⟨none, 0, by simp [takeL, takeE, takeN, e, hw], by simpa [takeL, e] using Sl.ofNil w, Below.refl _ _⟩
  | true =>
    by_cases hn : width ≤ l.length
    · have e : takeOk l width = true := by simp [takeOk, hw, hn]
      obtain ⟨h0, h1⟩ := okW_true hw
      obtain ⟨k, rfl⟩ := Int.eq_ofNat_of_zero_le h0
      have hle := hr.le
      rw [List.length_map] at hle
      refine (take_ok ao cap l k w hr.row (by omega) (by omega) hl hle hr.max).mono ?_
      rintro e' w' ⟨rfl, B, hb⟩
      have hlen : ((l.drop k).map Value.bool).length = l.length - k := by simp
      have hs := Sl.ofBlk B (by omega)
      rw [hlen] at hs
      exact ⟨some ⟨w.heap.size, 0, none⟩, l.length - k, by simp [takeL, takeE, takeN, e], by simpa [takeL, e] using hs, hb⟩
    · have e : takeOk l width = false := by simp [takeOk, hn]
      refine (take_torn ao l.length cap width w hw (by omega)).mono ?_
      rintro e' w' ⟨rfl, rfl⟩
      exact ⟨none, 0, by simp [takeL, takeE, takeN, e, hw], by simpa [takeL, e] using Sl.ofNil w, Below.refl _ _⟩

end Go.Proofs.YtabeihkfjlmepaaGreatDoor
