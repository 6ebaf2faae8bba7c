/-
  bits.Take: what it returns, for every list and width; the bits behind lie in new memory; nothing that was there is written.
-/
import Derived.Test.YtcjdpilmhlfmfaaGreatDoorP02
namespace Go.Proofs.YtcjdpilmhlfmfaaGreatDoor
open Go.RowKit

set_option maxHeartbeats 1000000 in
set_option maxRecDepth 100000 in
theorem take_nil (ao : Option Addr) (cap : Nat) (w : World) :
    Calls Tryz.prog 237 #[.slice ao 0 cap, .int .i64 0] w fun e w' =>
      e = .returned (.tuple #[.int .i64 0, .slice (some ⟨w.heap.size, 0, none⟩) 0 0, .int .i64 0]) ∧ Blk w' w.heap.size [] 4 ∧ Below w.heap.size w w' := by
  have hw : okW 0 = true := by decide
  obtain ⟨i0, hi, hz0, hz1, hz2⟩ := info_parts infoBool
  have hsz : (Tryz.prog.info? 4).map (·.size) = some 1 := by rw [hi]; simp [hz1]
  go_enter Tryz.func237, Tryz.ntmps237
  go_wp2_with (go_at_call 244; refine (widthFits_any _ _).mono ?_; rintro e w' ⟨rfl, rfl⟩)
  refine wp_loop_rounds 1 ?_
  rw [rounds_succ]
  go_wp2_with (at_make; refine wpList_make_full _ rfl (.tmp 35) (.tmp 35) 91 rfl w.heap.size 4 i0 (.bool false) 1 Tryz.underlying91 hi hz0 hz1 _ _ _ _ 0 rfl rfl rfl rfl (by rw [hz2]; omega) (by unfold maxLen; omega) (Nat.le_refl _) ?_)
  intro w1 hown hgrow
  have B0 : Blk w1 w.heap.size [] 4 := madeBlk (z := .bool false) hown
  have bel : Below w.heap.size w w1 := (Below.refl _ _).grown hgrow (Nat.le_refl _) (fun k h => by cases h)
  clear hown hgrow
  go_wp2_with (refine wpList_copy_nothing rfl (.tmp 37) (.tmp 40) 91 91 rfl 4 Tryz.underlying91 hsz _ _ _ _ _ _ rfl rfl rfl ?_)
  all_goals go_ret3
  all_goals exact ⟨rfl, B0, bel⟩

set_option maxHeartbeats 1000000 in
set_option maxRecDepth 100000 in
theorem take_ok (ao : Option Addr) (cap : Nat) (l : List Bool) (k : Nat) (w : World) (hr : Row w ao (l.map Value.bool)) (hk : k ≤ 40) (hkl : k ≤ l.length) (hl : l.length ≤ 140737488355328) (hc : l.length ≤ cap) (hc2 : cap ≤ 9223372036854775807) :
    Calls Tryz.prog 237 #[.slice ao l.length cap, .int .i64 k] w fun e w' =>
      e = .returned (.tuple #[.int .i64 (numOf (l.take k)), .slice (some ⟨w.heap.size, 0, none⟩) (l.length - k) (l.length - k), .int .i64 0]) ∧ Blk w' w.heap.size ((l.drop k).map Value.bool) 4 ∧ Below w.heap.size w w' := by
  have hw : okW (k : Int) = true := by unfold okW; simp; omega
  obtain ⟨i0, hi, hz0, hz1, hz2⟩ := info_parts infoBool
  have hge : ¬ (l.length : Int) < (k : Int) := by omega
  rcases hr with hnil | ⟨b, off, rfl, hb, hcell⟩
  · obtain rfl : l = [] := by simpa using hnil
    obtain rfl : k = 0 := by simpa using hkl
    clear hnil hkl hge hl hc hw
    have h := take_nil ao cap w
    refine h.mono fun e w' ⟨he, hb, hbel⟩ => ⟨by rw [he]; rfl, hb, hbel⟩
  have g := fun j hj => boolAt hcell j hj
  go_enter Tryz.func237, Tryz.ntmps237
  go_wp2_with (go_at_call 244; refine (widthFits_any _ _).mono ?_; rintro e w' ⟨rfl, rfl⟩)
  go_loop [7, 22] (fun n i => ∃ j : Nat, j ≤ k ∧ i = .int .i64 j ∧ n = .int .i64 (numOf (l.take j))) (fun _ i => k - (intOf i).toNat)
  case atStart => exact ⟨0, Nat.zero_le _, rfl, rfl⟩
  case round =>
    obtain ⟨j, hj, rfl, rfl⟩ := hrel
    by_cases hlt : j < k
    · have e1 := g j (by omega)
      have hN := numOf_take l j (by omega)
      have hM : numOf (l.take j) < 549755813888 := by
        have h1 := numOf_take_lt l j
        have h2 := pow_le_nat j 39 (by omega)
        omega
      generalize numOf (l.take j) = m at *
      generalize l.getD j false = x at *
      have HN : Hid (numOf (l.take (j + 1)) = 2 * m + x.toNat) := hN
      clear hN g hcell
      have ho := or_one m (by omega)
      cases x
      · go_wp2_with fail
        go_round
        case rel => exact ⟨j + 1, by omega, by go_num, by rw [HN.out]; simp; omega⟩
        case measure => simp [intOf]; omega
      · go_wp2_with fail
        go_round
        case rel => exact ⟨j + 1, by omega, by go_num, by rw [HN.out]; simp; omega⟩
        case measure => simp [intOf]; omega
    · obtain rfl : j = k := by omega
      clear g
      go_wp2_with (at_make; refine wpList_make_full _ rfl (.tmp 35) (.tmp 35) 91 rfl w.heap.size 4 i0 (.bool false) 1 Tryz.underlying91 hi hz0 hz1 _ _ _ _ (l.length - j) rfl rfl (by omega) (by omega) (by rw [hz2]; omega) (by unfold maxLen; omega) (Nat.le_refl _) ?_)
      intro w1 hown hgrow
      have B0 := madeBlk hown
      have bel : Below w.heap.size w w1 := (Below.refl _ _).grown hgrow (Nat.le_refl _) (fun k h => by cases h)
      clear hown hgrow
      have hdl : (l.drop j).length = l.length - j := List.length_drop
      have hmin : ((l.drop j).map Value.bool).length = Nat.min (l.length - j) (l.length - j) := by
        rw [List.length_map, hdl]; exact (Nat.min_self _).symm
      have hone : ∀ v ∈ (l.drop j).map Value.bool, v.oneCell' = true := by
        intro v hv
        obtain ⟨b, _, rfl⟩ := List.mem_map.1 hv
        rfl
      have hfit : 0 + ((l.drop j).map Value.bool).length ≤ (List.replicate (l.length - j) (Value.bool false)).length := by simp
      have hsz : (Tryz.prog.info? 4).map (·.size) = some 1 := by rw [hi]; simp [hz1]
      have hsrc : ∀ t v, ((l.drop j).map Value.bool)[t]? = some v → w1.cell? ((⟨b, off + j, none⟩ : Addr).add t) = some v := by
        intro t v hv
        rw [Addr.add_lit, Nat.add_assoc, bel.cell (p := ⟨b, off + (j + t), none⟩) hb]
        refine hcell (j + t) v ?_
        rw [List.getElem?_map, List.getElem?_drop] at hv
        rw [List.getElem?_map]
        exact hv
      have hend : ∀ w2 : World, w2.heap[w.heap.size]? = some (.cells (splice (List.replicate (l.length - j) (Value.bool false)) 0 ((l.drop j).map Value.bool)).toArray 4 (0, 0)) → Blk w2 w.heap.size ((l.drop j).map Value.bool) 4 := by
        intro w2 h
        unfold Blk
        rw [h]
        simp [splice]
      have hz : cap = j → ¬ 0 < ((l.drop j).map Value.bool).length := by
        intro h; simp; omega
      clear hdl hcell
      obtain ⟨cs, hcs⟩ : ∃ cs, cs = (l.drop j).map Value.bool := ⟨_, rfl⟩
      rw [← hcs] at hmin hone hfit hsrc hz
      have HE : Hid (∀ w2 : World, w2.heap[w.heap.size]? = some (.cells (splice (List.replicate (l.length - j) (Value.bool false)) 0 cs).toArray 4 (0, 0)) → Blk w2 w.heap.size ((l.drop j).map Value.bool) 4) := by
        rw [hcs]; exact hend
      clear hend hcs
      by_cases hcj : cap = j
      · have hz' := hz hcj
        clear hz hsrc
        go_wp2_with (refine wpList_copy_splice rfl (.tmp 37) (.tmp 40) 91 91 rfl 4 Tryz.underlying91 hsz _ _ _ _ _ _ rfl rfl w.heap.size 0 (List.replicate (l.length - j) (.bool false)) 4 B0 cs hmin (fun h => absurd h hz') hfit hone w.heap.size w bel (Nat.le_refl _) ?_)
        intro w2 HG bel2
        go_wp2_with fail
        go_ret3
        exact ⟨rfl, HE.out w2 HG.out, bel2⟩
      · clear hz
        go_wp2_with (refine wpList_copy_splice rfl (.tmp 37) (.tmp 40) 91 91 rfl 4 Tryz.underlying91 hsz _ _ _ _ _ _ rfl rfl w.heap.size 0 (List.replicate (l.length - j) (.bool false)) 4 B0 cs hmin (fun _ => ⟨rfl, _, rfl, hsrc⟩) hfit hone w.heap.size w bel (Nat.le_refl _) ?_)
        intro w2 HG bel2
        go_wp2_with fail
        go_ret3
        exact ⟨rfl, HE.out w2 HG.out, bel2⟩

/-- Fewer bits than are asked: nothing, and ErrTorn. -/
theorem take_torn (ao : Option Addr) (len cap : Nat) (width : Int) (w : World) (h : okW width = true) (hlt : (len : Int) < width) :
    Calls Tryz.prog 237 #[.slice ao len cap, .int .i64 width] w fun e w' => e = .returned (.tuple #[.int .i64 0, .slice none 0 0, .int .i64 8]) ∧ w = w' := by
  go_enter Tryz.func237, Tryz.ntmps237
  go_wp2_with (go_at_call 244; refine (widthFits_any _ _).mono ?_; rintro e w' ⟨rfl, rfl⟩)
  go_ret3
  exact ⟨rfl, rfl⟩

end Go.Proofs.YtcjdpilmhlfmfaaGreatDoor

/-
  Put and Take of package bits, whatever they are handed.
-/
namespace Go.Proofs.YtcjdpilmhlfmfaaGreatDoor
open Go.RowKit

end Go.Proofs.YtcjdpilmhlfmfaaGreatDoor
