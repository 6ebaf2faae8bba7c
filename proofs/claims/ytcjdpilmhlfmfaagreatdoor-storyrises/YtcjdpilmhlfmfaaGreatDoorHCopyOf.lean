/-
  shelf.copyOf: a shelf in memory of the call's own, list by list.
-/
import Derived.Deep.RegionWith
import Derived.Test.YtcjdpilmhlfmfaaGreatDoorP22
import Derived.Test.YtcjdpilmhlfmfaaGreatDoorP15
namespace Go.Proofs.YtcjdpilmhlfmfaaGreatDoor
open Go.RowKit

theorem Lr.cells_one (r : Lr) : ∀ v ∈ r.cells, v.oneCell' = true := by
  intro v hv
  simp only [Lr.cells, List.mem_cons, List.not_mem_nil, or_false] at hv
  rcases hv with rfl | rfl <;> rfl

theorem Lb.cells_one (r : Lb) : ∀ v ∈ r.cells, v.oneCell' = true := by
  intro v hv
  simp only [Lb.cells, List.mem_cons, List.not_mem_nil, or_false] at hv
  rcases hv with rfl | rfl | rfl | rfl <;> rfl

theorem flat_one {α : Type} {f : α → List Value} (h : ∀ x, ∀ v ∈ f x, v.oneCell' = true) (l : List α) : ∀ v ∈ l.flatMap f, v.oneCell' = true := by
  intro v hv
  obtain ⟨r, _, hr⟩ := List.mem_flatMap.1 hv
  exact h r v hr

theorem copyRs (l : List Lr) (ao : Option Addr) (cap : Nat) (w : World) (h : SlR w ao cap l) (few : l.length ≤ 1000000000000) :
    Calls Tryz.prog 210 #[.slice ao l.length cap] w fun e w' => ∃ g, e = .returned (.slice (some ⟨g, 0, none⟩) l.length l.length) ∧ Blk w' g (l.flatMap Lr.cells) 47 ∧ w.heap.size ≤ g ∧ Below w.heap.size w w' :=
  copyR ao cap _ _ w h.sl.row h.sl.le h.sl.nil (flat_length Lr.two l) (flat_one Lr.cells_one l) few

theorem copyBs (l : List Lb) (ao : Option Addr) (cap : Nat) (w : World) (h : SlB w ao cap l) (few : l.length ≤ 1000000000000) :
    Calls Tryz.prog 211 #[.slice ao l.length cap] w fun e w' => ∃ g, e = .returned (.slice (some ⟨g, 0, none⟩) l.length l.length) ∧ Blk w' g (l.flatMap Lb.cells) 93 ∧ w.heap.size ≤ g ∧ Below w.heap.size w w' :=
  copyB ao cap _ _ w h.sl.row h.sl.le h.sl.nil (flat_length Lb.four l) (flat_one Lb.cells_one l) few

theorem copyPs (l : List Pt) (ao : Option Addr) (cap : Nat) (w : World) (h : SlP w ao cap l) (few : l.length ≤ 1000000000000) :
    Calls Tryz.prog 212 #[.slice ao l.length cap] w fun e w' => ∃ g, e = .returned (.slice (some ⟨g, 0, none⟩) l.length l.length) ∧ Blk w' g (cellsP l) 50 ∧ w.heap.size ≤ g ∧ Below w.heap.size w w' :=
  copyP ao cap _ _ w h.row h.le h.nil (cellsP_length l) (cellsP_one l) few

theorem copyOs (l : List Bool) (ao : Option Addr) (cap : Nat) (w : World) (h : Sl w ao cap (l.map Value.bool)) (few : l.length ≤ 140737488355328) :
    Calls Tryz.prog 213 #[.slice ao l.length cap] w fun e w' => ∃ g, e = .returned (.slice (some ⟨g, 0, none⟩) l.length l.length) ∧ Blk w' g (l.map Value.bool) 4 ∧ w.heap.size ≤ g ∧ Below w.heap.size w w' :=
  copyO ao cap _ _ w h.row (by have := h.le; rw [List.length_map] at this; exact this) h.nil (by rw [List.length_map, Nat.mul_one]) (fun v hv => by obtain ⟨b, _, rfl⟩ := List.mem_map.1 hv; rfl) few

set_option maxHeartbeats 8000000 in
set_option maxRecDepth 100000 in
theorem copyOf_any (l : List Lr) (ao : Option Addr) (cap : Nat) (w : World) (hs : SlR w ao cap l) (h4 : l.length = 4) (few : ∀ r ∈ l, r.bs.length ≤ 8 ∧ r.hd.length ≤ 40) :
    Calls Tryz.prog 182 #[.agg #[.slice ao 4 cap]] w fun e w' => ∃ g rs, e = .returned (.agg #[.slice (some ⟨g, 0, none⟩) 4 4]) ∧ rs.map Lr.rw = l.map Lr.rw ∧ OwnG w' w.heap.size g rs ∧ Below w.heap.size w w' := by
  have c0 := fun W h => copyRs l ao cap W h (by omega)
  rw [h4] at c0
  replace h4 := hide h4
  go_enter Tryz.func182, Tryz.ntmps182
  go_wp2_with fail
  have R0 := Blk.laid (w.alloc (.cells #[.slice ao 4 cap] 24)) [.slice none 0 0] 24 (w.heap.size + 1) (by simp)
  have bel0 := below2 w (.cells #[.slice ao 4 cap] 24) (.cells #[.slice none 0 0] 24)
  have hs0 := (hs.alloc (.cells #[.slice ao 4 cap] 24)).alloc (.cells #[.slice none 0 0] 24)
  generalize (w.alloc _).alloc _ = w1 at *
  go_at_call 210
  refine (c0 _ hs0).mono ?_
  rintro e w2 ⟨g, rfl, BG, hg0, b2⟩
  have bel2 := belowCall bel0 b2
  have R2 := R0.keep b2 R0.lt
  have hg : w.heap.size ≤ g := Nat.le_trans bel0.size hg0
  clear b2 R0 bel0 hs0 hg0 c0
  go_wp2_with fail
  have O3 := Blk.laid w2 [.slice (some ⟨g, 0, none⟩) 4 4] 24 _ rfl
  have BG3 := BG.alc (.cells #[.slice (some ⟨g, 0, none⟩) 4 4] 24)
  have R3 := R2.alc (.cells #[.slice (some ⟨g, 0, none⟩) 4 4] 24)
  have bel3 := belowNew bel2 (.cells #[.slice (some ⟨g, 0, none⟩) 4 4] 24)
  have ho1 := BG.lt
  have ho2 := R2.lt
  have hgR : g ≠ w.heap.size + 1 := by
    rintro rfl
    exact absurd (blkType BG R2) (by decide)
  clear BG R2 bel2
  generalize w2.alloc _ = w3 at *
  generalize w2.heap.size = o at *
  go_loopw [14] (fun i wr => ∃ (k : Nat) (dn : List Lr), k ≤ 4 ∧ i = .int .i64 k ∧ Hid (dn.length = k) ∧ Hid (dn.map Lr.rw = (l.take k).map Lr.rw) ∧ Blk wr g ((dn ++ l.drop k).flatMap Lr.cells) 47 ∧ (∀ r ∈ dn, OwnR wr w.heap.size r) ∧ ApartL dn ∧
      Blk wr (w.heap.size + 1) [.slice none 0 0] 24 ∧ Blk wr o [.slice (some ⟨g, 0, none⟩) 4 4] 24 ∧ Below w.heap.size w wr) (fun i _ => 4 - (intOf i).toNat)
  case atStart => exact ⟨0, [], by omega, rfl, rfl, rfl, by simpa using BG3, fun r hr => by simp at hr, fun i j r q _ h _ => by simp at h, R3, O3, bel3⟩
  case round =>
    clear BG3 R3 O3 bel3
    obtain ⟨k, dn, hk, rfl, hdn, hrw, BG, own, ap, R, O, bel⟩ := hrel
    have d0 : wr.cell? ⟨o, 0, none⟩ = some (.slice (some ⟨g, 0, none⟩) 4 4) := O.cell 0
    by_cases hlt : k < 4
    · obtain ⟨x, hx⟩ : ∃ x, l[k]? = some x := ⟨_, List.getElem?_eq_getElem (by rw [h4.out]; exact hlt)⟩
      have hx' : (dn ++ l.drop k)[k]? = some x := by
        rw [List.getElem?_append_right (by rw [hdn.out]; exact Nat.le_refl _), hdn.out, Nat.sub_self, List.getElem?_drop, Nat.add_zero]
        exact hx
      have gx := (hs.good x (List.mem_of_getElem? hx)).keep bel (Nat.le_refl _)
      have fx := few x (List.mem_of_getElem? hx)
      have cB := fun W h => copyBs x.bs x.ba x.bc W h (by omega)
      have cP := fun W h => copyPs x.hd x.ha x.hc W h (by omega)
      obtain ⟨bs, ba, bc, hd, ha, hc⟩ := x
      simp only at *
      have e0 : wr.cell? ⟨g, k * 2, none⟩ = some (.slice ba bs.length bc) := by rw [BG.cell]; exact flat_get Lr.two _ k 0 _ hx' (by decide)
      have e1 : wr.cell? ⟨g, k * 2 + 1, none⟩ = some (.slice ha hd.length hc) := by rw [BG.cell]; exact flat_get Lr.two _ k 1 _ hx' (by decide)
      have f0 := BG.free (k * 2)
      have f1 := BG.free (k * 2 + 1)
      obtain ⟨n, hn⟩ : ∃ n, n = bs.length := ⟨_, rfl⟩
      obtain ⟨m, hm⟩ : ∃ m, m = hd.length := ⟨_, rfl⟩
      rw [← hn] at cB e0 fx
      rw [← hm] at cP e1 fx
      replace hn := hide hn
      replace hm := hide hm
      have bD := belowDrew (Below.refl wr.heap.size wr)
      have gD := gx.keep bD (Nat.le_refl _)
      have BGD : Blk wr.drew g ((dn ++ l.drop k).flatMap Lr.cells) 47 := BG
      clear bD gx
      replace gD := hide gD
      replace own := hide own
      replace ap := hide ap
      replace hx := hide hx
      replace hx' := hide hx'
      clear few hs
      go_wp2_with fail
      go_region_with (first
        | (go_at_call 211; refine (cB _ ?_).mono ?_; exact gD.out.bs; rintro e w4 ⟨gB, rfl, BB, hgB, b4⟩; have BG4 := BGD.keep b4 BGD.lt; have e04 : w4.cell? ⟨g, k * 2, none⟩ = some (.slice ba n bc) := by {rw [BG4.cell, ← BG.cell]; exact e0}; have e14 : w4.cell? ⟨g, k * 2 + 1, none⟩ = some (.slice ha m hc) := by {rw [BG4.cell, ← BG.cell]; exact e1}; have hP4 := hide (gD.out.hd.call b4))
        | (go_at_call 212; refine (cP _ ?_).mono ?_; exact hP4.out; rintro e w5 ⟨gP, rfl, BP, hgP, b5⟩; have BG5 := BG4.keep b5 BG4.lt; have e05 : w5.cell? ⟨g, k * 2, none⟩ = some (.slice ba n bc) := by {rw [BG5.cell, ← BG.cell]; exact e0}; have e15 : w5.cell? ⟨g, k * 2 + 1, none⟩ = some (.slice ha m hc) := by {rw [BG5.cell, ← BG.cell]; exact e1}; have f05 := BG5.free (k * 2); have f15 := BG5.free (k * 2 + 1)))
      all_goals (
        have M := Mid.start hdn.out hx.out hn.out hm.out BG own.out R O gD.out bel hg BB hgB b4 BP hgP b5
        clear e0 e1 f0 f1 BGD e04 e14 e05 e15 f05 f15 cB cP gD BG4 BG5 BB BP hP4 BG own R O d0 bel b4 b5 hgB hgP
        simp only at M
        rename World => w5
        generalize (World.setCell _ _ _).setCell _ _ = w6 at *
        have c0 : w6.cell? ⟨g, k * 2, none⟩ = some (.slice (some ⟨gB, 0, none⟩) n n) := by rw [M.cells hdn.out, ← hn.out]
        replace M := hide M
        go_wp2_with fail
        go_loopw [42] (fun i wq => ∃ (j : Nat) (bl : List Lb), j ≤ n ∧ i = .int .i64 j ∧ Hid (bl.length = n) ∧ Hid (bl.map Lb.b = bs.map Lb.b) ∧ Hid (Mid w wq g o gB gP j dn (l.drop (k + 1)) bl hd)) (fun i _ => n - (intOf i).toNat)
        case atStart => exact ⟨0, bs, by omega, rfl, hn.out.symm, rfl, M⟩
        case round =>
          clear M c0
          obtain ⟨j, bl, hj, rfl, hbl, hbb, M⟩ := hrel
          have c0 : wr.cell? ⟨g, k * 2, none⟩ = some (.slice (some ⟨gB, 0, none⟩) n n) := by rw [M.out.cells hdn.out, hbl.out]
          by_cases hjl : j < n
          · obtain ⟨x, hx2⟩ : ∃ x, bl[j]? = some x := ⟨_, List.getElem?_eq_getElem (by rw [hbl.out]; exact hjl)⟩
            have gx := (M.out.good j x hx2).1
            have cO := fun W h => copyOs x.b.bits x.a x.c W h gx.few
            have c3 : wr.cell? ⟨gB, j * 4 + 3, none⟩ = some (.slice x.a x.b.bits.length x.c) := by rw [M.out.bs.cell]; exact flat_get Lb.four _ j 3 _ hx2 (by decide)
            have gD : Hid (Sl wr.drew x.a x.c (x.b.bits.map Value.bool)) := gx.bits.keep (belowDrew (Below.refl wr.heap.size wr)) (Nat.le_refl _)
            obtain ⟨q, hq⟩ : ∃ q, q = x.b.bits.length := ⟨_, rfl⟩
            rw [← hq] at cO c3
            replace hq := hide hq
            replace hx2 := hide hx2
            have M1 := hide M.out.drew
            clear gx
            have hj8 : j < 8 := by omega
            go_wp2_with fail
            go_region_with (first
              | (go_at_call 213; refine (cO _ ?_).mono ?_; exact gD.out; rintro e w7 ⟨gO, rfl, BO, hgO, b7⟩; have M7 := M1.out.call b7; have c07 : w7.cell? ⟨g, k * 2, none⟩ = some (.slice (some ⟨gB, 0, none⟩) n n) := by {rw [M7.cells hdn.out, hbl.out]}; have c37 : w7.cell? ⟨gB, j * 4 + 3, none⟩ = some (.slice x.a q x.c) := by {rw [M7.bs.cell, ← M.out.bs.cell]; exact c3}; have f37 := M7.bs.free (j * 4 + 3); clear M7))
            all_goals (
              have M8 := M1.out.step hx2.out hq.out BO b7
              clear c0 c3 c07 c37 f37 cO gD BO hgO b7 M M1
              generalize World.setCell _ _ _ = w8 at *
              replace M8 := hide M8
              go_wp2_with fail
              go_roundw
              case rel => exact ⟨j + 1, _, by omega, by go_num, by rw [List.length_set]; exact hbl.out, hide ((set_map_b hx2.out _ _).trans hbb.out), M8⟩
              case measure => simp [intOf]; omega)
          · obtain rfl : j = n := by omega
            go_wp2_with fail
            obtain ⟨y, y1, y2, y3, y4, y5⟩ := M.out.done (by rw [hbl.out]; exact Nat.le_refl _) hdn.out hrw.out hx.out hbb.out rfl (by rw [← hm.out]; omega) ap.out
            have R9 := M.out.res
            have O9 := M.out.out
            have bel9 := M.out.bel
            go_roundw
            case rel => exact ⟨k + 1, dn ++ [y], by omega, by go_num, y1, y2, y3, y4, y5, R9, O9, bel9⟩
            case measure => simp [intOf]; omega)
    · obtain rfl : k = 4 := by omega
      have hd0 : l.drop 4 = [] := List.drop_eq_nil_of_le (by rw [h4.out]; exact Nat.le_refl _)
      rw [hd0, List.append_nil] at BG
      rw [List.take_of_length_le (by rw [h4.out]; exact Nat.le_refl _)] at hrw
      have r0 : wr.cell? ⟨w.heap.size + 1, 0, none⟩ = some (.slice none 0 0) := R.cell 0
      have r1 := R.free 0
      have grow : wr.grownBy (wr.setCell ⟨w.heap.size + 1, 0, none⟩ (.slice (some ⟨g, 0, none⟩) 4 4)) (some (w.heap.size + 1)) := grownSet (grownRefl wr _) _ _
      have G9 : OwnG (wr.setCell ⟨w.heap.size + 1, 0, none⟩ (.slice (some ⟨g, 0, none⟩) 4 4)) w.heap.size g dn :=
        ⟨BG.grown grow (fun j e => by obtain rfl := Option.some.inj e; exact fun e => hgR e.symm), hg, fun r hr => (own r hr).wrote grow R (by decide) ((own r hr).notB R (by decide)) ((own r hr).notH R (by decide)), ap⟩
      have bel9 := bel.setCell (p := ⟨w.heap.size + 1, 0, none⟩) (Nat.le_succ _) (.slice (some ⟨g, 0, none⟩) 4 4)
      replace G9 := hide G9
      clear own ap BG few hs
      go_wp2_with fail
      exact bodyPost_ret (v := .agg #[.slice (some ⟨g, 0, none⟩) 4 4]) (by simp [results, Tryz.results182, go_sem, r0]) rfl ⟨g, dn, rfl, hrw.out, G9.out, bel9⟩

end Go.Proofs.YtcjdpilmhlfmfaaGreatDoor
