/-
  shelf.Seal's own function: the first points of a row's head are a block, behind the others.
-/
import Derived.Deep.RegionWith
import Derived.Deep.CutRange
import Derived.Deep.RegionLaw
import Derived.Deep.RegionLawGrows
import Derived.Deep.AppendLies
import Derived.Test.YtcjdpilmhlfmfaaGreatDoorP20
import Derived.Test.YtcjdpilmhlfmfaaGreatDoorP19
import Derived.Test.YtcjdpilmhlfmfaaGreatDoorP15
namespace Go.Proofs.YtcjdpilmhlfmfaaGreatDoor
open Go.RowKit

theorem own9app {w : World} {base : Nat} {v : Value} {bn : Nat} {bs : List Lb} {M : Bk} {a5 : Option Addr} {G5 : Nat} (h : w.ownsRow base 93 4 v (bn + 1) (bs.flatMap Lb.cells ++ [.int .i64 M.n, .int .i64 M.fr, .int .i64 M.to, .slice a5 M.bits.length G5])) :
    w.ownsRow base 93 4 v (bn + 1) ((bs ++ [(⟨M, a5, G5⟩ : Lb)]).flatMap Lb.cells) := by
  rw [List.flatMap_append]
  exact h

set_option maxHeartbeats 1000000 in
set_option maxRecDepth 100000 in
theorem seal1_range (n : Int) (cb g k m hc : Nat) (ha : Option Addr) (W : World) (d0 : W.cell? ⟨cb, 0, none⟩ = some (.int .i64 n)) (d1 : W.cell? ⟨g, k * 2 + 1, none⟩ = some (.slice ha m hc)) (h : inI n 1 m = false) :
    Calls Tryz.prog 151 #[.pointer (some ⟨g, k * 2, none⟩), .pointer (some ⟨cb, 0, none⟩)] W fun e W' => e = .returned (.int .i64 3) ∧ ∃ q, W' = W.drewN q := by
  have h' : n < 1 ∨ (m : Int) < n := by unfold inI at h; simp at h; omega
  clear h
  rcases h' with h | h
  · go_enter Tryz.func151, Tryz.ntmps151
    go_wp2_with fail
    go_quiet (fail)
    go_wp2_with fail
    go_ret
    exact ⟨rfl, _, rfl⟩
  · by_cases h1 : n < 1
    · go_enter Tryz.func151, Tryz.ntmps151
      go_wp2_with fail
      go_quiet (fail)
      go_wp2_with fail
      go_ret
      exact ⟨rfl, _, rfl⟩
    · go_enter Tryz.func151, Tryz.ntmps151
      go_wp2_with fail
      go_quiet (fail)
      go_wp2_with fail
      go_ret
      exact ⟨rfl, _, rfl⟩

set_option maxHeartbeats 1000000 in
set_option maxRecDepth 100000 in
theorem seal1_full (n : Int) (cb g k m hc bc : Nat) (ha ba : Option Addr) (W : World) (d0 : W.cell? ⟨cb, 0, none⟩ = some (.int .i64 n)) (d1 : W.cell? ⟨g, k * 2 + 1, none⟩ = some (.slice ha m hc)) (d2 : W.cell? ⟨g, k * 2, none⟩ = some (.slice ba 8 bc)) (h1 : ¬ n < 1) (h2 : ¬ (m : Int) < n) :
    Calls Tryz.prog 151 #[.pointer (some ⟨g, k * 2, none⟩), .pointer (some ⟨cb, 0, none⟩)] W fun e W' => e = .returned (.int .i64 2) ∧ ∃ q, W' = W.drewN q := by
  go_enter Tryz.func151, Tryz.ntmps151
  go_wp2_with fail
  go_quiet (fail)
  go_wp2_with fail
  go_ret
  exact ⟨rfl, _, rfl⟩

set_option maxHeartbeats 4000000 in
set_option maxRecDepth 100000 in
theorem seal1_ok (q : Nat) (cb : Nat) (l : List Rw) (base box g k : Nat) (rs : List Lr) (r : Lr) (W : World) (hR : Right l) (C : Copied l base box g rs W) (hr : rs[k]? = some r) (Bc : Blk W cb [.int .i64 q] 3) (f1 : r.bs.length < 8) (f2 : r.hd.length ≤ 40) (h1 : 1 ≤ q) (h2 : q ≤ r.hd.length) (hz : makeE (r.hd.take q) = 0) :
    Calls Tryz.prog 151 #[.pointer (some ⟨g, k * 2, none⟩), .pointer (some ⟨cb, 0, none⟩)] W (Does 0 (l.set k ⟨r.rw.blocks ++ [makeB (r.hd.take q)], r.hd.drop q⟩) base box g W) := by
  have oR := C.own.each r (List.mem_of_getElem? hr)
  have hlC := hide C.hdLo
  have hlr := hide (ownHdLo oR.hd)
  obtain ⟨bg, eb, -, -⟩ := oR.bs
  obtain ⟨hg, eh, -⟩ := oR.hd
  have lhg : Hid (base ≤ hg) := hide (hlr.out _ eh)
  have gr := oR.toGood (by omega) (by omega)
  have hhc : r.hd.length ≤ r.hc := gr.hd.le
  have hhm := gr.hd.max
  have hbc := oR.bc
  have c4 : ∀ W, SlP W r.ha r.hc r.hd → Calls Tryz.prog 152 #[.slice r.ha q r.hc] W fun e w' => ∃ a' G, e = .returned (.tuple #[bkV (makeB (r.hd.take q)) a' G, .int .i64 (makeE (r.hd.take q))]) ∧ Sl w' a' G ((makeB (r.hd.take q)).bits.map Value.bool) ∧ Below W.heap.size W w' := by
    intro W h
    have t := make_any r.ha r.hc (r.hd.take q) W (h.front q)
    rw [List.length_take, Nat.min_eq_left h2] at t
    exact t
  rw [hz] at c4
  have lM := makeB_bits (r.hd.take q)
  obtain ⟨e0, e1⟩ := C.own.at k r hr
  have d0 : W.cell? ⟨cb, 0, none⟩ = some (.int .i64 q) := Bc.cell 0
  obtain ⟨bn, hbn⟩ : ∃ bn, bn = r.bs.length := ⟨_, rfl⟩
  obtain ⟨m, hm⟩ : ∃ m, m = r.hd.length := ⟨_, rfl⟩
  rw [← hbn] at e0 f1
  rw [← hm] at e1 f2 h2 hhc
  rw [eb, hbc, ← hbn] at e0
  rw [eh] at e1 c4
  have i1 : ¬ (q : Int) < 1 := by omega
  have i2 : ¬ (m : Int) < q := by omega
  have i3 : ¬ (bn : Int) = 8 := by omega
  generalize makeB (r.hd.take q) = M at *
  unfold bkV at c4
  replace hbn := hide hbn
  replace hm := hide hm
  replace hbc := hide hbc
  replace eb := hide eb
  replace eh := hide eh
  replace hr := hide hr
  replace C := hide C
  replace hR := hide hR
  clear oR gr hz
  go_enter Tryz.func151, Tryz.ntmps151
  go_wp2_with fail
  go_quiet (fail)
  have C2 := hide (C.out.call (belowDrewN (Below.refl W.heap.size W) nq))
  have bel2 := belowDrewN (Below.refl base W) nq
  have Bc2 : Blk (W.drewN nq) cb [.int .i64 q] 3 := Bc
  have hb2 := C2.out.base
  clear e0 e1 d0 C Bc
  generalize W.drewN nq = w2 at *
  have e0 : w2.cell? ⟨g, k * 2, none⟩ = some (.slice (some ⟨bg, 0, none⟩) bn bn) := by rw [(C2.out.own.at k r hr.out).1, eb.out, hbc.out, ← hbn.out]
  have e1 : w2.cell? ⟨g, k * 2 + 1, none⟩ = some (.slice (some ⟨hg, 0, none⟩) m r.hc) := by rw [(C2.out.own.at k r hr.out).2, eh.out, ← hm.out]
  have d0 : w2.cell? ⟨cb, 0, none⟩ = some (.int .i64 q) := Bc2.cell 0
  go_upto_region 5 with fail
  have C3 := C2.out.drew
  have g3 : SlP w2.drew (some ⟨hg, 0, none⟩) r.hc r.hd := by
    have := ((C3.own.each r (List.mem_of_getElem? hr.out)).toGood (by rw [← hbn.out]; omega) (by rw [← hm.out]; omega)).hd
    rw [eh.out] at this
    exact this
  replace C3 := hide C3
  replace g3 := hide g3
  have lg := C2.out.own.rows.lt
  have lc := Bc2.lt
  go_cut [4, 5] from 6 to 54 (fun s4 s5 wx => ∃ (x4 : Nat) (a5 : Option Addr) (G5 : Nat), s4 = .pointer (some ⟨x4, 0, none⟩) ∧ s5 = .int .i64 0 ∧ Blk wx x4 [.int .i64 M.n, .int .i64 M.fr, .int .i64 M.to, .slice a5 M.bits.length G5] 93 ∧ Hid (Sl wx a5 G5 (M.bits.map Value.bool)) ∧ Below w2.heap.size w2 wx)
  case first =>
    go_region_with (first
      | (go_at_call 152; refine (c4 _ ?_).mono ?_; exact g3.out; rintro e w5 ⟨a5, G5, rfl, s5, b5⟩)
      | (go_at_call 152; refine (c4 _ ?_).mono ?_; exact g3.out.alloc _; rintro e w5 ⟨a5, G5, rfl, s5, b5⟩; have A5 := (Blk.laid w2.drew [.int .i64 0, .int .i64 0, .int .i64 0, .slice none 0 0] 93 w2.heap.size rfl).keep b5 (by simp); have z0 : w5.cell? ⟨w2.heap.size, 0, none⟩ = some (.int .i64 0) := A5.cell 0; have z1 : w5.cell? ⟨w2.heap.size, 1, none⟩ = some (.int .i64 0) := A5.cell 1; have z2 : w5.cell? ⟨w2.heap.size, 2, none⟩ = some (.int .i64 0) := A5.cell 2; have z3 : w5.cell? ⟨w2.heap.size, 3, none⟩ = some (.slice none 0 0) := A5.cell 3; have y0 := A5.free 0; have y1 := A5.free 1; have y2 := A5.free 2; have y3 := A5.free 3))
    all_goals (
      go_wp2_with fail
      go_meet
      case rel =>
        first
          | exact ⟨_, a5, G5, rfl, rfl, A5.put4 _ _ _ _, s5.put4 A5 _ _ _ _, below4 (belowCall (belowNew (belowDrew (Below.refl w2.heap.size w2)) _) b5) (Nat.le_refl _) _ _ _ _⟩
          | exact ⟨_, a5, G5, rfl, rfl, Blk.laid w5 [.int .i64 M.n, .int .i64 M.fr, .int .i64 M.to, .slice a5 M.bits.length G5] 93 _ rfl, s5.alloc _, belowNew (belowCall (belowDrew (Below.refl w2.heap.size w2)) b5) _⟩)
  case rest =>
    obtain ⟨x4, a5, G5, rfl, rfl, X, s5, b5⟩ := hcut
    have C5 := C2.out.call b5
    have Bc5 := Bc2.keep b5 Bc2.lt
    have bel5 : Below base W wc := bel2.trans (b5.mono hb2)
    have hb5 := C5.base
    clear e0 e1 d0 C2 C3 g3 Bc2 c4 lg lc b5 bel2
    have e0 : wc.cell? ⟨g, k * 2, none⟩ = some (.slice (some ⟨bg, 0, none⟩) bn bn) := by rw [(C5.own.at k r hr.out).1, eb.out, hbc.out, ← hbn.out]
    have x0 : wc.cell? ⟨x4, 0, none⟩ = some (.int .i64 M.n) := X.cell 0
    have x1 : wc.cell? ⟨x4, 1, none⟩ = some (.int .i64 M.fr) := X.cell 1
    have x2 : wc.cell? ⟨x4, 2, none⟩ = some (.int .i64 M.to) := X.cell 2
    have x3 : wc.cell? ⟨x4, 3, none⟩ = some (.slice a5 M.bits.length G5) := X.cell 3
    have lg := C5.own.rows.lt
    have lx := X.lt
    have fg := C5.own.rows.free (k * 2)
    obtain ⟨i1, hi1, y0, y1, y2⟩ := info_parts infoCpB
    have oR5 := C5.own.each r (List.mem_of_getElem? hr.out)
    obtain ⟨bg', eb', -, Bb⟩ := oR5.bs
    obtain rfl : bg' = bg := by rw [eb.out] at eb'; simpa using eb'.symm
    have olds : ∀ b, some (⟨bg', 0, none⟩ : Addr) = some b → ∀ j u, (r.bs.flatMap Lb.cells)[j]? = some u → (wc.drew.alloc (.cells #[.int .i64 M.n, .int .i64 M.fr, .int .i64 M.to, .slice a5 M.bits.length G5] 93)).cell? (b.add j) = some u := by
      intro b hb j u hu
      obtain rfl := Option.some.inj hb
      rw [Addr.add_lit, Nat.zero_add, (Blk.alc (w := wc.drew) Bb _).cell]
      exact hu
    have hone : ∀ u ∈ [Value.int .i64 M.n, .int .i64 M.fr, .int .i64 M.to, .slice a5 M.bits.length G5], u.oneCell' = true := by
      intro u hu
      simp only [List.mem_cons, List.not_mem_nil, or_false] at hu
      rcases hu with rfl | rfl | rfl | rfl <;> rfl
    have hlen : (r.bs.flatMap Lb.cells).length = bn * 4 := by rw [flat_length Lb.four, hbn.out]
    have bA := belowNew (belowDrew (Below.refl wc.heap.size wc)) (.cells #[.int .i64 M.n, .int .i64 M.fr, .int .i64 M.to, .slice a5 M.bits.length G5] 93)
    replace olds := hide olds
    replace hlen := hide hlen
    have hlen4 : Hid (rs.length = l.length) := hide (by rw [← C5.same, List.length_map])
    have same := hide C5.same
    have bne := hide C5.boxNe
    have lo := hide C5.own.lo
    replace C5 := hide C5
    replace oR5 := hide oR5
    replace eb' := hide eb'
    go_upto_region 8 with fail
    go_cut [] from 6 to 54 (fun wx => ∃ (a9 : Option Addr) (c9 : Nat), wx.cell? ⟨g, k * 2 + 1, none⟩ = some (.slice (some ⟨hg, 0, none⟩) m r.hc) ∧ wx.cell? ⟨cb, 0, none⟩ = some (.int .i64 q) ∧ wx.frozen? ⟨g, k * 2 + 1, none⟩ = false ∧ g < wx.heap.size ∧ Hid (FinS wx base g (rs.set k ⟨r.bs ++ [⟨M, a5, G5⟩], a9, c9, r.hd, r.ha, r.hc⟩)) ∧ Blk wx box [.slice (some ⟨g, 0, none⟩) 4 4] 24 ∧ Below base W wx)
    case first =>
      go_region_law (refine step_append_grows (by rfl) (.tmp 40) (.tmp 42) 45 (by rfl) 93 i1 (.agg #[.int .i64 0, .int .i64 0, .int .i64 0, .slice none 0 0]) 4 48 Tryz.underlying45 hi1 y0 y1 y2 rfl (by decide) (some ⟨bg', 0, none⟩) bn bn (r.bs.flatMap Lb.cells) (by rfl) (fun h => by cases h) hlen.out olds.out ⟨wc.heap.size, 0, none⟩ 1 1 [.int .i64 M.n, .int .i64 M.fr, .int .i64 M.to, .slice a5 M.bits.length G5] (by rfl) (by rfl) (World.news_of_block (cs := #[.int .i64 M.n, .int .i64 M.fr, .int .i64 M.to, .slice a5 M.bits.length G5]) (t := 93) (fr := (0, 0)) (heap_alloc_new wc.drew _)) hone (by omega) (by unfold maxLen; omega) (by omega) ?_; intro v9 w9 own9 grow9; obtain ⟨a9, c9, rfl, s9, -, -⟩ := SlW.ofOwn Lb.four (by decide) (own9app own9); have b9 : Below wc.heap.size wc w9 := bA.grown grow9 (by simp) (fun j h => by cases h); have G9 := C5.out.own.rows.keep b9 lg; have e9 : w9.cell? ⟨g, k * 2, none⟩ = some (.slice (some ⟨bg', 0, none⟩) bn bn) := by {rw [G9.cell, ← C5.out.own.rows.cell]; exact e0}; have f9 := G9.free (k * 2))
      all_goals (
        go_wp2_with fail
        go_meet
        case rel =>
          have C9 := C5.out.call b9
          have F9 := C9.fin hR.out
          have oR9 := oR5.out.call b9
          have gr9 := oR9.toGood (by rw [← hbn.out]; omega) (by rw [← hm.out]; omega)
          have gy : Lr.Good w9 ⟨r.bs ++ [⟨M, a5, G5⟩], a9, c9, r.hd, r.ha, r.hc⟩ := by
            refine ⟨⟨s9, fun x hx => ?_⟩, gr9.hd, ?_, gr9.hfew⟩
            · rcases List.mem_append.1 hx with hx | hx
              · exact gr9.bs.good x hx
              · simp only [List.mem_singleton] at hx
                subst hx
                exact ⟨s5.out.keep b9 (Nat.le_refl _), by show M.bits.length ≤ _; omega⟩
            · simp only [List.length_append, List.length_singleton]
              rw [← hbn.out]
              omega
          have F10 := F9.first hr.out _ gy (n := bn + 1) (by simp only [List.length_append, List.length_singleton]; rw [← hbn.out]) rfl rfl rfl
          have grow := grownSet (grownRefl w9 (some g)) (k * 2) (.slice a9 (bn + 1) c9)
          have O10 := C9.out.grown grow (fun j e => by obtain rfl := Option.some.inj e; exact fun e => C9.boxNe e.symm)
          have Bc9 := Bc5.keep b9 Bc5.lt
          have Bc10 := Bc9.grown grow (fun j e => by obtain rfl := Option.some.inj e; rintro rfl; exact absurd (blkType Bc9 C9.own.rows) (by decide))
          have k10 := (F10.rows.cell (k * 2 + 1)).trans (flat_get Lr.two _ k 1 _ (List.getElem?_set_self (List.getElem?_eq_some_iff.1 hr.out).1) (by decide))
          exact ⟨a9, c9, k10.trans (by show some (Value.slice r.ha r.hd.length r.hc) = _; rw [eh.out, ← hm.out]), Bc10.cell 0, F10.rows.free _, F10.rows.lt, F10, O10, (bel5.trans (b9.mono hb5)).setCell C9.own.lo _⟩)
    case rest =>
      clear hlen olds x0 x1 x2 x3 lx fg oR5 Bb bA e0 C5 X Bc5 bel5 lg s5 hb5
      obtain ⟨a9, c9, e9, d9, f9, lg, F, O, bel⟩ := hcut
      have kl := (List.getElem?_eq_some_iff.1 hr.out).1
      have gy := F.out.good _ (List.mem_of_getElem? (List.getElem?_set_self kl))
      have pt := gy.hd.part q r.hd.length (by rw [← hm.out]; exact h2) (Nat.le_refl _)
      simp only at pt
      rw [List.take_length, eh.out] at pt
      have hl4 : rs.length = 4 := by rw [← hR.out.four]; exact hlen4.out
      have fin : ∀ ha2 : Option Addr, (∀ ad, ha2 = some ad → base ≤ ad.block) → SlP wc ha2 (r.hc - q) (r.hd.drop q) → ∃ rs', FinS (wc.drew.setCell ⟨g, k * 2 + 1, none⟩ (.slice ha2 (m - q) (r.hc - q))) base g rs' ∧ (rs'.length = 4 ∧ HdLo base rs') ∧ rs'.map Lr.rw = l.set k ⟨r.rw.blocks ++ [M], r.hd.drop q⟩ ∧ Blk (wc.drew.setCell ⟨g, k * 2 + 1, none⟩ (.slice ha2 (m - q) (r.hc - q))) box [.slice (some ⟨g, 0, none⟩) 4 4] 24 := by
        intro ha2 lo2 sp
        have FD := F.out.drew
        have gyD := FD.good _ (List.mem_of_getElem? (List.getElem?_set_self kl))
        have spD : SlP wc.drew ha2 (r.hc - q) (r.hd.drop q) := ⟨sp.row, sp.le, sp.max, sp.nil⟩
        have F2 := FD.second (List.getElem?_set_self kl) ⟨r.bs ++ [⟨M, a5, G5⟩], a9, c9, r.hd.drop q, ha2, r.hc - q⟩ ⟨gyD.bs, spD, gyD.few, by have := gyD.hfew; simp only [List.length_drop] at this ⊢; omega⟩ (n := m - q) (by simp only [List.length_drop]; rw [hm.out]) rfl rfl rfl
        refine ⟨_, F2, ⟨by rw [List.length_set, List.length_set]; exact hl4, HdLo.set (HdLo.set hlC.out k ⟨r.bs ++ [⟨M, a5, G5⟩], a9, c9, r.hd, r.ha, r.hc⟩ hlr.out) k ⟨r.bs ++ [⟨M, a5, G5⟩], a9, c9, r.hd.drop q, ha2, r.hc - q⟩ lo2⟩, ?_, ?_⟩
        · rw [List.set_set, List.map_set, same.out]
          congr 1
          unfold Lr.rw
          simp
        · exact Blk.grown (w := wc.drew) O (grownSet (grownRefl wc.drew (some g)) _ _) (fun j e => by obtain rfl := Option.some.inj e; exact fun e => bne.out e.symm)
      have bel9 := fun u => (belowDrew bel).setCell (p := ⟨g, k * 2 + 1, none⟩) (lo.out) u
      replace fin := hide fin
      clear gy F O bel
      by_cases hqc : r.hc = q
      · rw [if_pos hqc] at pt
        have fin2 := hide (fin.out _ (by intro ad e; cases e; exact lhg.out) pt)
        clear pt fin
        obtain rfl : q = m := by omega
        have e3 : r.hc - q = 0 := by omega
        rw [hqc] at e9 fin2
        rw [Nat.sub_self] at fin2
        replace hqc := hide hqc
        clear e3
        go_wp2_with fail
        go_region
        all_goals (
          go_wp2_with fail
          go_ret
          exact ⟨rfl, bel9 _, fun _ => fin2.out⟩)
      · rw [if_neg hqc, Option.map_some, Addr.add_lit, Nat.zero_add] at pt
        have fin2 := hide (fin.out _ (by intro ad e; cases e; exact lhg.out) pt)
        have hlt : q < r.hc := by omega
        clear pt fin
        go_wp2_with fail
        go_region
        all_goals (
          go_wp2_with fail
          go_ret
          exact ⟨rfl, bel9 _, fun _ => fin2.out⟩)

end Go.Proofs.YtcjdpilmhlfmfaaGreatDoor
