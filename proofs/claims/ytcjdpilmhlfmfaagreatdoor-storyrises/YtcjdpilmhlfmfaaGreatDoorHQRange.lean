/-
  slices.IndexFunc and slices.DeleteFunc of points by the function that query.Range hands them, on points of the call's own.
-/
import Derived.Test.YtcjdpilmhlfmfaaGreatDoorP14
import Derived.Test.YtcjdpilmhlfmfaaGreatDoorHSDelF
import Derived.Test.YtcjdpilmhlfmfaaGreatDoorP17
namespace Go.Proofs.YtcjdpilmhlfmfaaGreatDoor
open Go.RowKit

def outR (f t : Int) (p : Pt) : Bool := !inR f t p

def pc (p : Pt) : List Value := [.int .i64 p.1, .int .i64 p.2]
theorem pc_two (p : Pt) : (pc p).length = 2 := rfl
theorem cellsP_flat : ∀ l : List Pt, cellsP l = l.flatMap pc
  | [] => rfl
  | p :: r => by rw [cellsP, cellsP_flat r]; rfl

set_option maxHeartbeats 400000 in
set_option maxRecDepth 100000 in
theorem outR_any (p : Pt) (f t : Int) (cf ct : Nat) (w : World) (Bf : Blk w cf [.int .i64 f] 3) (Bt : Blk w ct [.int .i64 t] 3) :
    Calls Tryz.prog 53 #[.agg #[.int .i64 p.1, .int .i64 p.2], .pointer (some ⟨cf, 0, none⟩), .pointer (some ⟨ct, 0, none⟩)] w fun e w' => e = .returned (.bool (outR f t p)) ∧ Below w.heap.size w w' := by
  have d0 : w.cell? ⟨cf, 0, none⟩ = some (.int .i64 f) := Bf.cell 0
  have d1 : w.cell? ⟨ct, 0, none⟩ = some (.int .i64 t) := Bt.cell 0
  have l0 := Bf.lt
  have l1 := Bt.lt
  obtain ⟨x, y⟩ := p
  unfold outR inR
  simp only
  by_cases h1 : x < f
  · rw [show (!decide (f ≤ x ∧ x < t)) = true by simp; omega]
    go_enter Tryz.func53, Tryz.ntmps53
    go_wp2_with fail
    go_ret
    exact ⟨rfl, (Below.refl _ _).alloc (Nat.le_refl _) _⟩
  · by_cases h2 : t ≤ x
    · rw [show (!decide (f ≤ x ∧ x < t)) = true by simp; omega]
      go_enter Tryz.func53, Tryz.ntmps53
      go_wp2_with fail
      go_ret
      exact ⟨rfl, (Below.refl _ _).alloc (Nat.le_refl _) _⟩
    · rw [show (!decide (f ≤ x ∧ x < t)) = false by simp; omega]
      go_enter Tryz.func53, Tryz.ntmps53
      go_wp2_with fail
      go_ret
      exact ⟨rfl, (Below.refl _ _).alloc (Nat.le_refl _) _⟩

set_option maxHeartbeats 1000000 in
set_option maxRecDepth 100000 in
theorem indexR (l : List Pt) (ao : Option Addr) (cap n : Nat) (f t : Int) (cf ct : Nat) (w : World) (S : SlP w ao cap l) (Bf : Blk w cf [.int .i64 f] 3) (Bt : Blk w ct [.int .i64 t] 3) (hn : l.length = n) (few : n ≤ 40) :
    Calls Tryz.prog 97 #[.slice ao n cap, .func (.func 53) #[] #[.pointer (some ⟨cf, 0, none⟩), .pointer (some ⟨ct, 0, none⟩)]] w fun e w' =>
      Below w.heap.size w w' ∧ ((e = .returned (.int .i64 (-1)) ∧ ∀ x ∈ l, outR f t x = false) ∨ ∃ k x, e = .returned (.int .i64 (k : Nat)) ∧ l[k]? = some x ∧ outR f t x = true ∧ ∀ y ∈ l.take k, outR f t y = false) := by
  replace hn := hide hn
  have b0 := Below.refl w.heap.size w
  go_enter Tryz.func97, Tryz.ntmps97
  go_wp2_with fail
  go_loopw [8] (fun i wr => ∃ (k : Nat), k ≤ n ∧ i = .int .i64 k ∧ Hid (∀ y ∈ l.take k, outR f t y = false) ∧ Below w.heap.size w wr) (fun i _ => n - (intOf i).toNat)
  case atStart => exact ⟨0, by omega, rfl, hide (fun y hy => by simp at hy), b0⟩
  case round =>
    clear b0
    obtain ⟨k, hk, rfl, H, bel⟩ := hrel
    by_cases hlt : k < n
    · have S1 := S.keep bel (Nat.le_refl _)
      have hkl : k < l.length := by rw [hn.out]; exact hlt
      obtain ⟨b, off, rfl, hbw⟩ := S1.where (by intro e; rw [e] at hkl; simp at hkl)
      obtain ⟨x, y, e0, e1, hx, _⟩ := S1.pt k hkl
      have Bf1 := Bf.keep bel Bf.lt
      have Bt1 := Bt.keep bel Bt.lt
      have c := fun W h0 h1 => outR_any (x, y) f t cf ct W h0 h1
      have hk8 : k < 40 := by omega
      replace hx := hide hx
      clear S1 hkl
      cases hp : outR f t ((x, y) : Pt) with
      | true =>
        rw [hp] at c
        replace hp := hide hp
        go_wp2_with fail
        go_at_call 53
        refine (c _ (Bf1) (Bt1)).mono ?_
        rintro e w2 ⟨rfl, b2⟩
        have bel2 := belowCall bel b2
        go_wp2_with fail
        go_ret
        exact ⟨bel2, .inr ⟨k, (x, y), rfl, hx.out, hp.out, H.out⟩⟩
      | false =>
        rw [hp] at c
        have H2 : ∀ z ∈ l.take (k + 1), outR f t z = false := by
          intro z hz
          rw [List.take_add_one, hx.out] at hz
          rcases List.mem_append.1 hz with hz | hz
          · exact H.out z hz
          · simp at hz
            rw [hz]
            exact hp
        replace H2 := hide H2
        clear hp
        go_wp2_with fail
        go_at_call 53
        refine (c _ (Bf1) (Bt1)).mono ?_
        rintro e w2 ⟨rfl, b2⟩
        have bel2 := belowCall bel b2
        go_wp2_with fail
        go_roundw
        case rel => exact ⟨k + 1, by omega, by go_num, H2, bel2⟩
        case measure => simp [intOf]; omega
    · obtain rfl : k = n := by omega
      have H' := H.out
      rw [List.take_of_length_le (by rw [hn.out]; exact Nat.le_refl _)] at H'
      replace H' := hide H'
      go_wp2_with fail
      go_ret
      exact ⟨bel, .inl ⟨rfl, H'.out⟩⟩

/-- Points in a block of the call's own, spare cells behind them. -/
theorem ownSpare {w : World} {base n : Nat} {v : Value} {l : List Pt} (h : w.ownsRow base 50 2 v n (cellsP l)) :
    (v = .slice none 0 0 ∧ l = [] ∧ n = 0) ∨ ∃ g G sp, v = .slice (some ⟨g, 0, none⟩) n G ∧ base ≤ g ∧ Blk w g (cellsP l ++ sp) 50 ∧ n ≤ G ∧ G ≤ maxLen ∧ (cellsP l ++ sp).length = G * 2 := by
  rcases h.2 with ⟨rfl, rfl⟩ | ⟨g, cap, cur, rfl, hb, hg, h1, h2, h3, h4⟩
  · refine .inl ⟨rfl, ?_, rfl⟩
    have := h.1
    rw [cellsP_length] at this
    exact List.eq_nil_of_length_eq_zero (by omega)
  · refine .inr ⟨g, cap, cur.toList.drop (n * 2), rfl, hb, ?_, h1, h2, ?_⟩
    · unfold Blk
      rw [← h4, List.take_append_drop]
      simpa using hg
    · rw [← h4, List.take_append_drop, Array.length_toList]
      exact h3

theorem spareOwn {w : World} {base g n G : Nat} {l : List Pt} {sp : List Value} (hb : base ≤ g) (B : Blk w g (cellsP l ++ sp) 50) (hn : l.length = n) (h1 : n ≤ G) (h2 : G ≤ maxLen) (h3 : (cellsP l ++ sp).length = G * 2) :
    w.ownsRow base 50 2 (.slice (some ⟨g, 0, none⟩) n G) n (cellsP l) := by
  refine ⟨by rw [cellsP_length, hn], .inr ⟨g, G, (cellsP l ++ sp).toArray, rfl, hb, B, h1, h2, by simpa using h3, ?_⟩⟩
  rw [List.toList_toArray, List.take_left' (by rw [cellsP_length, hn])]

theorem zeroCells2 (z : Array Value) (hz : z.toList = pc (0, 0)) (n : Nat) : (Builtin.zeroCells z n).toList = (List.replicate n ((0, 0) : Pt)).flatMap pc := by
  have hs : z.size = 2 := by rw [← Array.length_toList, hz]; rfl
  apply List.ext_getElem?
  intro i
  have hl := flat_length pc_two (List.replicate n ((0, 0) : Pt))
  rw [List.length_replicate] at hl
  by_cases hi : i < n * 2
  · have hg := flat_get pc_two (List.replicate n ((0, 0) : Pt)) (i / 2) (i % 2) (0, 0) (by rw [List.getElem?_replicate, if_pos (by omega)]) (Nat.mod_lt _ (by decide))
    rw [show i / 2 * 2 + i % 2 = i by omega] at hg
    rw [hg, ← hz]
    simp only [Builtin.zeroCells, Array.toList_map, List.getElem?_map, Array.toList_range, hs]
    rw [List.getElem?_range hi]
    have h4 : i % 2 < z.size := by omega
    rw [Option.map_some, getElem!_pos z (i % 2) h4, Array.getElem?_toList, Array.getElem?_eq_getElem h4]
  · rw [List.getElem?_eq_none (by simp [Builtin.zeroCells, hs]; omega), List.getElem?_eq_none (by rw [hl]; omega)]

theorem run_clear_points {P : Program} (w : World) (t e ty : TypeId) (z : Value) (ht : P.underlying t = some (.slice e)) (hv : ∀ w, (zeroValue e).run P w = .ok z w) (hz : z.cells.toList = pc (0, 0)) (b o n c : Nat) (hn : 0 < n) (cur : List Value) (te : TypeId) (B : Blk w b cur te) (hfit : o + n * 2 ≤ cur.length) :
    (Builtin.clear_ #[t] ty #[.slice (some ⟨b, o, none⟩) n c]).run P w = .ok (.tuple #[]) (w.setCells b o ((List.replicate n ((0, 0) : Pt)).flatMap pc)) := by
  have hzc := zeroCells2 z.cells hz n
  have hl := flat_length pc_two (List.replicate n ((0, 0) : Pt))
  rw [List.length_replicate] at hl
  have hst := run_storeCells_cells (P := P) b o ((List.replicate n ((0, 0) : Pt)).flatMap pc) 0 w (by intro j hj; rw [hl] at hj; rw [B.cell, List.getElem?_eq_getElem (by omega)]; rfl) (by intro j _; exact B.free _) (by
    intro v hv'
    obtain ⟨r, hr, hv''⟩ := List.mem_flatMap.1 hv'
    rw [List.eq_of_mem_replicate hr] at hv''
    simp only [pc, List.mem_cons, List.not_mem_nil, or_false] at hv''
    rcases hv'' with rfl | rfl <;> rfl)
  simp only [Nat.add_zero] at hst
  obtain ⟨m, rfl⟩ : ∃ m, n = m + 1 := ⟨n - 1, by omega⟩
  simp [Builtin.clear_, run_underlying ht, hv, hzc, hst]

theorem zeroPoint (w : World) : (zeroValue 50).run Tryz.prog w = .ok (.agg #[.int .i64 0, .int .i64 0]) w := by
  obtain ⟨i0, hi, hz0, hz1, hz2⟩ := info_parts infoPoint
  simp [zeroValue, typeInfo, hi, hz0]

def keptR (f t : Int) (l : List Pt) : List Pt := l.filter (fun x => !outR f t x)

theorem keptR_eq (f t : Int) (l : List Pt) : keptR f t l = rngL l f t := by
  unfold keptR rngL outR
  congr 1
  funext x
  simp

theorem keptR_all {f t : Int} : ∀ {l : List Pt}, (∀ x ∈ l, outR f t x = false) → keptR f t l = l := by
  intro l h
  unfold keptR
  rw [List.filter_eq_self]
  intro x hx
  rw [h x hx]
  rfl

theorem keptR_snoc (f t : Int) (l : List Pt) (j : Nat) (x : Pt) (hx : l[j]? = some x) : keptR f t (l.take (j + 1)) = if outR f t x = true then keptR f t (l.take j) else keptR f t (l.take j) ++ [x] := by
  unfold keptR
  rw [List.take_add_one, hx, List.filter_append]
  cases h : outR f t x with
  | true => simp [h]
  | false => simp [h]

theorem ptGet {w : World} {g : Nat} {X : List Pt} {sp : List Value} (B : Blk w g (X.flatMap pc ++ sp) 50) (j : Nat) (p : Pt) (hp : X[j]? = some p) : w.cell? ⟨g, j * 2, none⟩ = some (.int .i64 p.1) ∧ w.cell? ⟨g, j * 2 + 1, none⟩ = some (.int .i64 p.2) := by
  have hl := flat_length pc_two X
  have hj := (List.getElem?_eq_some_iff.1 hp).1
  rw [B.cell, B.cell, List.getElem?_append_left (by rw [hl]; omega), List.getElem?_append_left (by rw [hl]; omega)]
  exact ⟨flat_get pc_two X j 0 p hp (by decide), flat_get pc_two X j 1 p hp (by decide)⟩

theorem ptPut {w : World} {g : Nat} {X : List Pt} {sp : List Value} (B : Blk w g (X.flatMap pc ++ sp) 50) (i : Nat) (hi : i < X.length) (p : Pt) :
    Blk ((w.setCell ⟨g, i * 2, none⟩ (.int .i64 p.1)).setCell ⟨g, i * 2 + 1, none⟩ (.int .i64 p.2)) g ((X.set i p).flatMap pc ++ sp) 50 ∧ w.grownBy ((w.setCell ⟨g, i * 2, none⟩ (.int .i64 p.1)).setCell ⟨g, i * 2 + 1, none⟩ (.int .i64 p.2)) (some g) := by
  have hl := flat_length pc_two X
  have B2 := (B.set (i * 2) (.int .i64 p.1)).set (i * 2 + 1) (.int .i64 p.2)
  rw [List.set_append_left _ _ (by rw [hl]; omega), List.set_append_left _ _ (by rw [List.length_set, hl]; omega), flat_set p _ _ rfl pc_two X i hi] at B2
  exact ⟨B2, grownSet (grownSet (grownRefl w (some g)) _ _) _ _⟩

set_option maxHeartbeats 2000000 in
set_option maxRecDepth 100000 in
theorem deleteP (bl : List Pt) (sp : List Value) (f t : Int) (bg cf ct n G : Nat) (w : World) (B : Blk w bg (bl.flatMap pc ++ sp) 50) (Bf : Blk w cf [.int .i64 f] 3) (Bt : Blk w ct [.int .i64 t] 3) (hn : bl.length = n) (few : n ≤ 40) (hG : n ≤ G) (hG2 : G ≤ 9223372036854775807) :
    Calls Tryz.prog 54 #[.slice (some ⟨bg, 0, none⟩) n G, .func (.func 53) #[] #[.pointer (some ⟨cf, 0, none⟩), .pointer (some ⟨ct, 0, none⟩)]] w fun e w' =>
      ∃ tail : List Pt, e = .returned (.slice (some ⟨bg, 0, none⟩) (keptR f t bl).length G) ∧ (keptR f t bl ++ tail).length = n ∧ Blk w' bg ((keptR f t bl ++ tail).flatMap pc ++ sp) 50 ∧ w.grownBy w' (some bg) := by
  have S : SlP w (some ⟨bg, 0, none⟩) G bl := by
    refine ⟨B.row 0 _ (fun i v hv => ?_), by omega, hG2, fun e => by cases e⟩
    rw [cellsP_flat] at hv
    rw [Nat.zero_add, List.getElem?_append_left (List.getElem?_eq_some_iff.1 hv).1]
    exact hv
  have c1 := fun W h k m => indexR bl (some ⟨bg, 0, none⟩) G n f t cf ct W h k m hn few
  replace hn := hide hn
  go_enter Tryz.func54, Tryz.ntmps54
  go_wp2_with fail
  go_at_call 97
  refine (c1 _ S Bf Bt).mono ?_
  rintro e w1 ⟨b1, ⟨rfl, hall⟩ | ⟨k0, x0, rfl, hx0, hp0, hall⟩⟩
  · have B1 := B.keep b1 B.lt
    have e1 : keptR f t bl = bl := keptR_all hall
    have gr : w.grownBy w1 (some bg) := grownBelow b1
    replace e1 := hide e1
    replace hall := hide hall
    clear B Bf Bt c1 b1 S
    go_wp2_with fail
    go_ret
    exact ⟨[], by rw [e1.out, hn.out]; rfl, by rw [e1.out, List.append_nil]; exact hn.out, by rw [e1.out, List.append_nil]; exact B1, gr⟩
  · have B1 := B.keep b1 B.lt
    have Bf1 := Bf.keep b1 Bf.lt
    have Bt1 := Bt.keep b1 Bt.lt
    have gr : w.grownBy w1 (some bg) := grownBelow b1
    have hk0 : k0 < n := by rw [← hn.out]; exact (List.getElem?_eq_some_iff.1 hx0).1
    have hne1 : ((k0 : Int) == -1) = false := beq_eq_false_iff_ne.2 (by omega)
    have hne2 : ¬ (k0 : Int) = -1 := by omega
    have K0 : keptR f t (bl.take (k0 + 1)) = bl.take k0 := by
      rw [keptR_snoc f t bl k0 x0 hx0, if_pos hp0]
      exact keptR_all hall
    have hd0 : bl.drop k0 = x0 :: bl.drop (k0 + 1) := by
      obtain ⟨hk', rfl⟩ := List.getElem?_eq_some_iff.1 hx0
      exact List.drop_eq_getElem_cons hk'
    have st : Blk w1 bg ((keptR f t (bl.take (k0 + 1)) ++ [x0] ++ bl.drop (k0 + 1)).flatMap pc ++ sp) 50 := by
      rw [K0, List.append_assoc, List.singleton_append, ← hd0, List.take_append_drop]
      exact B1
    have sl : Hid (k0 = (keptR f t (bl.take (k0 + 1))).length) := hide (by rw [K0, List.length_take, hn.out]; omega)
    have hcf : bg ≠ cf := by
      rintro rfl
      exact absurd (blkType B Bf) (by decide)
    have hct : bg ≠ ct := by
      rintro rfl
      exact absurd (blkType B Bt) (by decide)
    replace hx0 := hide hx0
    replace hp0 := hide hp0
    replace hall := hide hall
    replace K0 := hide K0
    replace hd0 := hide hd0
    clear B Bf Bt c1 b1 B1 S
    go_wp2_with fail
    go_loopw [5, 6] (fun s5 s6 wr => ∃ (i j : Nat) (mid : List Pt), s5 = .int .i64 i ∧ s6 = .int .i64 j ∧ j ≤ n ∧ i < j ∧ Hid (i = (keptR f t (bl.take j)).length) ∧ Hid (mid.length = j - i) ∧ Blk wr bg ((keptR f t (bl.take j) ++ mid ++ bl.drop j).flatMap pc ++ sp) 50 ∧ Blk wr cf [.int .i64 f] 3 ∧ Blk wr ct [.int .i64 t] 3 ∧ w.grownBy wr (some bg)) (fun _ s6 _ => n - (intOf s6).toNat)
    case atStart => exact ⟨k0, k0 + 1, [x0], rfl, by go_num, by omega, by omega, sl, hide (by simp), st, Bf1, Bt1, gr⟩
    case round =>
      clear st Bf1 Bt1 gr sl
      obtain ⟨i, j, mid, rfl, rfl, hj, hij, hi, hm, B, Bf, Bt, gr⟩ := hrel
      by_cases hlt : j < n
      · obtain ⟨x, hx⟩ : ∃ x, bl[j]? = some x := ⟨_, List.getElem?_eq_getElem (by rw [hn.out]; exact hlt)⟩
        have hd : bl.drop j = x :: bl.drop (j + 1) := by
          obtain ⟨hk', rfl⟩ := List.getElem?_eq_some_iff.1 hx
          exact List.drop_eq_getElem_cons hk'
        have len : (keptR f t (bl.take j) ++ mid).length = j := by rw [List.length_append, ← hi.out, hm.out]; omega
        have hxj : (keptR f t (bl.take j) ++ mid ++ bl.drop j)[j]? = some x := by rw [List.getElem?_append_right (by omega), len, Nat.sub_self, hd]; rfl
        obtain ⟨y, mid', rfl⟩ : ∃ y mid', mid = y :: mid' := List.exists_cons_of_ne_nil (by intro e; have := hm.out; rw [e] at this; simp at this; omega)
        have hL : i < (keptR f t (bl.take j) ++ (y :: mid') ++ bl.drop j).length := by rw [List.length_append, len]; omega
        obtain ⟨c0, c1⟩ := ptGet B j x hxj
        have cv := fun W h k => outR_any x f t cf ct W h k
        have sn := keptR_snoc f t bl j x hx
        have hj8 : j < 40 := by omega
        have lb := B.lt
        have X := Blk.laid wr [.int .i64 x.1, .int .i64 x.2] 50 _ rfl
        have BA := B.alc (.cells #[.int .i64 x.1, .int .i64 x.2] 50)
        have BfA := Bf.alc (.cells #[.int .i64 x.1, .int .i64 x.2] 50)
        have BtA := Bt.alc (.cells #[.int .i64 x.1, .int .i64 x.2] 50)
        have grA := grownTrans gr (grownBelow (row := some bg) ((Below.refl wr.heap.size wr).alloc (Nat.le_refl _) (.cells #[.int .i64 x.1, .int .i64 x.2] 50)))
        replace hx := hide hx
        replace hd := hide hd
        replace len := hide len
        replace hxj := hide hxj
        replace hL := hide hL
        cases hp : outR f t x with
        | true =>
          rw [if_pos hp] at sn
          rw [hp] at cv
          replace sn := hide sn
          clear hp
          go_wp2_with fail
          generalize wr.alloc _ = w2 at *
          go_at_call 53
          refine (cv _ BfA BtA).mono ?_
          rintro e w3 ⟨rfl, b3⟩
          have B3 := BA.keep b3 BA.lt
          have Bf3 := BfA.keep b3 BfA.lt
          have Bt3 := BtA.keep b3 BtA.lt
          have gr3 := grownTrans grA (grownBelow (row := some bg) b3)
          clear B Bf Bt gr BA BfA BtA grA b3 c0 c1 X
          go_wp2_with fail
          go_roundw
          case rel => exact ⟨i, j + 1, y :: mid' ++ [x], rfl, by go_num, by omega, by omega, hide (by rw [sn.out]; exact hi.out), hide (by have := hm.out; simp only [List.length_append, List.length_cons, List.length_nil] at this ⊢; omega), by
              rw [sn.out]
              have e : keptR f t (bl.take j) ++ (y :: mid' ++ [x]) ++ bl.drop (j + 1) = keptR f t (bl.take j) ++ (y :: mid') ++ bl.drop j := by rw [hd.out]; simp
              rw [e]
              exact B3, Bf3, Bt3, gr3⟩
          case measure => simp [intOf]; omega
        | false =>
          rw [if_neg (by rw [hp]; decide)] at sn
          rw [hp] at cv
          replace sn := hide sn
          clear hp
          go_wp2_with fail
          generalize hgx : wr.heap.size = gx at *
          generalize wr.alloc _ = w2 at *
          clear hgx
          go_at_call 53
          refine (cv _ BfA BtA).mono ?_
          rintro e w3 ⟨rfl, b3⟩
          have B3 := BA.keep b3 BA.lt
          have Bf3 := BfA.keep b3 BfA.lt
          have Bt3 := BtA.keep b3 BtA.lt
          have X3 := X.keep b3 X.lt
          have gr3 := grownTrans grA (grownBelow (row := some bg) b3)
          have x0 : w3.cell? ⟨gx, 0, none⟩ = some (.int .i64 x.1) := X3.cell 0
          have x1 : w3.cell? ⟨gx, 1, none⟩ = some (.int .i64 x.2) := X3.cell 1
          obtain ⟨z, hz⟩ : ∃ z, (keptR f t (bl.take j) ++ (y :: mid') ++ bl.drop j)[i]? = some z := ⟨_, List.getElem?_eq_getElem hL.out⟩
          obtain ⟨d0, d1⟩ := ptGet B3 i z hz
          have f0 := B3.free (i * 2)
          have f1 := B3.free (i * 2 + 1)
          obtain ⟨B4, gr4⟩ := ptPut B3 i hL.out x
          have Bf4 := Bf3.grown gr4 (fun q e => by obtain rfl := Option.some.inj e; exact hcf)
          have Bt4 := Bt3.grown gr4 (fun q e => by obtain rfl := Option.some.inj e; exact hct)
          have gr5 := grownTrans gr3 gr4
          have i8 : i < 40 := by omega
          have i9 : (i : Int) < n := by omega
          replace hz := hide hz
          clear B Bf Bt gr BA BfA BtA grA b3 c0 c1 X X3 gr3 gr4 B3 Bf3 Bt3
          go_wp2_with fail
          go_roundw
          case rel => exact ⟨i + 1, j + 1, mid' ++ [x], by go_num, by go_num, by omega, by omega, hide (by rw [sn.out, List.length_append, ← hi.out]; rfl), hide (by have := hm.out; simp only [List.length_append, List.length_cons, List.length_nil] at this ⊢; omega), by
              rw [sn.out, ← mid_set (keptR f t (bl.take j)) mid' (bl.drop (j + 1)) y x i hi.out, ← hd.out]
              exact B4, Bf4, Bt4, gr5⟩
          case measure => simp [intOf]; omega
      · obtain rfl : j = n := by omega
        have e1 : bl.take j = bl := List.take_of_length_le (by rw [hn.out]; exact Nat.le_refl _)
        have e2 : bl.drop j = [] := List.drop_eq_nil_of_le (by rw [hn.out]; exact Nat.le_refl _)
        rw [e2, List.append_nil] at B
        rw [e1] at B hi
        have len : (keptR f t bl ++ mid).length = j := by rw [List.length_append, ← hi.out, hm.out]; omega
        have hfl := flat_length pc_two (keptR f t bl ++ mid)
        rw [len] at hfl
        have hcl := fun ty => run_clear_points wr 34 50 ty _ Tryz.underlying34 zeroPoint rfl bg (i * 2) (j - i) (G - i) (by omega) _ _ B (by rw [List.length_append, hfl]; omega)
        obtain ⟨B6, gr6⟩ := Blk.setCells ((List.replicate (j - i) ((0, 0) : Pt)).flatMap pc) (i * 2) B (by rw [List.length_append, hfl, flat_length pc_two, List.length_replicate]; omega)
        have e3 : splice ((keptR f t bl ++ mid).flatMap pc ++ sp) (i * 2) ((List.replicate (j - i) ((0, 0) : Pt)).flatMap pc) = (keptR f t bl ++ List.replicate (j - i) ((0, 0) : Pt)).flatMap pc ++ sp := by
          have hk := flat_length pc_two (keptR f t bl)
          rw [← hi.out] at hk
          have hr := flat_length pc_two (List.replicate (j - i) ((0, 0) : Pt))
          rw [List.length_replicate] at hr
          have hmm := flat_length pc_two mid
          rw [hm.out] at hmm
          unfold splice
          rw [hr, List.flatMap_append, List.flatMap_append, List.append_assoc, List.take_left' hk]
          generalize (keptR f t bl).flatMap pc = K at *
          generalize mid.flatMap pc = M at *
          generalize (List.replicate (j - i) ((0, 0) : Pt)).flatMap pc = R at *
          rw [← List.append_assoc K M sp, List.drop_left' (by rw [List.length_append, hk, hmm])]
          simp only [List.append_assoc]
        rw [e3] at B6
        have gr7 := grownTrans gr gr6
        have ne1 : ¬ j = i := by omega
        have ne2 : ¬ G = i := by omega
        have q1 : (i : Int) ≤ j := by omega
        have q2 : (j : Int) ≤ G := by omega
        replace e1 := hide e1
        replace e2 := hide e2
        replace e3 := hide e3
        replace len := hide len
        replace hfl := hide hfl
        clear B Bf Bt gr gr6
        go_wp2_with fail
        go_ret
        exact ⟨_, by rw [← hi.out]; rfl, by rw [List.length_append, ← hi.out, List.length_replicate]; omega, B6, gr7⟩

end Go.Proofs.YtcjdpilmhlfmfaaGreatDoor
