/-
  The contract of shelf.Same over shelves as plain lists.
-/
import Derived.Lib.SliceRun
import Derived.Test.YtjjfgmcgonkicaaGreatDoorP29
import Derived.Test.YtjjfgmcgonkicaaGreatDoorHSSame
import Derived.Test.YtjjfgmcgonkicaaGreatDoorP35
import Derived.Test.YtjjfgmcgonkicaaGreatDoorP10
import Derived.Test.YtjjfgmcgonkicaaGreatDoorHQRange
import Derived.Test.YtjjfgmcgonkicaaGreatDoorP03
import Derived.Test.YtjjfgmcgonkicaaGreatDoorP05
namespace Go.Proofs.YtjjfgmcgonkicaaGreatDoor
open Go.RowKit

theorem shSame_is {C D : List Rw} {a b : Option Addr} {G H : Nat} {W : World} (h : IsS W a G C) (k : IsS W b H D) (hl : C.length ≤ 140737488355328) :
    Calls Tryz.prog 26 #[.agg #[.slice a C.length G], .agg #[.slice b D.length H]] W fun e w' => e = .returned (.bool (sameSh C D)) ∧ Below W.heap.size W w' := by
  obtain ⟨rs, rfl, s⟩ := h.ex
  obtain ⟨qs, rfl, t⟩ := k.ex
  rw [List.length_map] at hl
  rw [List.length_map, List.length_map]
  exact sSame_any rs qs a b G H W s t hl

end Go.Proofs.YtjjfgmcgonkicaaGreatDoor

/-
  The small functions of package world: isReader, setReader, recordOf, loseAll, New.
-/
namespace Go.Proofs.YtjjfgmcgonkicaaGreatDoor
open Go.RowKit
open Go.Lib (byteCells)

def isRd (n : Int) : Bool := decide (0 ≤ n ∧ n ≤ 2)

set_option maxHeartbeats 1000000 in
set_option maxRecDepth 100000 in
theorem isReader_any (n : Int) (w : World) :
    Calls Tryz.prog 54 #[.int .i64 n] w fun e w' => e = .returned (.bool (isRd n)) ∧ w' = w := by
  by_cases h0 : n < 0
  · rw [show isRd n = false by unfold isRd; exact decide_eq_false (by omega)]
    go_enter Tryz.func54, Tryz.ntmps54
    go_wp2_with fail
    go_ret
    exact ⟨rfl, rfl⟩
  · by_cases h3 : n < 3
    · rw [show isRd n = true by unfold isRd; exact decide_eq_true (by omega)]
      go_enter Tryz.func54, Tryz.ntmps54
      go_wp2_with fail
      go_ret
      exact ⟨rfl, rfl⟩
    · rw [show isRd n = false by unfold isRd; exact decide_eq_false (by omega)]
      go_enter Tryz.func54, Tryz.ntmps54
      go_wp2_with fail
      go_ret
      exact ⟨rfl, rfl⟩

/-- What a change of a world in a box answers: the box is right again; nothing else was written. -/
def Did (Q : Nat → Prop) (g h : Nat) (W : World) (E : Int) (x : Wd) (e : Ending) (W' : World) : Prop :=
  e = .returned (.int .i64 E) ∧ ∃ (h' : Nat) (p' : Pw) (ys' : List Int), WdB Q W' g h' p' ys' x ∧ Gb2 g h W W' ∧ (h' = h ∨ W.heap.size ≤ h')

set_option maxHeartbeats 1000000 in
set_option maxRecDepth 100000 in
theorem setReader_any {Q : Nat → Prop} (n v : Int) (g h : Nat) (p : Pw) (ys : List Int) (x : Wd) (W : World) (B : WdB Q W g h p ys x) (hr : isRd n = true → wdE ⟨x.c, x.d, x.up, x.rd.set n.toNat v⟩ = 0) :
    Calls Tryz.prog 75 #[.pointer (some ⟨g, 0, none⟩), .int .i64 n, .int .i64 v] W (Did Q g h W (if isRd n = true then 0 else 5) (if isRd n = true then ⟨x.c, x.d, x.up, x.rd.set n.toNat v⟩ else x)) := by
  have c := fun W => isReader_any n W
  cases hn : isRd n with
  | false =>
    rw [hn] at c
    rw [if_neg (by decide), if_neg (by decide)]
    go_enter Tryz.func75, Tryz.ntmps75
    go_wp2_with fail
    go_at_call 54
    refine (c _).mono ?_
    rintro e w2 ⟨rfl, rfl⟩
    go_wp2_with fail
    go_ret
    exact ⟨rfl, h, p, ys, B, Gb2.refl _ _ _, .inl rfl⟩
  | true =>
    rw [hn] at c
    rw [if_pos rfl, if_pos rfl]
    have hn' : 0 ≤ n ∧ n ≤ 2 := by unfold isRd at hn; exact of_decide_eq_true hn
    obtain ⟨k, rfl⟩ : ∃ k : Nat, n = k := ⟨n.toNat, by omega⟩
    rw [Int.toNat_natCast] at hr ⊢
    have hk : k < 3 := by omega
    have B2 := B.reader k v (hr hn)
    have gr : Gb2 g h W (W.setCell ⟨h, k, none⟩ (.int .i64 v)) := Gb2.rds (grownSet (grownRefl W (some h)) _ _)
    obtain ⟨z, hz⟩ : ∃ z : Int, W.cell? ⟨h, k, none⟩ = some (.int .i64 z) := by
      have hl : k < ys.length := by
        have e1 := congrArg List.length B.ry
        obtain ⟨_, _, _, _, r5, _⟩ := wd_right B.right
        rw [List.length_take, r5] at e1
        omega
      exact ⟨ys[k], by rw [B.rb.cell, List.getElem?_map, List.getElem?_eq_getElem hl]; rfl⟩
    have hf := B.rb.free k
    have hl := B.rb.lt
    have x4 : W.cell? ⟨g, 4, none⟩ = some (.slice (some ⟨h, 0, none⟩) 3 p.rc) := by
      rw [B.blk.cell, ← B.ra]
      have : p.rn = 3 := by rw [B.is.er]; exact (wd_right B.right).2.2.2.2.1
      rw [← this]
      rfl
    have xl := B.blk.lt
    have hk3 : (k : Int) < 3 := by omega
    have hrm := B.rm
    replace B2 := hide B2
    replace gr := hide gr
    clear B hr hn hn'
    go_enter Tryz.func75, Tryz.ntmps75
    go_wp2_with fail
    go_at_call 54
    refine (c _).mono ?_
    rintro e w2 ⟨rfl, rfl⟩
    go_wp2_with fail
    go_ret
    exact ⟨rfl, h, p, _, B2.out, gr.out, .inl rfl⟩

end Go.Proofs.YtjjfgmcgonkicaaGreatDoor

/-
  recordOf, loseAll and New of package world.
-/
namespace Go.Proofs.YtjjfgmcgonkicaaGreatDoor
open Go.RowKit
open Go.Lib (byteCells)

/-- A record that was answered. -/
def AnsRec (W : World) (r : Rc) (e : Ending) (w' : World) : Prop :=
  ∃ (a : Option Addr) (n c : Nat), e = .returned (.agg #[.int .i64 r.k, .int .i64 r.s, .int .i64 r.n, .slice a n c]) ∧ Hid (n = r.e.length) ∧ SlW ec w' a c r.e ∧ Below W.heap.size W w'

theorem put4w {w : World} {g : Nat} {c0 c1 c2 c3 : Value} {t : TypeId} (h : Blk w g [c0, c1, c2, c3] t) (u0 u1 u2 u3 : Value) : Blk ((((w.setCell ⟨g, 0, none⟩ u0).setCell ⟨g, 1, none⟩ u1).setCell ⟨g, 2, none⟩ u2).setCell ⟨g, 3, none⟩ u3) g [u0, u1, u2, u3] t := (((h.set 0 u0).set 1 u1).set 2 u2).set 3 u3

theorem below4w {B : Nat} {w W : World} (h : Below B w W) {g : Nat} (hg : B ≤ g) (u0 u1 u2 u3 : Value) : Below B w ((((W.setCell ⟨g, 0, none⟩ u0).setCell ⟨g, 1, none⟩ u1).setCell ⟨g, 2, none⟩ u2).setCell ⟨g, 3, none⟩ u3) :=
  (((h.setCell (p := ⟨g, 0, none⟩) hg u0).setCell (p := ⟨g, 1, none⟩) hg u1).setCell (p := ⟨g, 2, none⟩) hg u2).setCell (p := ⟨g, 3, none⟩) hg u3

set_option maxHeartbeats 1000000 in
set_option maxRecDepth 100000 in
theorem recordOf_any (y : Hp) (ea : Option Addr) (en eC : Nat) (w : World) (s : SlW ec w ea eC y.e) (hn : Hid (en = y.e.length)) :
    Calls Tryz.prog 79 #[.agg #[.int .i64 y.k, .int .i64 y.s, .int .i64 y.n, .slice ea en eC]] w (AnsRec w (recOf y)) := by
  have B1 := (Blk.laid w [.int .i64 y.k, .int .i64 y.s, .int .i64 y.n, .slice ea en eC] 33 _ rfl).alc (.cells #[.int .i64 0, .int .i64 0, .int .i64 0, .slice none 0 0] 93)
  have B2 := Blk.laid (w.alloc (.cells #[.int .i64 y.k, .int .i64 y.s, .int .i64 y.n, .slice ea en eC] 33)) [.int .i64 0, .int .i64 0, .int .i64 0, .slice none 0 0] 93 (w.heap.size + 1) (by simp)
  have bel := newB (newB (Below.refl w.heap.size w) (.cells #[.int .i64 y.k, .int .i64 y.s, .int .i64 y.n, .slice ea en eC] 33)) (.cells #[.int .i64 0, .int .i64 0, .int .i64 0, .slice none 0 0] 93)
  have x0 := B1.cell 0
  have x1 := B1.cell 1
  have x2 := B1.cell 2
  have x3 := B1.cell 3
  have l1 := B1.lt
  have l2 := B2.lt
  have f0 := B2.free 0
  have f1 := B2.free 1
  have f2 := B2.free 2
  have f3 := B2.free 3
  have y0 := B2.cell 0
  have y1 := B2.cell 1
  have y2 := B2.cell 2
  have y3 := B2.cell 3
  obtain ⟨K, S, N, L⟩ := y
  simp only at *
  have ek : recOf ⟨K, S, N, L⟩ = if K = 2 then ⟨2, S, N, []⟩ else if K = 3 then ⟨3, S, N, []⟩ else if K = 4 then ⟨4, 0, N, []⟩ else ⟨1, 0, 0, L⟩ := rfl
  by_cases k2 : K = 2
  · subst k2
    rw [if_pos rfl] at ek
    rw [ek]
    clear ek
    go_enter Tryz.func79, Tryz.ntmps79
    go_upto_region 1 with fail
    generalize World.alloc (World.alloc w _) _ = wa at *
    go_wp2_with fail
    have B9 := put4w B2 (.int .i64 2) (.int .i64 S) (.int .i64 N) (.slice none 0 0)
    have bel9 := below4w bel (Nat.le_succ _) (.int .i64 2) (.int .i64 S) (.int .i64 N) (.slice none 0 0)
    have i0 := B9.cell 0
    have i1 := B9.cell 1
    have i2 := B9.cell 2
    have i3 := B9.cell 3
    exact bodyPost_ret (v := .agg #[.int .i64 2, .int .i64 S, .int .i64 N, .slice none 0 0]) (by simp [results, Tryz.results79, go_sem, i0, i1, i2, i3]) rfl ⟨_, _, _, rfl, hide rfl, SlW.ofNil _ _, bel9⟩
  by_cases k3 : K = 3
  · subst k3
    rw [if_neg (by decide), if_pos rfl] at ek
    rw [ek]
    clear ek
    go_enter Tryz.func79, Tryz.ntmps79
    go_upto_region 1 with fail
    generalize World.alloc (World.alloc w _) _ = wa at *
    go_wp2_with fail
    have B9 := put4w B2 (.int .i64 3) (.int .i64 S) (.int .i64 N) (.slice none 0 0)
    have bel9 := below4w bel (Nat.le_succ _) (.int .i64 3) (.int .i64 S) (.int .i64 N) (.slice none 0 0)
    have i0 := B9.cell 0
    have i1 := B9.cell 1
    have i2 := B9.cell 2
    have i3 := B9.cell 3
    exact bodyPost_ret (v := .agg #[.int .i64 3, .int .i64 S, .int .i64 N, .slice none 0 0]) (by simp [results, Tryz.results79, go_sem, i0, i1, i2, i3]) rfl ⟨_, _, _, rfl, hide rfl, SlW.ofNil _ _, bel9⟩
  by_cases k4 : K = 4
  · subst k4
    rw [if_neg (by decide), if_neg (by decide), if_pos rfl] at ek
    rw [ek]
    clear ek
    go_enter Tryz.func79, Tryz.ntmps79
    go_upto_region 1 with fail
    generalize World.alloc (World.alloc w _) _ = wa at *
    go_wp2_with fail
    have B9 := put4w B2 (.int .i64 4) (.int .i64 0) (.int .i64 N) (.slice none 0 0)
    have bel9 := below4w bel (Nat.le_succ _) (.int .i64 4) (.int .i64 0) (.int .i64 N) (.slice none 0 0)
    have i0 := B9.cell 0
    have i1 := B9.cell 1
    have i2 := B9.cell 2
    have i3 := B9.cell 3
    exact bodyPost_ret (v := .agg #[.int .i64 4, .int .i64 0, .int .i64 N, .slice none 0 0]) (by simp [results, Tryz.results79, go_sem, i0, i1, i2, i3]) rfl ⟨_, _, _, rfl, hide rfl, SlW.ofNil _ _, bel9⟩
  · rw [if_neg k2, if_neg k3, if_neg k4] at ek
    have d2 : decide (K = 2) = false := decide_eq_false k2
    have d3 : decide (K = 3) = false := decide_eq_false k3
    have d4 : decide (K = 4) = false := decide_eq_false k4
    rw [ek]
    clear ek
    go_enter Tryz.func79, Tryz.ntmps79
    go_upto_region 1 with fail
    generalize World.alloc (World.alloc w _) _ = wa at *
    go_wp2_with fail
    have B9 := put4w B2 (.int .i64 1) (.int .i64 0) (.int .i64 0) (.slice ea en eC)
    have bel9 := below4w bel (Nat.le_succ _) (.int .i64 1) (.int .i64 0) (.int .i64 0) (.slice ea en eC)
    have i0 := B9.cell 0
    have i1 := B9.cell 1
    have i2 := B9.cell 2
    have i3 := B9.cell 3
    exact bodyPost_ret (v := .agg #[.int .i64 1, .int .i64 0, .int .i64 0, .slice ea en eC]) (by simp [results, Tryz.results79, go_sem, i0, i1, i2, i3]) rfl ⟨_, _, _, rfl, hn, s.keep bel9 (Nat.le_refl _), bel9⟩

set_option maxHeartbeats 1000000 in
set_option maxRecDepth 100000 in
/-- All but the disk goes. -/
theorem loseAll_any (Q : Nat → Prop) (g : Nat) (p : Pw) (u : Bool) (d : Dk) (W : World) (B : Blk W g (p.cells u) 30) (e1 : p.n1 = d.safe.length) (e2 : p.n2 = d.wait.length) (s1 : Sl W p.a1 p.c1 (byteCells d.safe)) (s2 : Sl W p.a2 p.c2 (byteCells d.wait)) (hd : dkE d = 0) :
    Calls Tryz.prog 76 #[.pointer (some ⟨g, 0, none⟩)] W fun e W' => e = .returned (.tuple #[]) ∧ ∃ (h' : Nat) (p' : Pw) (ys' : List Int), WdB Q W' g h' p' ys' ⟨newS, d, false, shutR⟩ ∧ W.grownBy W' (some g) ∧ W.heap.size ≤ h' := by
  obtain ⟨sa, sn, sG, a1, n1, c1, a2, n2, c2, ra, rn, rc⟩ := p
  simp only [Pw.cells] at *
  replace e1 := hide e1
  replace e2 := hide e2
  go_enter Tryz.func76, Tryz.ntmps76
  go_wp2_with fail
  go_at_call 45
  refine (new_is _).mono ?_
  rintro e w2 ⟨aN, GN, rfl, IN, b2⟩
  replace B := B.keep b2 B.lt
  replace s1 := s1.call b2
  replace s2 := s2.call b2
  go_wp2_with fail
  go_at_call 46
  refine (allClosed_any _).mono ?_
  rintro e w3 ⟨gC, rfl, BC, hC, b3⟩
  replace B := B.keep b3 B.lt
  replace s1 := s1.call b3
  replace s2 := s2.call b3
  replace IN := IN.call b3
  have bel := belowCall b2 b3
  have hC2 := Nat.le_trans b2.size hC
  clear b2 b3
  have x0 := B.cell 0
  have x3 := B.cell 3
  have x4 := B.cell 4
  have f0 := B.free 0
  have f3 := B.free 3
  have f4 := B.free 4
  have xl := B.lt
  have B9 := ((B.set 0 (.slice aN 4 GN)).set 3 (.bool false)).set 4 (.slice (some ⟨gC, 0, none⟩) 3 3)
  have gr := grownSet (grownSet (grownSet (grownRefl w3 (some g)) 0 (.slice aN 4 GN)) 3 (.bool false)) 4 (.slice (some ⟨gC, 0, none⟩) 3 3)
  have WB := hide (WdB.wrote (Q := Q) (h := gC) (p := ⟨aN, 4, GN, a1, n1, c1, a2, n2, c2, some ⟨gC, 0, none⟩, 3, 3⟩) (ys := shutR) (x := ⟨newS, d, false, shutR⟩) B gr B9
    ⟨rfl, e1.out, e2.out, rfl, IN, s1, s2, (by exact Sl.ofBlk BC (by decide))⟩ (IsS.fresh IN) (down_right hd) rfl BC rfl (Nat.le_refl _))
  have gb := hide (gbTrans (gbBelow (row := some g) bel) gr)
  clear B9 gr BC IN s1 s2 B bel
  go_wp2_with fail
  exact bodyPost_end (v := .tuple #[]) (by simp [results, Tryz.results76, go_sem]) rfl ⟨rfl, _, _, _, WB.out, gb.out, hC2⟩

/-- A world that was answered. -/
def AnsW (W : World) (x : Wd) (E : Int) (e : Ending) (w' : World) : Prop :=
  ∃ p : Pw, e = .returned (.tuple #[p.val x.up, .int .i64 E]) ∧ IsW w' p x ∧ Below W.heap.size W w'

theorem put5r {w : World} {g : Nat} {c0 c1 c2 c3 c4 : Value} {t : TypeId} (h : Blk w g [c0, c1, c2, c3, c4] t) (u0 u1 u2 u3 u4 : Value) : Blk (((((w.setCell ⟨g, 0, none⟩ u0).setCell ⟨g, 1, none⟩ u1).setCell ⟨g, 2, none⟩ u2).setCell ⟨g, 3, none⟩ u3).setCell ⟨g, 4, none⟩ u4) g [u0, u1, u2, u3, u4] t := ((((h.set 0 u0).set 1 u1).set 2 u2).set 3 u3).set 4 u4

theorem below5r {B : Nat} {w W : World} (h : Below B w W) {g : Nat} (hg : B ≤ g) (u0 u1 u2 u3 u4 : Value) : Below B w (((((W.setCell ⟨g, 0, none⟩ u0).setCell ⟨g, 1, none⟩ u1).setCell ⟨g, 2, none⟩ u2).setCell ⟨g, 3, none⟩ u3).setCell ⟨g, 4, none⟩ u4) :=
  ((((h.setCell (p := ⟨g, 0, none⟩) hg u0).setCell (p := ⟨g, 1, none⟩) hg u1).setCell (p := ⟨g, 2, none⟩) hg u2).setCell (p := ⟨g, 3, none⟩) hg u3).setCell (p := ⟨g, 4, none⟩) hg u4

set_option maxHeartbeats 1000000 in
set_option maxRecDepth 100000 in
theorem newW_any (W : World) :
    Calls Tryz.prog 17 #[] W fun e w' => ∃ p : Pw, e = .returned (p.val true) ∧ IsW w' p wdNew ∧ Below W.heap.size W w' := by
  have B := Blk.laid W [.slice none 0 0, .slice none 0 0, .slice none 0 0, .bool false, .slice none 0 0] 30 _ rfl
  have bel := newB (Below.refl W.heap.size W) (.cells #[.slice none 0 0, .slice none 0 0, .slice none 0 0, .bool false, .slice none 0 0] 30)
  go_enter Tryz.func17, Tryz.ntmps17
  go_upto_region 1 with fail
  generalize World.alloc W _ = w1 at *
  go_wp2_with fail
  go_at_call 45
  refine (new_is _).mono ?_
  rintro e w2 ⟨aN, GN, rfl, IN, b2⟩
  replace B := B.keep b2 B.lt
  replace bel := belowCall bel b2
  go_wp2_with fail
  go_at_call 46
  refine (allClosed_any _).mono ?_
  rintro e w3 ⟨gC, rfl, BC, hC, b3⟩
  replace B := B.keep b3 B.lt
  replace bel := belowCall bel b3
  replace IN := IN.call b3
  clear b2 b3
  have x0 := B.cell 0
  have x1 := B.cell 1
  have x2 := B.cell 2
  have x3 := B.cell 3
  have x4 := B.cell 4
  have f0 := B.free 0
  have f1 := B.free 1
  have f2 := B.free 2
  have f3 := B.free 3
  have f4 := B.free 4
  have xl := B.lt
  have B9 := put5r B (.slice aN 4 GN) (.slice none 0 0) (.slice none 0 0) (.bool true) (.slice (some ⟨gC, 0, none⟩) 3 3)
  have bel9 := below5r bel (Nat.le_refl _) (.slice aN 4 GN) (.slice none 0 0) (.slice none 0 0) (.bool true) (.slice (some ⟨gC, 0, none⟩) 3 3)
  have gr := grownSet (grownSet (grownSet (grownSet (grownSet (grownRefl w3 (some W.heap.size)) 0 (.slice aN 4 GN)) 1 (.slice none 0 0)) 2 (.slice none 0 0)) 3 (.bool true)) 4 (.slice (some ⟨gC, 0, none⟩) 3 3)
  have WB := hide (WdB.wrote (Q := fun _ => False) (h := gC) (p := ⟨aN, 4, GN, none, 0, 0, none, 0, 0, some ⟨gC, 0, none⟩, 3, 3⟩) (ys := shutR) (x := wdNew) B gr B9
    ⟨rfl, rfl, rfl, rfl, IN, Sl.ofNil _, Sl.ofNil _, (by exact Sl.ofBlk BC (by decide))⟩ (IsS.fresh IN) wd_new rfl BC rfl (Nat.le_refl _))
  have i0 := B9.cell 0
  have i1 := B9.cell 1
  have i2 := B9.cell 2
  have i3 := B9.cell 3
  have i4 := B9.cell 4
  go_wp2_with fail
  exact bodyPost_ret (v := .agg #[.slice aN 4 GN, .slice none 0 0, .slice none 0 0, .bool true, .slice (some ⟨gC, 0, none⟩) 3 3]) (by simp [results, Tryz.results17, go_sem, i0, i1, i2, i3, i4]) rfl ⟨_, rfl, WB.out.is, bel9⟩

end Go.Proofs.YtjjfgmcgonkicaaGreatDoor

/-
  Is one of a world's readers outside?
-/
namespace Go.Proofs.YtjjfgmcgonkicaaGreatDoor
open Go.RowKit

def outs (last v : Int) : Bool := decide (v < -1) || decide (last < v)

set_option maxHeartbeats 1000000 in
set_option maxRecDepth 100000 in
theorem outs_any (last v : Int) (bl : Nat) (w : World) (B : Blk w bl [.int .i64 last] 3) :
    Calls Tryz.prog 85 #[.int .i64 v, .pointer (some ⟨bl, 0, none⟩)] w fun e w' => e = .returned (.bool (outs last v)) ∧ w' = w := by
  have d0 : w.cell? ⟨bl, 0, none⟩ = some (.int .i64 last) := B.cell 0
  have l0 := B.lt
  unfold outs
  by_cases h1 : v < -1
  · rw [decide_eq_true h1, Bool.true_or]
    go_enter Tryz.func85, Tryz.ntmps85
    go_wp2_with fail
    go_ret
    exact ⟨rfl, rfl⟩
  · rw [decide_eq_false h1, Bool.false_or]
    generalize hb : decide (last < v) = b at *
    go_enter Tryz.func85, Tryz.ntmps85
    go_wp2_with fail
    go_ret
    exact ⟨rfl, rfl⟩

set_option maxHeartbeats 1000000 in
set_option maxRecDepth 100000 in
theorem indexO (l : List Int) (ao : Option Addr) (cap n : Nat) (last : Int) (bl : Nat) (w : World) (S : Sl w ao cap (l.map (Value.int .i64))) (B : Blk w bl [.int .i64 last] 3) (hn : l.length = n) (few : n ≤ 40) :
    Calls Tryz.prog 66 #[.slice ao n cap, .func (.func 85) #[] #[.pointer (some ⟨bl, 0, none⟩)]] w fun e w' =>
      ∃ k : Int, e = .returned (.int .i64 k) ∧ Hid ((l.any (outs last) = true → 0 ≤ k) ∧ (l.any (outs last) = false → k < 0)) ∧ w' = w := by
  replace hn := hide hn
  go_enter Tryz.func66, Tryz.ntmps66
  go_wp2_with fail
  go_loopw [8] (fun i wr => ∃ (k : Nat), k ≤ n ∧ i = .int .i64 k ∧ Hid (∀ y ∈ l.take k, outs last y = false) ∧ wr = w) (fun i _ => n - (intOf i).toNat)
  case atStart => exact ⟨0, by omega, rfl, hide (fun y hy => by simp at hy), rfl⟩
  case round =>
    obtain ⟨k, hk, rfl, H, rfl⟩ := hrel
    by_cases hlt : k < n
    · have hkl : k < l.length := by rw [hn.out]; exact hlt
      obtain ⟨b, off, rfl, hbw, _⟩ := S.row.at (by intro e; rw [List.map_eq_nil_iff] at e; rw [e] at hkl; simp at hkl)
      have e0 := S.int k hkl
      have c := fun W h => outs_any last (l.getD k 0) bl W h
      have hk8 : k < 40 := by omega
      have hm : l.getD k 0 ∈ l := by rw [List.getD_eq_getElem?_getD, List.getElem?_eq_getElem hkl]; exact List.getElem_mem hkl
      have ht : l.take (k + 1) = l.take k ++ [l.getD k 0] := by rw [List.take_add_one, List.getD_eq_getElem?_getD, List.getElem?_eq_getElem hkl]; rfl
      replace ht := hide ht
      generalize l.getD k 0 = x at *
      clear hkl
      cases hp : outs last x with
      | true =>
        rw [hp] at c
        have ha : Hid (l.any (outs last) = true) := hide (List.any_eq_true.2 ⟨x, hm, hp⟩)
        clear hp hm ht
        go_wp2_with fail
        go_at_call 85
        refine (c _ B).mono ?_
        rintro e w2 ⟨rfl, rfl⟩
        go_wp2_with fail
        go_ret
        exact ⟨k, rfl, hide ⟨fun _ => by omega, fun h => by rw [ha.out] at h; cases h⟩, rfl⟩
      | false =>
        rw [hp] at c
        have H2 : ∀ z ∈ l.take (k + 1), outs last z = false := by
          intro z hz
          rw [ht.out] at hz
          rcases List.mem_append.1 hz with hz | hz
          · exact H.out z hz
          · rw [List.mem_singleton.1 hz]
            exact hp
        replace H2 := hide H2
        clear hp hm ht
        go_wp2_with fail
        go_at_call 85
        refine (c _ B).mono ?_
        rintro e w2 ⟨rfl, rfl⟩
        go_wp2_with fail
        go_roundw
        case rel => exact ⟨k + 1, by omega, by go_num, H2, by trivial⟩
        case measure => simp [intOf]; omega
    · obtain rfl : k = n := by omega
      have H' := H.out
      rw [List.take_of_length_le (by rw [hn.out]; exact Nat.le_refl _)] at H'
      have ha : Hid (l.any (outs last) = false) := hide (List.any_eq_false.2 (fun y hy => by rw [H' y hy]; decide))
      clear H' H
      go_wp2_with fail
      go_ret
      exact ⟨-1, rfl, hide ⟨fun h => (by rw [ha.out] at h; cases h), fun _ => by decide⟩, rfl⟩

set_option maxHeartbeats 1000000 in
set_option maxRecDepth 100000 in
theorem containsO (l : List Int) (ao : Option Addr) (cap n : Nat) (last : Int) (bl : Nat) (w : World) (S : Sl w ao cap (l.map (Value.int .i64))) (B : Blk w bl [.int .i64 last] 3) (hn : l.length = n) (few : n ≤ 40) :
    Calls Tryz.prog 28 #[.slice ao n cap, .func (.func 85) #[] #[.pointer (some ⟨bl, 0, none⟩)]] w fun e w' => e = .returned (.bool (l.any (outs last))) ∧ w' = w := by
  have c := fun W S B => indexO l ao cap n last bl W S B hn few
  replace hn := hide hn
  generalize l.any (outs last) = b at *
  go_enter Tryz.func28, Tryz.ntmps28
  go_wp2_with fail
  go_at_call 66
  refine (c _ S B).mono ?_
  rintro e w2 ⟨k, rfl, h12, rfl⟩
  obtain ⟨h1, h2⟩ := h12.out
  clear h12
  cases b with
  | true =>
    have hk := h1 rfl
    clear h1 h2
    go_wp2_with fail
    go_ret
    exact ⟨rfl, rfl⟩
  | false =>
    have hk : ¬ (0 : Int) ≤ k := by have := h2 rfl; omega
    have hk' : decide ((0 : Int) ≤ k) = false := decide_eq_false hk
    clear h1 h2
    go_wp2_with fail
    go_ret
    exact ⟨rfl, rfl⟩

end Go.Proofs.YtjjfgmcgonkicaaGreatDoor

/-
  world.replayed: the records of a world, and the shelf that they make, or what is wrong with it.
-/
namespace Go.Proofs.YtjjfgmcgonkicaaGreatDoor
open Go.RowKit
open Go.Lib (byteCells)

/-- A shelf that was answered, in a box just laid. -/
def LaidX (W : World) (D : List Rw) (dn : Nat) (E : Int) (e : Ending) (w' : World) : Prop :=
  ∃ a' G', e = .returned (.tuple #[.agg #[.slice a' dn G'], .int .i64 E]) ∧ Blk (w'.alloc (.cells #[.slice a' dn G'] 24)) w'.heap.size [.slice a' dn G'] 24 ∧ IsSL W.heap.size (w'.alloc (.cells #[.slice a' dn G'] 24)) a' G' D ∧ Below W.heap.size W (w'.alloc (.cells #[.slice a' dn G'] 24)) ∧ W.heap.size ≤ w'.heap.size

theorem laidX {E : Int} {D : List Rw} {dn : Nat} {W : World} {e : Ending} {w' : World} (h : MkO E D dn W e w') : LaidX W D dn E e w' := by
  obtain ⟨a', G', he, I, b⟩ := h
  exact ⟨a', G', he, Blk.laid w' [.slice a' dn G'] _ _ rfl, I.alloc _, newB b _, b.size⟩

/-- The records of a right world, and the shelf that they make. -/
def AnsP (W : World) (x : Wd) (e : Ending) (w' : World) : Prop :=
  ∃ (a' : Option Addr) (n' G' : Nat) (la : Option Addr) (ln lG : Nat) (l : List Lrc), e = .returned (.tuple #[.agg #[.slice a' n' G'], .slice la ln lG, .int .i64 (wdE x)]) ∧
    Hid (wdE x = 0 → n' = 4 ∧ IsS w' a' G' x.c ∧ SlRec w' la lG l ∧ ln = l.length ∧ l.map (·.r) = wdL x) ∧ Below W.heap.size W w'

theorem ansP_bad {W w' : World} {x : Wd} {E : Int} (hE : wdE x = E) (h0 : E ≠ 0) (b : Below W.heap.size W w') : AnsP W x (.returned (.tuple #[.agg #[.slice none 0 0], .slice none 0 0, .int .i64 E])) w' :=
  ⟨none, 0, 0, none, 0, 0, [], by rw [hE], hide (fun h => absurd (hE.symm.trans h) h0), b⟩

theorem outs_up (n : Nat) (l : List Int) : l.all (rdOk true n) = !l.any (outs n) := by
  induction l with
  | nil => rfl
  | cons v r ih =>
    rw [List.all_cons, List.any_cons, ih, Bool.not_or]
    congr 1
    unfold rdOk outs
    by_cases h1 : v < -1
    · simp [h1]
      try omega
    · by_cases h2 : (n : Int) < v
      · simp [h2]
        try omega
      · simp [h1, h2]
        try omega

theorem outs_down (l : List Int) : l.all (rdOk false 0) = !l.any (outs (-1)) := by
  induction l with
  | nil => rfl
  | cons v r ih =>
    rw [List.all_cons, List.any_cons, ih, Bool.not_or]
    congr 1
    unfold rdOk outs
    by_cases h1 : v < -1
    · simp [h1]
      try omega
    · by_cases h2 : (-1 : Int) < v
      · simp [h2]
        try omega
      · simp [h1, h2]
        try omega

theorem rec_len (d : Dk) : (recL d).length ≤ 60 := by
  by_cases h : dkE d = 0
  · exact (disk_canon h).2.2.1
  · unfold recL
    rw [if_neg h]
    exact Nat.zero_le _

theorem SlRec.box1 {w : World} {a : Option Addr} {cap g : Nat} {l : List Lrc} {t : TypeId} {a1 : Option Addr} {n1 c1 : Nat} (h : SlRec w a cap l) (B : Blk w g [.slice a1 n1 c1] t) (u : Value) : SlRec (w.setCell ⟨g, 0, none⟩ u) a cap l := by
  have gr := grownSet (grownRefl w (some g)) 0 u
  refine ⟨⟨?_, h.row.le, h.row.max, h.row.nil⟩, fun x hx => ⟨?_, (h.ent x hx).le, (h.ent x hx).max, (h.ent x hx).nil⟩⟩
  · by_cases hl : l = []
    · rw [hl]; exact .inl rfl
    · obtain ⟨y, q, hy⟩ := List.exists_cons_of_ne_nil hl
      exact h.row.row.off gr (h.row.row.offKind B (i := 0) (v := .int .i64 y.r.k) (by rw [hy]; rfl) (by simp))
  · by_cases hl : x.r.e = []
    · rw [hl]; exact .inl rfl
    · obtain ⟨y, q, hy⟩ := List.exists_cons_of_ne_nil hl
      exact (h.ent x hx).row.off gr ((h.ent x hx).row.offKind B (i := 0) (v := .int .i64 y.1) (by rw [hy]; rfl) (by simp))

set_option maxHeartbeats 4000000 in
set_option maxRecDepth 100000 in
theorem repl_true (C : List Rw) (D : Dk) (rd : List Int) (p : Pw) (w : World) (hg : Gl w) (I : IsW w p ⟨C, D, true, rd⟩) (few : p.n1 + p.n2 ≤ 9223372036854775807) (fewS : p.sn ≤ 140737488355328) :
    Calls Tryz.prog 42 #[p.val true] w (AnsP w ⟨C, D, true, rd⟩) := by
  obtain ⟨sa, sn, sG, a1, n1, c1, a2, n2, c2, ra, rn, rc⟩ := p
  simp only [Pw.val] at *
  obtain ⟨es, e1, e2, er, IS, S1, S2, SR⟩ := I
  simp only at *
  have hrm : rn ≤ rc := by have := SR.le; rw [List.length_map] at this; omega
  have cR := fun W g s t => recover_any D a1 a2 c1 c2 n1 n2 W g s t e1 e2 few
  obtain ⟨x, hx⟩ : ∃ x : Wd, x = ⟨C, D, true, rd⟩ := ⟨_, rfl⟩
  rw [← hx]
  have hXE : wdE x = if dkE D ≠ 0 then dkE D else if D.wait ≠ [] then 4 else if replE (recL D) ≠ 0 then replE (recL D) else if ¬ (sameSh C (replL (recL D)) = true ∧ rd.length = 3) then 4 else if rd.all (rdOk true (recL D).length) = true then 0 else 3 := by
    rw [hx]
    unfold wdE wdL
    simp only [if_true, true_and, ne_eq]
  have hXL : wdL x = recL D := by rw [hx]; rfl
  have hXC : x.c = C := by rw [hx]
  have cS := fun W (y : IsS W sa sG C) (D2 : List Rw) b H (z : IsS W b H D2) => shSame_is y z (by omega)
  rw [← es] at cS
  have BX := (Blk.laid w [.slice sa sn sG, .slice a1 n1 c1, .slice a2 n2 c2, .bool true, .slice ra rn rc] 30 _ rfl).alc (.cells #[.slice none 0 0] 24)
  have BR := Blk.laid (w.alloc (.cells #[.slice sa sn sG, .slice a1 n1 c1, .slice a2 n2 c2, .bool true, .slice ra rn rc] 30)) [.slice none 0 0] 24 (w.heap.size + 1) (by simp)
  have bel := newB (newB (Below.refl w.heap.size w) (.cells #[.slice sa sn sG, .slice a1 n1 c1, .slice a2 n2 c2, .bool true, .slice ra rn rc] 30)) (.cells #[.slice none 0 0] 24)
  replace IS := IS.keep bel (Nat.le_refl _)
  replace S1 := S1.keep bel (Nat.le_refl _)
  replace S2 := S2.keep bel (Nat.le_refl _)
  replace SR := SR.keep bel (Nat.le_refl _)
  have gl := hg.call bel
  obtain ⟨gR, hgR'⟩ : ∃ gR, gR = w.heap.size + 1 := ⟨_, rfl⟩
  rw [← hgR'] at BR
  have hgR : w.heap.size ≤ gR := by omega
  have hl60 := rec_len D
  replace hx := hide hx
  replace es := hide es
  replace e1 := hide e1
  replace e2 := hide e2
  replace er := hide er
  replace hXE := hide hXE
  replace hXL := hide hXL
  replace hXC := hide hXC
  go_enter Tryz.func42, Tryz.ntmps42
  go_upto_region 1 with fail
  rw [← hgR']
  generalize World.alloc (World.alloc w _) _ = w1 at *
  clear hgR'
  have x1 := BX.cell 1
  have x2 := BX.cell 2
  have xl := BX.lt
  go_wp2_with fail
  go_at_call 84
  refine ((cR _ gl S1 S2).mono fun _ _ h => h.laid).mono ?_
  rintro e w2 ⟨r1, i1, k1, r2, i2, k2, a3, n3, G3, l3, rfl, DR, LR, hn3, hl3, b2⟩
  clear x1 x2 xl cR DR gl
  replace BX := BX.keep b2 BX.lt
  replace BR := BR.keep b2 BR.lt
  replace IS := IS.call b2
  replace S2 := S2.call b2
  replace SR := SR.call b2
  replace bel := belowCall bel b2
  clear b2
  by_cases hd : dkE D = 0
  · rw [hd]
    rw [hd] at hXE
    have hXE2 := hXE.out
    rw [if_neg (by decide)] at hXE2
    replace hXE2 := hide hXE2
    clear hXE hd
    go_upto_region 4 with fail
    generalize World.alloc w2 _ = w3 at *
    have x3 := BX.cell 3
    have x2 := BX.cell 2
    have xl := BX.lt
    by_cases hw : D.wait = []
    · have hw0 : ¬ (0 : Int) < n2 := by rw [e2.out, hw]; decide
      have hXE3 := hXE2.out
      rw [if_neg (fun h => h hw)] at hXE3
      replace hXE3 := hide hXE3
      clear hXE2
      go_upto_region 6 with fail
      have BL := Blk.laid w3 [.int .i64 n3] 3 _ rfl
      have bq := newB (Below.refl w3.heap.size w3) (.cells #[.int .i64 n3] 3)
      replace BX := BX.keep bq BX.lt
      replace BR := BR.keep bq BR.lt
      replace IS := IS.call bq
      replace SR := SR.call bq
      replace LR := LR.call bq
      replace bel := belowCall bel bq
      clear bq x3 x2 xl S2
      go_upto_region 7 with fail
      generalize w3.heap.size = gL at *
      generalize World.alloc w3 _ = w4 at *
      have x3 := BX.cell 3
      have xl := BX.lt
      have hLl : (n3 : Int) = ((recL D).length : Int) := by rw [hn3.out, ← hl3.out, List.length_map]
      obtain ⟨last, hlast⟩ : ∃ last : Int, last = n3 := ⟨_, rfl⟩
      have houts : Hid (rd.all (rdOk true (recL D).length) = !rd.any (outs last)) := hide (by rw [outs_up, hlast, hLl])
      rw [← hlast] at BL
      replace hlast := hide hlast
      clear hLl
      obtain ⟨dn, hdn⟩ : ∃ d, Hid (d = (replL (l3.map (·.r))).length) := ⟨_, hide rfl⟩
      have cP := fun W s => replay_own l3 a3 n3 G3 dn W s hn3 hdn
      rw [hl3.out] at cP hdn
      go_upto_region 9 with fail
      clear x3 xl
      go_wp2_with fail
      go_at_call 55
      refine ((cP _ LR).mono fun _ _ h => laidX h).mono ?_
      rintro e w5 ⟨aS, GS, rfl, BS, ISL, b5, hsz5⟩
      clear cP
      replace BX := BX.keep b5 BX.lt
      replace BR := BR.keep b5 BR.lt
      replace BL := BL.keep b5 BL.lt
      replace IS := IS.call b5
      replace SR := SR.call b5
      replace LR := LR.call b5
      replace bel := belowCall bel b5
      clear b5
      by_cases hrE : replE (recL D) = 0
      · have hXE4 := hXE3.out
        rw [if_neg (by simp [hrE])] at hXE4
        replace hXE4 := hide hXE4
        clear hXE3
        have hright := repl_right hrE
        obtain rfl : dn = 4 := by rw [hdn.out]; exact right_len hright
        have h4 := hide (right_len hright)
        rw [hrE]
        go_upto_region 12 with fail
        generalize w5.heap.size = gS at *
        generalize World.alloc w5 _ = w6 at *
        have cX := cS _ IS (replL (recL D)) aS GS ISL.is
        rw [h4.out] at cX
        have x0 := BX.cell 0
        have x4 := BX.cell 4
        have xl := BX.lt
        have s0 := BS.cell 0
        have sl := BS.lt
        go_wp2_with fail
        go_at_call 26
        refine cX.mono ?_
        rintro e w7 ⟨rfl, b7⟩
        clear cX x0 x4 xl s0 sl cS
        replace BX := BX.keep b7 BX.lt
        replace BR := BR.keep b7 BR.lt
        replace BL := BL.keep b7 BL.lt
        replace BS := BS.keep b7 BS.lt
        replace IS := IS.call b7
        replace ISL := ISL.call b7
        replace SR := SR.call b7
        replace LR := LR.call b7
        replace bel := belowCall bel b7
        clear b7
        have x4 := BX.cell 4
        have xl := BX.lt
        by_cases hsm : sameSh C (replL (recL D)) = true
        · rw [hsm]
          by_cases hr3 : rn = 3
          · have hXE5 := hXE4.out
            rw [if_neg (fun h => h ⟨hsm, er.out.symm.trans hr3⟩)] at hXE5
            subst hr3
            have cO := fun W s b => containsO rd ra rc 3 last gL W s b er.out.symm (by decide)
            rw [houts.out] at hXE5
            replace hXE5 := hide hXE5
            clear hXE4 houts
            go_upto_region 15 with fail
            clear x4 xl
            have x4 := BX.cell 4
            have xl := BX.lt
            go_wp2_with fail
            go_at_call 28
            refine (cO _ SR BL).mono ?_
            rintro e w8 ⟨rfl, rfl⟩
            clear cO
            cases ha : rd.any (outs last) with
            | true =>
              have hXE6 := hXE5.out
              rw [ha, if_neg (by decide)] at hXE6
              replace hXE6 := hide hXE6
              clear hXE5 ha
              go_upto_region 16 with fail
              clear x4 xl
              have y0 := BR.cell 0
              have yf := BR.free 0
              have yl := BR.lt
              go_wp2_with fail
              have B9 := BR.set 0 (.slice none 0 0)
              have bel9 := bel.setCell (p := ⟨gR, 0, none⟩) hgR (.slice none 0 0)
              have i0 := B9.cell 0
              exact bodyPost_ret (v := .tuple #[.agg #[.slice none 0 0], .slice none 0 0, .int .i64 3]) (by simp [results, Tryz.results42, go_sem, i0]) rfl (ansP_bad hXE6.out (by decide) bel9)
            | false =>
              have hXE6 := hXE5.out
              rw [ha, if_pos (by decide)] at hXE6
              have hCC : Hid (replL (recL D) = x.c) := hide (by rw [hXC.out]; exact (sameSh_eq hsm).symm)
              have hE0 := hide hXE6
              clear hXE5 ha hsm hXE6
              go_upto_region 17 with fail
              clear x4 xl
              have s0 := BS.cell 0
              have sl := BS.lt
              have y0 := BR.cell 0
              have yf := BR.free 0
              have yl := BR.lt
              have B9 := BR.set 0 (.slice aS 4 GS)
              have bel9 := bel.setCell (p := ⟨gR, 0, none⟩) hgR (.slice aS 4 GS)
              have I9 := (ISL.boxed BR (.slice aS 4 GS)).is
              have L9 := LR.box1 BR (.slice aS 4 GS)
              have i0 := B9.cell 0
              go_wp2_with fail
              exact bodyPost_ret (v := .tuple #[.agg #[.slice aS 4 GS], .slice a3 n3 G3, .int .i64 0]) (by simp [results, Tryz.results42, go_sem, i0]) rfl
                ⟨aS, 4, GS, a3, n3, G3, l3, by rw [hE0.out], hide (fun _ => ⟨rfl, by rw [← hCC.out]; exact I9, L9, hn3.out, by rw [hl3.out, hXL.out]⟩), bel9⟩
          · have hXE5 := hXE4.out
            rw [if_pos (fun h => hr3 (er.out.trans h.2))] at hXE5
            have hr3' : ¬ (rn : Int) = 3 := by omega
            replace hXE5 := hide hXE5
            clear hXE4
            go_upto_region 13 with fail
            clear x4 xl
            have y0 := BR.cell 0
            have yf := BR.free 0
            have yl := BR.lt
            go_wp2_with fail
            have B9 := BR.set 0 (.slice none 0 0)
            have bel9 := bel.setCell (p := ⟨gR, 0, none⟩) hgR (.slice none 0 0)
            have i0 := B9.cell 0
            exact bodyPost_ret (v := .tuple #[.agg #[.slice none 0 0], .slice none 0 0, .int .i64 4]) (by simp [results, Tryz.results42, go_sem, i0]) rfl (ansP_bad hXE5.out (by decide) bel9)
        · have hXE5 := hXE4.out
          rw [if_pos (fun h => hsm h.1)] at hXE5
          have hsm' : sameSh C (replL (recL D)) = false := by simpa using hsm
          rw [hsm']
          replace hXE5 := hide hXE5
          clear hXE4
          go_upto_region 13 with fail
          clear x4 xl
          have y0 := BR.cell 0
          have yf := BR.free 0
          have yl := BR.lt
          go_wp2_with fail
          have B9 := BR.set 0 (.slice none 0 0)
          have bel9 := bel.setCell (p := ⟨gR, 0, none⟩) hgR (.slice none 0 0)
          have i0 := B9.cell 0
          exact bodyPost_ret (v := .tuple #[.agg #[.slice none 0 0], .slice none 0 0, .int .i64 4]) (by simp [results, Tryz.results42, go_sem, i0]) rfl (ansP_bad hXE5.out (by decide) bel9)
      · have hXE4 := hXE3.out
        rw [if_pos hrE] at hXE4
        have hrd : decide (replE (recL D) = 0) = false := decide_eq_false hrE
        generalize replE (recL D) = E at *
        replace hXE4 := hide hXE4
        clear hXE3
        go_upto_region 11 with fail
        generalize World.alloc w5 _ = w6 at *
        have y0 := BR.cell 0
        have yf := BR.free 0
        have yl := BR.lt
        go_wp2_with fail
        have B9 := BR.set 0 (.slice none 0 0)
        have bel9 := bel.setCell (p := ⟨gR, 0, none⟩) hgR (.slice none 0 0)
        have i0 := B9.cell 0
        exact bodyPost_ret (v := .tuple #[.agg #[.slice none 0 0], .slice none 0 0, .int .i64 E]) (by simp [results, Tryz.results42, go_sem, i0]) rfl (ansP_bad hXE4.out hrE bel9)
    · have hw0 : (0 : Int) < n2 := by
        rw [e2.out]
        have := List.length_pos_iff.2 hw
        omega
      have hXE3 := hXE2.out
      rw [if_pos hw] at hXE3
      replace hXE3 := hide hXE3
      clear hXE2
      go_upto_region 5 with fail
      clear x3 x2 xl
      have y0 := BR.cell 0
      have yf := BR.free 0
      have yl := BR.lt
      go_wp2_with fail
      have B9 := BR.set 0 (.slice none 0 0)
      have bel9 := bel.setCell (p := ⟨gR, 0, none⟩) hgR (.slice none 0 0)
      have i0 := B9.cell 0
      exact bodyPost_ret (v := .tuple #[.agg #[.slice none 0 0], .slice none 0 0, .int .i64 4]) (by simp [results, Tryz.results42, go_sem, i0]) rfl (ansP_bad hXE3.out (by decide) bel9)
  · have hXE2 := hXE.out
    rw [if_pos hd] at hXE2
    have hdd : decide (dkE D = 0) = false := decide_eq_false hd
    generalize dkE D = E at *
    replace hXE2 := hide hXE2
    clear hXE
    go_upto_region 3 with fail
    generalize World.alloc w2 _ = w3 at *
    have y0 := BR.cell 0
    have yf := BR.free 0
    have yl := BR.lt
    go_wp2_with fail
    have B9 := BR.set 0 (.slice none 0 0)
    have bel9 := bel.setCell (p := ⟨gR, 0, none⟩) hgR (.slice none 0 0)
    have i0 := B9.cell 0
    exact bodyPost_ret (v := .tuple #[.agg #[.slice none 0 0], .slice none 0 0, .int .i64 E]) (by simp [results, Tryz.results42, go_sem, i0]) rfl (ansP_bad hXE2.out hd bel9)

set_option maxHeartbeats 4000000 in
set_option maxRecDepth 100000 in
theorem repl_false (C : List Rw) (D : Dk) (rd : List Int) (p : Pw) (w : World) (hg : Gl w) (I : IsW w p ⟨C, D, false, rd⟩) (few : p.n1 + p.n2 ≤ 9223372036854775807) (fewS : p.sn ≤ 140737488355328) :
    Calls Tryz.prog 42 #[p.val false] w (AnsP w ⟨C, D, false, rd⟩) := by
  obtain ⟨sa, sn, sG, a1, n1, c1, a2, n2, c2, ra, rn, rc⟩ := p
  simp only [Pw.val] at *
  obtain ⟨es, e1, e2, er, IS, S1, S2, SR⟩ := I
  simp only at *
  have hrm : rn ≤ rc := by have := SR.le; rw [List.length_map] at this; omega
  have cR := fun W g s t => recover_any D a1 a2 c1 c2 n1 n2 W g s t e1 e2 few
  obtain ⟨x, hx⟩ : ∃ x : Wd, x = ⟨C, D, false, rd⟩ := ⟨_, rfl⟩
  rw [← hx]
  have hXE : wdE x = if dkE D ≠ 0 then dkE D else if False then 4 else if replE (([] : List Rc)) ≠ 0 then replE (([] : List Rc)) else if ¬ (sameSh C (replL (([] : List Rc))) = true ∧ rd.length = 3) then 4 else if rd.all (rdOk false (([] : List Rc)).length) = true then 0 else 3 := by
    rw [hx]
    unfold wdE wdL
    simp only [Bool.false_eq_true, false_and, if_false, ne_eq]
  have hXL : wdL x = [] := by rw [hx]; rfl
  have hXC : x.c = C := by rw [hx]
  have cS := fun W (y : IsS W sa sG C) (D2 : List Rw) b H (z : IsS W b H D2) => shSame_is y z (by omega)
  rw [← es] at cS
  have BX := (Blk.laid w [.slice sa sn sG, .slice a1 n1 c1, .slice a2 n2 c2, .bool false, .slice ra rn rc] 30 _ rfl).alc (.cells #[.slice none 0 0] 24)
  have BR := Blk.laid (w.alloc (.cells #[.slice sa sn sG, .slice a1 n1 c1, .slice a2 n2 c2, .bool false, .slice ra rn rc] 30)) [.slice none 0 0] 24 (w.heap.size + 1) (by simp)
  have bel := newB (newB (Below.refl w.heap.size w) (.cells #[.slice sa sn sG, .slice a1 n1 c1, .slice a2 n2 c2, .bool false, .slice ra rn rc] 30)) (.cells #[.slice none 0 0] 24)
  replace IS := IS.keep bel (Nat.le_refl _)
  replace S1 := S1.keep bel (Nat.le_refl _)
  replace S2 := S2.keep bel (Nat.le_refl _)
  replace SR := SR.keep bel (Nat.le_refl _)
  have gl := hg.call bel
  obtain ⟨gR, hgR'⟩ : ∃ gR, gR = w.heap.size + 1 := ⟨_, rfl⟩
  rw [← hgR'] at BR
  have hgR : w.heap.size ≤ gR := by omega
  have hl60 := rec_len D
  replace hx := hide hx
  replace es := hide es
  replace e1 := hide e1
  replace e2 := hide e2
  replace er := hide er
  replace hXE := hide hXE
  replace hXL := hide hXL
  replace hXC := hide hXC
  go_enter Tryz.func42, Tryz.ntmps42
  go_upto_region 1 with fail
  rw [← hgR']
  generalize World.alloc (World.alloc w _) _ = w1 at *
  clear hgR'
  have x1 := BX.cell 1
  have x2 := BX.cell 2
  have xl := BX.lt
  go_wp2_with fail
  go_at_call 84
  refine ((cR _ gl S1 S2).mono fun _ _ h => h.laid).mono ?_
  rintro e w2 ⟨r1, i1, k1, r2, i2, k2, a3, n3, G3, l3, rfl, DR, LR, hn3, hl3, b2⟩
  clear x1 x2 xl cR DR gl
  replace BX := BX.keep b2 BX.lt
  replace BR := BR.keep b2 BR.lt
  replace IS := IS.call b2
  replace S2 := S2.call b2
  replace SR := SR.call b2
  replace bel := belowCall bel b2
  clear b2
  by_cases hd : dkE D = 0
  · rw [hd]
    rw [hd] at hXE
    have hXE2 := hXE.out
    rw [if_neg (by decide)] at hXE2
    replace hXE2 := hide hXE2
    clear hXE hd
    go_upto_region 4 with fail
    generalize World.alloc w2 _ = w3 at *
    have x3 := BX.cell 3
    have xl := BX.lt
    have hXE3 := hXE2.out
    rw [if_neg (fun h => h)] at hXE3
    replace hXE3 := hide hXE3
    clear hXE2
    go_upto_region 6 with fail
    have BL0 := Blk.laid w3 [.int .i64 n3] 3 _ rfl
    have bq := newB (Below.refl w3.heap.size w3) (.cells #[.int .i64 n3] 3)
    have nXL : w.heap.size ≠ w3.heap.size := Nat.ne_of_lt BX.lt
    have nRL : gR ≠ w3.heap.size := Nat.ne_of_lt BR.lt
    replace BX := BX.keep bq BX.lt
    replace BR := BR.keep bq BR.lt
    have IS0 := IS
    have SR0 := SR
    have hgLw : w.heap.size ≤ w3.heap.size := bel.size
    replace bel := belowCall bel bq
    clear x3 xl LR S2
    go_upto_region 7 with fail
    have BL := BL0.set 0 (.int .i64 (-1))
    have bs := bq.setCell (p := ⟨w3.heap.size, 0, none⟩) (Nat.le_refl _) (.int .i64 (-1))
    replace IS := IS0.call bs
    replace SR := SR0.call bs
    have bel2 := bel.setCell (p := ⟨w3.heap.size, 0, none⟩) hgLw (.int .i64 (-1))
    clear bq bs IS0 SR0
    generalize w3.heap.size = gL at *
    generalize World.alloc w3 _ = w4 at *
    have x3 := BX.cell 3
    have xl := BX.lt
    have z0 := BL0.cell 0
    have zf := BL0.free 0
    have zl := BL0.lt
    have BX2 := BX.other 0 (.int .i64 (-1)) nXL.symm
    have BR2 := BR.other 0 (.int .i64 (-1)) nRL.symm
    go_upto_region 9 with fail
    clear x3 xl z0 zf zl BX BR BL0 bel nXL nRL
    have BX := BX2
    have BR := BR2
    have bel := bel2
    clear BX2 BR2 bel2
    generalize World.setCell w4 _ _ = w4b at *
    obtain ⟨last, hlast⟩ : ∃ last : Int, last = -1 := ⟨_, rfl⟩
    have houts : Hid (rd.all (rdOk false ([] : List Rc).length) = !rd.any (outs last)) := hide (by rw [hlast]; exact outs_down rd)
    rw [← hlast] at BL
    replace hlast := hide hlast
    obtain ⟨dn, hdn⟩ : ∃ d, Hid (d = (replL []).length) := ⟨_, hide rfl⟩
    have cP := fun W => replay_own [] none 0 0 dn W ⟨SlW.ofNil _ _, fun _ h => (by cases h)⟩ (hide rfl) hdn
    simp only [List.map_nil] at cP
    go_wp2_with fail
    go_at_call 55
    refine ((cP _).mono fun _ _ h => laidX h).mono ?_
    rintro e w5 ⟨aS, GS, rfl, BS, ISL, b5, hsz5⟩
    clear cP
    replace BX := BX.keep b5 BX.lt
    replace BR := BR.keep b5 BR.lt
    replace BL := BL.keep b5 BL.lt
    replace IS := IS.call b5
    replace SR := SR.call b5
    replace bel := belowCall bel b5
    clear b5
    have hrE : replE [] = 0 := rfl
    have hXE4 := hXE3.out
    rw [if_neg (by simp [hrE])] at hXE4
    replace hXE4 := hide hXE4
    clear hXE3
    have hright := repl_right hrE
    obtain rfl : dn = 4 := by rw [hdn.out]; exact right_len hright
    have h4 := hide (right_len hright)
    rw [hrE]
    go_upto_region 12 with fail
    generalize w5.heap.size = gS at *
    generalize World.alloc w5 _ = w6 at *
    have cX := cS _ IS (replL ([])) aS GS ISL.is
    rw [h4.out] at cX
    have x0 := BX.cell 0
    have x4 := BX.cell 4
    have xl := BX.lt
    have s0 := BS.cell 0
    have sl := BS.lt
    go_wp2_with fail
    go_at_call 26
    refine cX.mono ?_
    rintro e w7 ⟨rfl, b7⟩
    clear cX x0 x4 xl s0 sl cS
    replace BX := BX.keep b7 BX.lt
    replace BR := BR.keep b7 BR.lt
    replace BL := BL.keep b7 BL.lt
    replace BS := BS.keep b7 BS.lt
    replace IS := IS.call b7
    replace ISL := ISL.call b7
    replace SR := SR.call b7
    replace bel := belowCall bel b7
    clear b7
    have x4 := BX.cell 4
    have xl := BX.lt
    by_cases hsm : sameSh C (replL ([])) = true
    · rw [hsm]
      by_cases hr3 : rn = 3
      · have hXE5 := hXE4.out
        rw [if_neg (fun h => h ⟨hsm, er.out.symm.trans hr3⟩)] at hXE5
        subst hr3
        have cO := fun W s b => containsO rd ra rc 3 last gL W s b er.out.symm (by decide)
        rw [houts.out] at hXE5
        replace hXE5 := hide hXE5
        clear hXE4 houts
        go_upto_region 15 with fail
        clear x4 xl
        have x4 := BX.cell 4
        have xl := BX.lt
        go_wp2_with fail
        go_at_call 28
        refine (cO _ SR BL).mono ?_
        rintro e w8 ⟨rfl, rfl⟩
        clear cO
        cases ha : rd.any (outs last) with
        | true =>
          have hXE6 := hXE5.out
          rw [ha, if_neg (by decide)] at hXE6
          replace hXE6 := hide hXE6
          clear hXE5 ha
          go_upto_region 16 with fail
          clear x4 xl
          have y0 := BR.cell 0
          have yf := BR.free 0
          have yl := BR.lt
          go_wp2_with fail
          have B9 := BR.set 0 (.slice none 0 0)
          have bel9 := bel.setCell (p := ⟨gR, 0, none⟩) hgR (.slice none 0 0)
          have i0 := B9.cell 0
          exact bodyPost_ret (v := .tuple #[.agg #[.slice none 0 0], .slice none 0 0, .int .i64 3]) (by simp [results, Tryz.results42, go_sem, i0]) rfl (ansP_bad hXE6.out (by decide) bel9)
        | false =>
          have hXE6 := hXE5.out
          rw [ha, if_pos (by decide)] at hXE6
          have hCC : Hid (replL ([]) = x.c) := hide (by rw [hXC.out]; exact (sameSh_eq hsm).symm)
          have hE0 := hide hXE6
          clear hXE5 ha hsm hXE6
          go_upto_region 17 with fail
          clear x4 xl
          have s0 := BS.cell 0
          have sl := BS.lt
          have y0 := BR.cell 0
          have yf := BR.free 0
          have yl := BR.lt
          have B9 := BR.set 0 (.slice aS 4 GS)
          have bel9 := bel.setCell (p := ⟨gR, 0, none⟩) hgR (.slice aS 4 GS)
          have I9 := (ISL.boxed BR (.slice aS 4 GS)).is
          have i0 := B9.cell 0
          go_wp2_with fail
          exact bodyPost_ret (v := .tuple #[.agg #[.slice aS 4 GS], .slice none 0 0, .int .i64 0]) (by simp [results, Tryz.results42, go_sem, i0]) rfl
            ⟨aS, 4, GS, none, 0, 0, [], by rw [hE0.out], hide (fun _ => ⟨rfl, by rw [← hCC.out]; exact I9, ⟨SlW.ofNil _ _, fun _ h => (by cases h)⟩, rfl, by rw [hXL.out]; rfl⟩), bel9⟩
      · have hXE5 := hXE4.out
        rw [if_pos (fun h => hr3 (er.out.trans h.2))] at hXE5
        have hr3' : ¬ (rn : Int) = 3 := by omega
        replace hXE5 := hide hXE5
        clear hXE4
        go_upto_region 13 with fail
        clear x4 xl
        have y0 := BR.cell 0
        have yf := BR.free 0
        have yl := BR.lt
        go_wp2_with fail
        have B9 := BR.set 0 (.slice none 0 0)
        have bel9 := bel.setCell (p := ⟨gR, 0, none⟩) hgR (.slice none 0 0)
        have i0 := B9.cell 0
        exact bodyPost_ret (v := .tuple #[.agg #[.slice none 0 0], .slice none 0 0, .int .i64 4]) (by simp [results, Tryz.results42, go_sem, i0]) rfl (ansP_bad hXE5.out (by decide) bel9)
    · have hXE5 := hXE4.out
      rw [if_pos (fun h => hsm h.1)] at hXE5
      have hsm' : sameSh C (replL ([])) = false := by simpa using hsm
      rw [hsm']
      replace hXE5 := hide hXE5
      clear hXE4
      go_upto_region 13 with fail
      clear x4 xl
      have y0 := BR.cell 0
      have yf := BR.free 0
      have yl := BR.lt
      go_wp2_with fail
      have B9 := BR.set 0 (.slice none 0 0)
      have bel9 := bel.setCell (p := ⟨gR, 0, none⟩) hgR (.slice none 0 0)
      have i0 := B9.cell 0
      exact bodyPost_ret (v := .tuple #[.agg #[.slice none 0 0], .slice none 0 0, .int .i64 4]) (by simp [results, Tryz.results42, go_sem, i0]) rfl (ansP_bad hXE5.out (by decide) bel9)
  · have hXE2 := hXE.out
    rw [if_pos hd] at hXE2
    have hdd : decide (dkE D = 0) = false := decide_eq_false hd
    generalize dkE D = E at *
    replace hXE2 := hide hXE2
    clear hXE
    go_upto_region 3 with fail
    generalize World.alloc w2 _ = w3 at *
    have y0 := BR.cell 0
    have yf := BR.free 0
    have yl := BR.lt
    go_wp2_with fail
    have B9 := BR.set 0 (.slice none 0 0)
    have bel9 := bel.setCell (p := ⟨gR, 0, none⟩) hgR (.slice none 0 0)
    have i0 := B9.cell 0
    exact bodyPost_ret (v := .tuple #[.agg #[.slice none 0 0], .slice none 0 0, .int .i64 E]) (by simp [results, Tryz.results42, go_sem, i0]) rfl (ansP_bad hXE2.out hd bel9)

theorem replayed_any (x : Wd) (p : Pw) (w : World) (hg : Gl w) (I : IsW w p x) (few : p.n1 + p.n2 ≤ 9223372036854775807) (fewS : p.sn ≤ 140737488355328) :
    Calls Tryz.prog 42 #[p.val x.up] w (AnsP w x) := by
  obtain ⟨C, D, up, rd⟩ := x
  cases up
  · exact repl_false C D rd p w hg I few fewS
  · exact repl_true C D rd p w hg I few fewS

end Go.Proofs.YtjjfgmcgonkicaaGreatDoor

/-
  slices.Clone at bools: a slice of the call's own with the same values.
-/
namespace Go.Proofs.YtjjfgmcgonkicaaGreatDoor
open Go.RowKit

end Go.Proofs.YtjjfgmcgonkicaaGreatDoor
