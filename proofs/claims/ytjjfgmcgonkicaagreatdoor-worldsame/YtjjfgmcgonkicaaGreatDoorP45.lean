/-
  The walk of WorldSame.
-/
import Derived.Test.YtjjfgmcgonkicaaGreatDoorRows
import Derived.Test.YtjjfgmcgonkicaaGreatDoorCards
import Derived.Test.YtjjfgmcgonkicaaGreatDoorTie
import Derived.ProofKit
import Derived.ChangeMaps5
import Derived.LaidMore
import Derived.Stop.Joined
import Derived.SevenTiedAt
import Derived.Test.YtjjfgmcgonkicaaGreatDoorP43
import Derived.Test.YtjjfgmcgonkicaaGreatDoorP01
import Derived.Test.YtjjfgmcgonkicaaGreatDoorP35
namespace Go.Proofs.YtjjfgmcgonkicaaGreatDoor
open Go.RowKit
open Go.Lib (byteCells)

set_option maxHeartbeats 8000000 in
set_option maxRecDepth 100000 in
theorem wsame_walk (W : World) (hg : Gl W) (x : Wd) (p : Pw) (I : IsW W p x) (few : p.n1 + p.n2 ≤ 9223372036854775807) (fewS : p.sn ≤ 140737488355328) (_ : p.rn ≤ 140737488355328) (y : Hp) (ya : Option Addr) (yc : Nat) (S : SlW ec W ya yc y.e) (s : Int) (_ : (Lit.int .i64 s).wf = true) (f : Int) (_ : (Lit.int .i64 f).wf = true) (t : Int) (_ : (Lit.int .i64 t).wf = true) :
    Calls Tryz.prog 7 #[p.val x.up, .agg #[.int .i64 y.k, .int .i64 y.s, .int .i64 y.n, .slice ya y.e.length yc], .int .i64 s, .int .i64 f, .int .i64 t] W fun e w' => e = .returned (.bool true) ∧ Below W.heap.size W w' := by
  obtain ⟨K, Sr, N, L⟩ := y
  simp only at *
  obtain ⟨en, hen⟩ : ∃ en, en = L.length := ⟨_, rfl⟩
  rw [← hen]
  have c1 := fun V g i s => k_do (x := x) (p := p) (V := V) (ea := ya) (eC := yc) K Sr N L few fewS hen g i s
  obtain ⟨E, hE⟩ : ∃ E, E = doE x ⟨K, Sr, N, L⟩ := ⟨_, rfl⟩
  obtain ⟨X1, hX⟩ : ∃ X1, X1 = doW x ⟨K, Sr, N, L⟩ := ⟨_, rfl⟩
  rw [← hE, ← hX] at c1
  obtain ⟨m, hm, cA⟩ := k_at (k := s) 4 (by decide) (by decide)
  by_cases hz : E = 0
  · subst hz
    have hz : doE x ⟨K, Sr, N, L⟩ = 0 := hE.symm
    obtain ⟨hx, hh, hw⟩ := do_zero hz
    by_cases k2 : K = 2
    · subst k2
      have hS := hap_same hx hh (.inl rfl) m hm f t
      simp only at hS
      rw [if_neg (by decide)] at hS
      obtain ⟨z1, z2, z3⟩ := hS
      rw [← hw, ← hX] at z2 z3
      have hLl : (rngL (allL X1.c m) f t).length ≤ 4611686018427387904 := Nat.le_trans (List.length_filter_le _ _) (Nat.le_trans (allL_len X1.c m) (by decide))
      have cR1 := fun V (a : Option Addr) cn G (h : IsS V a G x.c) (hcn : cn = x.c.length) => k_range (m : Int) f t z3 z1 h hcn
      have cR2 := fun V (a : Option Addr) cn G (h : IsS V a G X1.c) (hcn : cn = X1.c.length) => k_range (m : Int) f t rfl z2 h hcn
      generalize rngL (allL X1.c m) f t = L1 at *
      clear z1 z2 z3 hx hh hw hz hE hX few fewS hen
      obtain ⟨C, D, U, R⟩ := x
      obtain ⟨sa, sn, sG, a1, n1, c1', a2, n2, c2', ra, rn, rc⟩ := p
      simp only [Pw.val] at *
      have BX := (Blk.laid W [.slice sa sn sG, .slice a1 n1 c1', .slice a2 n2 c2', .bool U, .slice ra rn rc] 30 _ rfl).alc (.cells #[.int .i64 2, .int .i64 Sr, .int .i64 N, .slice ya en yc] 33)
      have BP := Blk.laid (W.alloc (.cells #[.slice sa sn sG, .slice a1 n1 c1', .slice a2 n2 c2', .bool U, .slice ra rn rc] 30)) [.int .i64 2, .int .i64 Sr, .int .i64 N, .slice ya en yc] 33 (W.heap.size + 1) (by simp)
      obtain ⟨gP, hgP⟩ : ∃ gP, gP = W.heap.size + 1 := ⟨_, rfl⟩
      rw [← hgP] at BP
      have bel := newB (newB (Below.refl W.heap.size W) (.cells #[.slice sa sn sG, .slice a1 n1 c1', .slice a2 n2 c2', .bool U, .slice ra rn rc] 30)) (.cells #[.int .i64 2, .int .i64 Sr, .int .i64 N, .slice ya en yc] 33)
      replace I := I.keep bel (Nat.le_refl _)
      replace S := S.keep bel (Nat.le_refl _)
      go_enter Tryz.func7, Tryz.ntmps7
      go_upto_region 1 with fail
      rw [← hgP]
      generalize World.alloc (World.alloc W _) _ = w1 at *
      clear hgP
      have x0 := BX.cell 0
      have x1 := BX.cell 1
      have x2 := BX.cell 2
      have x3 := BX.cell 3
      have x4 := BX.cell 4
      have xl := BX.lt
      have p0 := BP.cell 0
      have p1 := BP.cell 1
      have p2 := BP.cell 2
      have p3 := BP.cell 3
      have pl := BP.lt
      go_wp2_with fail
      go_at_call 30
      refine (cA _).mono ?_
      rintro e w2 ⟨rfl, rfl⟩
      go_wp2_with fail
      go_at_call 11
      refine (c1 _ (hg.call bel) I S).mono ?_
      rintro e w3 ⟨⟨ba, bn, bG, b1, bm1, bk1, b2, bm2, bk2, br, brn, brc⟩, rfl, I2, b0⟩
      simp only [Pw.val]
      have b := newB b0 (.cells #[.slice ba bn bG, .slice b1 bm1 bk1, .slice b2 bm2 bk2, .bool X1.up, .slice br brn brc] 30)
      have BY := Blk.laid w3 [.slice ba bn bG, .slice b1 bm1 bk1, .slice b2 bm2 bk2, .bool X1.up, .slice br brn brc] 30 _ rfl
      replace I2 := I2.alloc (.cells #[.slice ba bn bG, .slice b1 bm1 bk1, .slice b2 bm2 bk2, .bool X1.up, .slice br brn brc] 30)
      clear b0
      clear x0 x1 x2 x3 x4 xl p0 p1 p2 p3 pl
      replace BX := BX.keep b BX.lt
      replace BP := BP.keep b BP.lt
      replace I := I.call b
      replace S := S.call b
      replace bel := belowCall bel b
      clear b
      have x0 := BX.cell 0
      have x1 := BX.cell 1
      have x2 := BX.cell 2
      have x3 := BX.cell 3
      have x4 := BX.cell 4
      have xl := BX.lt
      have p0 := BP.cell 0
      have p1 := BP.cell 1
      have p2 := BP.cell 2
      have p3 := BP.cell 3
      have pl := BP.lt
      go_upto_region 3 with fail
      generalize w3.heap.size = gBY at *
      generalize World.alloc w3 _ = w4 at *
      have y0 := BY.cell 0
      have y1 := BY.cell 1
      have y2 := BY.cell 2
      have y3 := BY.cell 3
      have y4 := BY.cell 4
      have yl := BY.lt
      go_wp2_with fail
      go_at_call 13
      refine (watched_any _ (hg.call bel)).mono ?_
      rintro e w5 ⟨rfl, b⟩
      clear x0 x1 x2 x3 x4 xl p0 p1 p2 p3 pl y0 y1 y2 y3 y4 yl
      replace BX := BX.keep b BX.lt
      replace BP := BP.keep b BP.lt
      replace BY := BY.keep b BY.lt
      replace I := I.call b
      replace S := S.call b
      replace I2 := I2.call b
      replace bel := belowCall bel b
      clear b
      have x0 := BX.cell 0
      have x1 := BX.cell 1
      have x2 := BX.cell 2
      have x3 := BX.cell 3
      have x4 := BX.cell 4
      have xl := BX.lt
      have p0 := BP.cell 0
      have p1 := BP.cell 1
      have p2 := BP.cell 2
      have p3 := BP.cell 3
      have pl := BP.lt
      have y0 := BY.cell 0
      have y1 := BY.cell 1
      have y2 := BY.cell 2
      have y3 := BY.cell 3
      have y4 := BY.cell 4
      have yl := BY.lt
      go_wp2_with fail
      go_at_call 31
      refine (cR1 _ _ _ _ I.s I.es).mono ?_
      rintro e w6 ⟨a3, n3, G3, rfl, hn3, T1, b⟩
      clear x0 x1 x2 x3 x4 xl p0 p1 p2 p3 pl y0 y1 y2 y3 y4 yl
      replace BX := BX.keep b BX.lt
      replace BP := BP.keep b BP.lt
      replace BY := BY.keep b BY.lt
      replace I := I.call b
      replace S := S.call b
      replace I2 := I2.call b
      replace bel := belowCall bel b
      clear b
      have x0 := BX.cell 0
      have x1 := BX.cell 1
      have x2 := BX.cell 2
      have x3 := BX.cell 3
      have x4 := BX.cell 4
      have xl := BX.lt
      have p0 := BP.cell 0
      have p1 := BP.cell 1
      have p2 := BP.cell 2
      have p3 := BP.cell 3
      have pl := BP.lt
      have y0 := BY.cell 0
      have y1 := BY.cell 1
      have y2 := BY.cell 2
      have y3 := BY.cell 3
      have y4 := BY.cell 4
      have yl := BY.lt
      go_wp2_with fail
      go_at_call 31
      refine (cR2 _ _ _ _ I2.s I2.es).mono ?_
      rintro e w7 ⟨a4, n4, G4, rfl, hn4, T2, b⟩
      clear x0 x1 x2 x3 x4 xl p0 p1 p2 p3 pl y0 y1 y2 y3 y4 yl
      replace BX := BX.keep b BX.lt
      replace BP := BP.keep b BP.lt
      replace BY := BY.keep b BY.lt
      replace I := I.call b
      replace S := S.call b
      replace I2 := I2.call b
      replace T1 := T1.call b
      replace bel := belowCall bel b
      clear b
      have x0 := BX.cell 0
      have x1 := BX.cell 1
      have x2 := BX.cell 2
      have x3 := BX.cell 3
      have x4 := BX.cell 4
      have xl := BX.lt
      have p0 := BP.cell 0
      have p1 := BP.cell 1
      have p2 := BP.cell 2
      have p3 := BP.cell 3
      have pl := BP.lt
      have y0 := BY.cell 0
      have y1 := BY.cell 1
      have y2 := BY.cell 2
      have y3 := BY.cell 3
      have y4 := BY.cell 4
      have yl := BY.lt
      go_wp2_with fail
      go_at_call 24
      refine (k_eqP hLl T1 T2 hn3 hn4).mono ?_
      rintro e w8 ⟨rfl, b⟩
      clear x0 x1 x2 x3 x4 xl p0 p1 p2 p3 pl y0 y1 y2 y3 y4 yl
      replace BX := BX.keep b BX.lt
      replace BP := BP.keep b BP.lt
      replace BY := BY.keep b BY.lt
      replace I := I.call b
      replace S := S.call b
      replace I2 := I2.call b
      replace T1 := T1.call b
      replace T2 := T2.call b
      replace bel := belowCall bel b
      clear b
      have x0 := BX.cell 0
      have x1 := BX.cell 1
      have x2 := BX.cell 2
      have x3 := BX.cell 3
      have x4 := BX.cell 4
      have xl := BX.lt
      have p0 := BP.cell 0
      have p1 := BP.cell 1
      have p2 := BP.cell 2
      have p3 := BP.cell 3
      have pl := BP.lt
      have y0 := BY.cell 0
      have y1 := BY.cell 1
      have y2 := BY.cell 2
      have y3 := BY.cell 3
      have y4 := BY.cell 4
      have yl := BY.lt
      go_wp2_with fail
      go_ret
      exact ⟨rfl, bel⟩
    by_cases k3 : K = 3
    · subst k3
      have hS := hap_same hx hh (.inr (.inl rfl)) m hm f t
      simp only at hS
      rw [if_neg (by decide)] at hS
      obtain ⟨z1, z2, z3⟩ := hS
      rw [← hw, ← hX] at z2 z3
      have hLl : (rngL (allL X1.c m) f t).length ≤ 4611686018427387904 := Nat.le_trans (List.length_filter_le _ _) (Nat.le_trans (allL_len X1.c m) (by decide))
      have cR1 := fun V (a : Option Addr) cn G (h : IsS V a G x.c) (hcn : cn = x.c.length) => k_range (m : Int) f t z3 z1 h hcn
      have cR2 := fun V (a : Option Addr) cn G (h : IsS V a G X1.c) (hcn : cn = X1.c.length) => k_range (m : Int) f t rfl z2 h hcn
      generalize rngL (allL X1.c m) f t = L1 at *
      clear z1 z2 z3 hx hh hw hz hE hX few fewS hen
      obtain ⟨C, D, U, R⟩ := x
      obtain ⟨sa, sn, sG, a1, n1, c1', a2, n2, c2', ra, rn, rc⟩ := p
      simp only [Pw.val] at *
      have BX := (Blk.laid W [.slice sa sn sG, .slice a1 n1 c1', .slice a2 n2 c2', .bool U, .slice ra rn rc] 30 _ rfl).alc (.cells #[.int .i64 3, .int .i64 Sr, .int .i64 N, .slice ya en yc] 33)
      have BP := Blk.laid (W.alloc (.cells #[.slice sa sn sG, .slice a1 n1 c1', .slice a2 n2 c2', .bool U, .slice ra rn rc] 30)) [.int .i64 3, .int .i64 Sr, .int .i64 N, .slice ya en yc] 33 (W.heap.size + 1) (by simp)
      obtain ⟨gP, hgP⟩ : ∃ gP, gP = W.heap.size + 1 := ⟨_, rfl⟩
      rw [← hgP] at BP
      have bel := newB (newB (Below.refl W.heap.size W) (.cells #[.slice sa sn sG, .slice a1 n1 c1', .slice a2 n2 c2', .bool U, .slice ra rn rc] 30)) (.cells #[.int .i64 3, .int .i64 Sr, .int .i64 N, .slice ya en yc] 33)
      replace I := I.keep bel (Nat.le_refl _)
      replace S := S.keep bel (Nat.le_refl _)
      go_enter Tryz.func7, Tryz.ntmps7
      go_upto_region 1 with fail
      rw [← hgP]
      generalize World.alloc (World.alloc W _) _ = w1 at *
      clear hgP
      have x0 := BX.cell 0
      have x1 := BX.cell 1
      have x2 := BX.cell 2
      have x3 := BX.cell 3
      have x4 := BX.cell 4
      have xl := BX.lt
      have p0 := BP.cell 0
      have p1 := BP.cell 1
      have p2 := BP.cell 2
      have p3 := BP.cell 3
      have pl := BP.lt
      go_wp2_with fail
      go_at_call 30
      refine (cA _).mono ?_
      rintro e w2 ⟨rfl, rfl⟩
      go_wp2_with fail
      go_at_call 11
      refine (c1 _ (hg.call bel) I S).mono ?_
      rintro e w3 ⟨⟨ba, bn, bG, b1, bm1, bk1, b2, bm2, bk2, br, brn, brc⟩, rfl, I2, b0⟩
      simp only [Pw.val]
      have b := newB b0 (.cells #[.slice ba bn bG, .slice b1 bm1 bk1, .slice b2 bm2 bk2, .bool X1.up, .slice br brn brc] 30)
      have BY := Blk.laid w3 [.slice ba bn bG, .slice b1 bm1 bk1, .slice b2 bm2 bk2, .bool X1.up, .slice br brn brc] 30 _ rfl
      replace I2 := I2.alloc (.cells #[.slice ba bn bG, .slice b1 bm1 bk1, .slice b2 bm2 bk2, .bool X1.up, .slice br brn brc] 30)
      clear b0
      clear x0 x1 x2 x3 x4 xl p0 p1 p2 p3 pl
      replace BX := BX.keep b BX.lt
      replace BP := BP.keep b BP.lt
      replace I := I.call b
      replace S := S.call b
      replace bel := belowCall bel b
      clear b
      have x0 := BX.cell 0
      have x1 := BX.cell 1
      have x2 := BX.cell 2
      have x3 := BX.cell 3
      have x4 := BX.cell 4
      have xl := BX.lt
      have p0 := BP.cell 0
      have p1 := BP.cell 1
      have p2 := BP.cell 2
      have p3 := BP.cell 3
      have pl := BP.lt
      go_upto_region 3 with fail
      generalize w3.heap.size = gBY at *
      generalize World.alloc w3 _ = w4 at *
      have y0 := BY.cell 0
      have y1 := BY.cell 1
      have y2 := BY.cell 2
      have y3 := BY.cell 3
      have y4 := BY.cell 4
      have yl := BY.lt
      go_wp2_with fail
      go_at_call 13
      refine (watched_any _ (hg.call bel)).mono ?_
      rintro e w5 ⟨rfl, b⟩
      clear x0 x1 x2 x3 x4 xl p0 p1 p2 p3 pl y0 y1 y2 y3 y4 yl
      replace BX := BX.keep b BX.lt
      replace BP := BP.keep b BP.lt
      replace BY := BY.keep b BY.lt
      replace I := I.call b
      replace S := S.call b
      replace I2 := I2.call b
      replace bel := belowCall bel b
      clear b
      have x0 := BX.cell 0
      have x1 := BX.cell 1
      have x2 := BX.cell 2
      have x3 := BX.cell 3
      have x4 := BX.cell 4
      have xl := BX.lt
      have p0 := BP.cell 0
      have p1 := BP.cell 1
      have p2 := BP.cell 2
      have p3 := BP.cell 3
      have pl := BP.lt
      have y0 := BY.cell 0
      have y1 := BY.cell 1
      have y2 := BY.cell 2
      have y3 := BY.cell 3
      have y4 := BY.cell 4
      have yl := BY.lt
      go_wp2_with fail
      go_at_call 31
      refine (cR1 _ _ _ _ I.s I.es).mono ?_
      rintro e w6 ⟨a3, n3, G3, rfl, hn3, T1, b⟩
      clear x0 x1 x2 x3 x4 xl p0 p1 p2 p3 pl y0 y1 y2 y3 y4 yl
      replace BX := BX.keep b BX.lt
      replace BP := BP.keep b BP.lt
      replace BY := BY.keep b BY.lt
      replace I := I.call b
      replace S := S.call b
      replace I2 := I2.call b
      replace bel := belowCall bel b
      clear b
      have x0 := BX.cell 0
      have x1 := BX.cell 1
      have x2 := BX.cell 2
      have x3 := BX.cell 3
      have x4 := BX.cell 4
      have xl := BX.lt
      have p0 := BP.cell 0
      have p1 := BP.cell 1
      have p2 := BP.cell 2
      have p3 := BP.cell 3
      have pl := BP.lt
      have y0 := BY.cell 0
      have y1 := BY.cell 1
      have y2 := BY.cell 2
      have y3 := BY.cell 3
      have y4 := BY.cell 4
      have yl := BY.lt
      go_wp2_with fail
      go_at_call 31
      refine (cR2 _ _ _ _ I2.s I2.es).mono ?_
      rintro e w7 ⟨a4, n4, G4, rfl, hn4, T2, b⟩
      clear x0 x1 x2 x3 x4 xl p0 p1 p2 p3 pl y0 y1 y2 y3 y4 yl
      replace BX := BX.keep b BX.lt
      replace BP := BP.keep b BP.lt
      replace BY := BY.keep b BY.lt
      replace I := I.call b
      replace S := S.call b
      replace I2 := I2.call b
      replace T1 := T1.call b
      replace bel := belowCall bel b
      clear b
      have x0 := BX.cell 0
      have x1 := BX.cell 1
      have x2 := BX.cell 2
      have x3 := BX.cell 3
      have x4 := BX.cell 4
      have xl := BX.lt
      have p0 := BP.cell 0
      have p1 := BP.cell 1
      have p2 := BP.cell 2
      have p3 := BP.cell 3
      have pl := BP.lt
      have y0 := BY.cell 0
      have y1 := BY.cell 1
      have y2 := BY.cell 2
      have y3 := BY.cell 3
      have y4 := BY.cell 4
      have yl := BY.lt
      go_wp2_with fail
      go_at_call 24
      refine (k_eqP hLl T1 T2 hn3 hn4).mono ?_
      rintro e w8 ⟨rfl, b⟩
      clear x0 x1 x2 x3 x4 xl p0 p1 p2 p3 pl y0 y1 y2 y3 y4 yl
      replace BX := BX.keep b BX.lt
      replace BP := BP.keep b BP.lt
      replace BY := BY.keep b BY.lt
      replace I := I.call b
      replace S := S.call b
      replace I2 := I2.call b
      replace T1 := T1.call b
      replace T2 := T2.call b
      replace bel := belowCall bel b
      clear b
      have x0 := BX.cell 0
      have x1 := BX.cell 1
      have x2 := BX.cell 2
      have x3 := BX.cell 3
      have x4 := BX.cell 4
      have xl := BX.lt
      have p0 := BP.cell 0
      have p1 := BP.cell 1
      have p2 := BP.cell 2
      have p3 := BP.cell 3
      have pl := BP.lt
      have y0 := BY.cell 0
      have y1 := BY.cell 1
      have y2 := BY.cell 2
      have y3 := BY.cell 3
      have y4 := BY.cell 4
      have yl := BY.lt
      go_wp2_with fail
      go_ret
      exact ⟨rfl, bel⟩
    by_cases k4 : K = 4
    · subst k4
      have hS := hap_same hx hh (.inr (.inr rfl)) m hm f t
      simp only at hS
      rw [if_pos trivial] at hS
      obtain ⟨M, hM⟩ : ∃ M, M = max f N := ⟨_, rfl⟩
      rw [← hM] at hS
      have hmax : ∀ (ts : Array TypeId) (t : TypeId) (V : World), (Builtin.max_ ts t #[.int .i64 f, .int .i64 N]).run Tryz.prog V = .ok (.int .i64 M) V := by
        intro ts t V
        rw [Lib.run_max_ints, hM]
      clear hM
      obtain ⟨z1, z2, z3⟩ := hS
      rw [← hw, ← hX] at z2 z3
      have hLl : (rngL (allL X1.c m) M t).length ≤ 4611686018427387904 := Nat.le_trans (List.length_filter_le _ _) (Nat.le_trans (allL_len X1.c m) (by decide))
      have cR1 := fun V (a : Option Addr) cn G (h : IsS V a G x.c) (hcn : cn = x.c.length) => k_range (m : Int) M t z3 z1 h hcn
      have cR2 := fun V (a : Option Addr) cn G (h : IsS V a G X1.c) (hcn : cn = X1.c.length) => k_range (m : Int) M t rfl z2 h hcn
      generalize rngL (allL X1.c m) M t = L1 at *
      clear z1 z2 z3 hx hh hw hz hE hX few fewS hen
      obtain ⟨C, D, U, R⟩ := x
      obtain ⟨sa, sn, sG, a1, n1, c1', a2, n2, c2', ra, rn, rc⟩ := p
      simp only [Pw.val] at *
      have BX := (Blk.laid W [.slice sa sn sG, .slice a1 n1 c1', .slice a2 n2 c2', .bool U, .slice ra rn rc] 30 _ rfl).alc (.cells #[.int .i64 4, .int .i64 Sr, .int .i64 N, .slice ya en yc] 33)
      have BP := Blk.laid (W.alloc (.cells #[.slice sa sn sG, .slice a1 n1 c1', .slice a2 n2 c2', .bool U, .slice ra rn rc] 30)) [.int .i64 4, .int .i64 Sr, .int .i64 N, .slice ya en yc] 33 (W.heap.size + 1) (by simp)
      obtain ⟨gP, hgP⟩ : ∃ gP, gP = W.heap.size + 1 := ⟨_, rfl⟩
      rw [← hgP] at BP
      have bel := newB (newB (Below.refl W.heap.size W) (.cells #[.slice sa sn sG, .slice a1 n1 c1', .slice a2 n2 c2', .bool U, .slice ra rn rc] 30)) (.cells #[.int .i64 4, .int .i64 Sr, .int .i64 N, .slice ya en yc] 33)
      replace I := I.keep bel (Nat.le_refl _)
      replace S := S.keep bel (Nat.le_refl _)
      go_enter Tryz.func7, Tryz.ntmps7
      go_upto_region 1 with fail
      rw [← hgP]
      generalize World.alloc (World.alloc W _) _ = w1 at *
      clear hgP
      have x0 := BX.cell 0
      have x1 := BX.cell 1
      have x2 := BX.cell 2
      have x3 := BX.cell 3
      have x4 := BX.cell 4
      have xl := BX.lt
      have p0 := BP.cell 0
      have p1 := BP.cell 1
      have p2 := BP.cell 2
      have p3 := BP.cell 3
      have pl := BP.lt
      go_wp2_with fail
      go_at_call 30
      refine (cA _).mono ?_
      rintro e w2 ⟨rfl, rfl⟩
      go_wp2_with fail
      go_at_call 11
      refine (c1 _ (hg.call bel) I S).mono ?_
      rintro e w3 ⟨⟨ba, bn, bG, b1, bm1, bk1, b2, bm2, bk2, br, brn, brc⟩, rfl, I2, b0⟩
      simp only [Pw.val]
      have b := newB b0 (.cells #[.slice ba bn bG, .slice b1 bm1 bk1, .slice b2 bm2 bk2, .bool X1.up, .slice br brn brc] 30)
      have BY := Blk.laid w3 [.slice ba bn bG, .slice b1 bm1 bk1, .slice b2 bm2 bk2, .bool X1.up, .slice br brn brc] 30 _ rfl
      replace I2 := I2.alloc (.cells #[.slice ba bn bG, .slice b1 bm1 bk1, .slice b2 bm2 bk2, .bool X1.up, .slice br brn brc] 30)
      clear b0
      clear x0 x1 x2 x3 x4 xl p0 p1 p2 p3 pl
      replace BX := BX.keep b BX.lt
      replace BP := BP.keep b BP.lt
      replace I := I.call b
      replace S := S.call b
      replace bel := belowCall bel b
      clear b
      have x0 := BX.cell 0
      have x1 := BX.cell 1
      have x2 := BX.cell 2
      have x3 := BX.cell 3
      have x4 := BX.cell 4
      have xl := BX.lt
      have p0 := BP.cell 0
      have p1 := BP.cell 1
      have p2 := BP.cell 2
      have p3 := BP.cell 3
      have pl := BP.lt
      go_upto_region 3 with fail
      generalize w3.heap.size = gBY at *
      generalize World.alloc w3 _ = w4 at *
      have y0 := BY.cell 0
      have y1 := BY.cell 1
      have y2 := BY.cell 2
      have y3 := BY.cell 3
      have y4 := BY.cell 4
      have yl := BY.lt
      go_wp2_with fail
      go_at_call 13
      refine (watched_any _ (hg.call bel)).mono ?_
      rintro e w5 ⟨rfl, b⟩
      clear x0 x1 x2 x3 x4 xl p0 p1 p2 p3 pl y0 y1 y2 y3 y4 yl
      replace BX := BX.keep b BX.lt
      replace BP := BP.keep b BP.lt
      replace BY := BY.keep b BY.lt
      replace I := I.call b
      replace S := S.call b
      replace I2 := I2.call b
      replace bel := belowCall bel b
      clear b
      have x0 := BX.cell 0
      have x1 := BX.cell 1
      have x2 := BX.cell 2
      have x3 := BX.cell 3
      have x4 := BX.cell 4
      have xl := BX.lt
      have p0 := BP.cell 0
      have p1 := BP.cell 1
      have p2 := BP.cell 2
      have p3 := BP.cell 3
      have pl := BP.lt
      have y0 := BY.cell 0
      have y1 := BY.cell 1
      have y2 := BY.cell 2
      have y3 := BY.cell 3
      have y4 := BY.cell 4
      have yl := BY.lt
      go_wp2_with fail
      go_at_call 31
      refine (cR1 _ _ _ _ I.s I.es).mono ?_
      rintro e w6 ⟨a3, n3, G3, rfl, hn3, T1, b⟩
      clear x0 x1 x2 x3 x4 xl p0 p1 p2 p3 pl y0 y1 y2 y3 y4 yl
      replace BX := BX.keep b BX.lt
      replace BP := BP.keep b BP.lt
      replace BY := BY.keep b BY.lt
      replace I := I.call b
      replace S := S.call b
      replace I2 := I2.call b
      replace bel := belowCall bel b
      clear b
      have x0 := BX.cell 0
      have x1 := BX.cell 1
      have x2 := BX.cell 2
      have x3 := BX.cell 3
      have x4 := BX.cell 4
      have xl := BX.lt
      have p0 := BP.cell 0
      have p1 := BP.cell 1
      have p2 := BP.cell 2
      have p3 := BP.cell 3
      have pl := BP.lt
      have y0 := BY.cell 0
      have y1 := BY.cell 1
      have y2 := BY.cell 2
      have y3 := BY.cell 3
      have y4 := BY.cell 4
      have yl := BY.lt
      go_wp2_with fail
      go_at_call 31
      refine (cR2 _ _ _ _ I2.s I2.es).mono ?_
      rintro e w7 ⟨a4, n4, G4, rfl, hn4, T2, b⟩
      clear x0 x1 x2 x3 x4 xl p0 p1 p2 p3 pl y0 y1 y2 y3 y4 yl
      replace BX := BX.keep b BX.lt
      replace BP := BP.keep b BP.lt
      replace BY := BY.keep b BY.lt
      replace I := I.call b
      replace S := S.call b
      replace I2 := I2.call b
      replace T1 := T1.call b
      replace bel := belowCall bel b
      clear b
      have x0 := BX.cell 0
      have x1 := BX.cell 1
      have x2 := BX.cell 2
      have x3 := BX.cell 3
      have x4 := BX.cell 4
      have xl := BX.lt
      have p0 := BP.cell 0
      have p1 := BP.cell 1
      have p2 := BP.cell 2
      have p3 := BP.cell 3
      have pl := BP.lt
      have y0 := BY.cell 0
      have y1 := BY.cell 1
      have y2 := BY.cell 2
      have y3 := BY.cell 3
      have y4 := BY.cell 4
      have yl := BY.lt
      go_wp2_with fail
      go_at_call 24
      refine (k_eqP hLl T1 T2 hn3 hn4).mono ?_
      rintro e w8 ⟨rfl, b⟩
      clear x0 x1 x2 x3 x4 xl p0 p1 p2 p3 pl y0 y1 y2 y3 y4 yl
      replace BX := BX.keep b BX.lt
      replace BP := BP.keep b BP.lt
      replace BY := BY.keep b BY.lt
      replace I := I.call b
      replace S := S.call b
      replace I2 := I2.call b
      replace T1 := T1.call b
      replace T2 := T2.call b
      replace bel := belowCall bel b
      clear b
      have x0 := BX.cell 0
      have x1 := BX.cell 1
      have x2 := BX.cell 2
      have x3 := BX.cell 3
      have x4 := BX.cell 4
      have xl := BX.lt
      have p0 := BP.cell 0
      have p1 := BP.cell 1
      have p2 := BP.cell 2
      have p3 := BP.cell 3
      have pl := BP.lt
      have y0 := BY.cell 0
      have y1 := BY.cell 1
      have y2 := BY.cell 2
      have y3 := BY.cell 3
      have y4 := BY.cell 4
      have yl := BY.lt
      go_wp2_with fail
      go_ret
      exact ⟨rfl, bel⟩
    · have d2 : (K != 2) = true := by simp [k2]
      have d3 : (K != 3) = true := by simp [k3]
      have d4 : (K != 4) = true := by simp [k4]
      clear hx hh hw hz hE hX few fewS hen k2 k3 k4
      obtain ⟨C, D, U, R⟩ := x
      obtain ⟨sa, sn, sG, a1, n1, c1', a2, n2, c2', ra, rn, rc⟩ := p
      simp only [Pw.val] at *
      have BX := (Blk.laid W [.slice sa sn sG, .slice a1 n1 c1', .slice a2 n2 c2', .bool U, .slice ra rn rc] 30 _ rfl).alc (.cells #[.int .i64 K, .int .i64 Sr, .int .i64 N, .slice ya en yc] 33)
      have BP := Blk.laid (W.alloc (.cells #[.slice sa sn sG, .slice a1 n1 c1', .slice a2 n2 c2', .bool U, .slice ra rn rc] 30)) [.int .i64 K, .int .i64 Sr, .int .i64 N, .slice ya en yc] 33 (W.heap.size + 1) (by simp)
      obtain ⟨gP, hgP⟩ : ∃ gP, gP = W.heap.size + 1 := ⟨_, rfl⟩
      rw [← hgP] at BP
      have bel := newB (newB (Below.refl W.heap.size W) (.cells #[.slice sa sn sG, .slice a1 n1 c1', .slice a2 n2 c2', .bool U, .slice ra rn rc] 30)) (.cells #[.int .i64 K, .int .i64 Sr, .int .i64 N, .slice ya en yc] 33)
      replace I := I.keep bel (Nat.le_refl _)
      replace S := S.keep bel (Nat.le_refl _)
      go_enter Tryz.func7, Tryz.ntmps7
      go_upto_region 1 with fail
      rw [← hgP]
      generalize World.alloc (World.alloc W _) _ = w1 at *
      clear hgP
      have x0 := BX.cell 0
      have x1 := BX.cell 1
      have x2 := BX.cell 2
      have x3 := BX.cell 3
      have x4 := BX.cell 4
      have xl := BX.lt
      have p0 := BP.cell 0
      have p1 := BP.cell 1
      have p2 := BP.cell 2
      have p3 := BP.cell 3
      have pl := BP.lt
      go_wp2_with fail
      go_at_call 30
      refine (cA _).mono ?_
      rintro e w2 ⟨rfl, rfl⟩
      go_wp2_with fail
      go_at_call 11
      refine (c1 _ (hg.call bel) I S).mono ?_
      rintro e w3 ⟨⟨ba, bn, bG, b1, bm1, bk1, b2, bm2, bk2, br, brn, brc⟩, rfl, I2, b0⟩
      simp only [Pw.val]
      have b := newB b0 (.cells #[.slice ba bn bG, .slice b1 bm1 bk1, .slice b2 bm2 bk2, .bool X1.up, .slice br brn brc] 30)
      have BY := Blk.laid w3 [.slice ba bn bG, .slice b1 bm1 bk1, .slice b2 bm2 bk2, .bool X1.up, .slice br brn brc] 30 _ rfl
      replace I2 := I2.alloc (.cells #[.slice ba bn bG, .slice b1 bm1 bk1, .slice b2 bm2 bk2, .bool X1.up, .slice br brn brc] 30)
      clear b0
      clear x0 x1 x2 x3 x4 xl p0 p1 p2 p3 pl
      replace BX := BX.keep b BX.lt
      replace BP := BP.keep b BP.lt
      replace I := I.call b
      replace S := S.call b
      replace bel := belowCall bel b
      clear b
      have x0 := BX.cell 0
      have x1 := BX.cell 1
      have x2 := BX.cell 2
      have x3 := BX.cell 3
      have x4 := BX.cell 4
      have xl := BX.lt
      have p0 := BP.cell 0
      have p1 := BP.cell 1
      have p2 := BP.cell 2
      have p3 := BP.cell 3
      have pl := BP.lt
      go_upto_region 3 with fail
      generalize w3.heap.size = gBY at *
      generalize World.alloc w3 _ = w4 at *
      have y0 := BY.cell 0
      have y1 := BY.cell 1
      have y2 := BY.cell 2
      have y3 := BY.cell 3
      have y4 := BY.cell 4
      have yl := BY.lt
      go_wp2_with fail
      go_at_call 13
      refine (watched_any _ (hg.call bel)).mono ?_
      rintro e w5 ⟨rfl, b⟩
      clear x0 x1 x2 x3 x4 xl p0 p1 p2 p3 pl y0 y1 y2 y3 y4 yl
      replace BX := BX.keep b BX.lt
      replace BP := BP.keep b BP.lt
      replace BY := BY.keep b BY.lt
      replace I := I.call b
      replace S := S.call b
      replace I2 := I2.call b
      replace bel := belowCall bel b
      clear b
      have x0 := BX.cell 0
      have x1 := BX.cell 1
      have x2 := BX.cell 2
      have x3 := BX.cell 3
      have x4 := BX.cell 4
      have xl := BX.lt
      have p0 := BP.cell 0
      have p1 := BP.cell 1
      have p2 := BP.cell 2
      have p3 := BP.cell 3
      have pl := BP.lt
      have y0 := BY.cell 0
      have y1 := BY.cell 1
      have y2 := BY.cell 2
      have y3 := BY.cell 3
      have y4 := BY.cell 4
      have yl := BY.lt
      go_wp2_with fail
      go_at_call 13
      refine (watched_any _ (hg.call bel)).mono ?_
      rintro e w6 ⟨rfl, b⟩
      go_wp2_with fail
      go_ret
      exact ⟨rfl, belowCall bel b⟩
  · have hd : decide (E = 0) = false := decide_eq_false hz
    clear hE hX few fewS hen
    obtain ⟨C, D, U, R⟩ := x
    obtain ⟨sa, sn, sG, a1, n1, c1', a2, n2, c2', ra, rn, rc⟩ := p
    simp only [Pw.val] at *
    have BX := (Blk.laid W [.slice sa sn sG, .slice a1 n1 c1', .slice a2 n2 c2', .bool U, .slice ra rn rc] 30 _ rfl).alc (.cells #[.int .i64 K, .int .i64 Sr, .int .i64 N, .slice ya en yc] 33)
    have BP := Blk.laid (W.alloc (.cells #[.slice sa sn sG, .slice a1 n1 c1', .slice a2 n2 c2', .bool U, .slice ra rn rc] 30)) [.int .i64 K, .int .i64 Sr, .int .i64 N, .slice ya en yc] 33 (W.heap.size + 1) (by simp)
    obtain ⟨gP, hgP⟩ : ∃ gP, gP = W.heap.size + 1 := ⟨_, rfl⟩
    rw [← hgP] at BP
    have bel := newB (newB (Below.refl W.heap.size W) (.cells #[.slice sa sn sG, .slice a1 n1 c1', .slice a2 n2 c2', .bool U, .slice ra rn rc] 30)) (.cells #[.int .i64 K, .int .i64 Sr, .int .i64 N, .slice ya en yc] 33)
    replace I := I.keep bel (Nat.le_refl _)
    replace S := S.keep bel (Nat.le_refl _)
    go_enter Tryz.func7, Tryz.ntmps7
    go_upto_region 1 with fail
    rw [← hgP]
    generalize World.alloc (World.alloc W _) _ = w1 at *
    clear hgP
    have x0 := BX.cell 0
    have x1 := BX.cell 1
    have x2 := BX.cell 2
    have x3 := BX.cell 3
    have x4 := BX.cell 4
    have xl := BX.lt
    have p0 := BP.cell 0
    have p1 := BP.cell 1
    have p2 := BP.cell 2
    have p3 := BP.cell 3
    have pl := BP.lt
    go_wp2_with fail
    go_at_call 30
    refine (cA _).mono ?_
    rintro e w2 ⟨rfl, rfl⟩
    go_wp2_with fail
    go_at_call 11
    refine (c1 _ (hg.call bel) I S).mono ?_
    rintro e w3 ⟨⟨ba, bn, bG, b1, bm1, bk1, b2, bm2, bk2, br, brn, brc⟩, rfl, I2, b0⟩
    simp only [Pw.val]
    have b := newB b0 (.cells #[.slice ba bn bG, .slice b1 bm1 bk1, .slice b2 bm2 bk2, .bool X1.up, .slice br brn brc] 30)
    have BY := Blk.laid w3 [.slice ba bn bG, .slice b1 bm1 bk1, .slice b2 bm2 bk2, .bool X1.up, .slice br brn brc] 30 _ rfl
    replace I2 := I2.alloc (.cells #[.slice ba bn bG, .slice b1 bm1 bk1, .slice b2 bm2 bk2, .bool X1.up, .slice br brn brc] 30)
    clear b0
    clear x0 x1 x2 x3 x4 xl p0 p1 p2 p3 pl
    replace BX := BX.keep b BX.lt
    replace BP := BP.keep b BP.lt
    replace I := I.call b
    replace S := S.call b
    replace bel := belowCall bel b
    clear b
    have x0 := BX.cell 0
    have x1 := BX.cell 1
    have x2 := BX.cell 2
    have x3 := BX.cell 3
    have x4 := BX.cell 4
    have xl := BX.lt
    have p0 := BP.cell 0
    have p1 := BP.cell 1
    have p2 := BP.cell 2
    have p3 := BP.cell 3
    have pl := BP.lt
    go_upto_region 3 with fail
    generalize w3.heap.size = gBY at *
    generalize World.alloc w3 _ = w4 at *
    have y0 := BY.cell 0
    have y1 := BY.cell 1
    have y2 := BY.cell 2
    have y3 := BY.cell 3
    have y4 := BY.cell 4
    have yl := BY.lt
    go_wp2_with fail
    go_at_call 13
    refine (watched_any _ (hg.call bel)).mono ?_
    rintro e w5 ⟨rfl, b⟩
    clear x0 x1 x2 x3 x4 xl p0 p1 p2 p3 pl y0 y1 y2 y3 y4 yl
    replace BX := BX.keep b BX.lt
    replace BP := BP.keep b BP.lt
    replace BY := BY.keep b BY.lt
    replace I := I.call b
    replace S := S.call b
    replace I2 := I2.call b
    replace bel := belowCall bel b
    clear b
    have x0 := BX.cell 0
    have x1 := BX.cell 1
    have x2 := BX.cell 2
    have x3 := BX.cell 3
    have x4 := BX.cell 4
    have xl := BX.lt
    have p0 := BP.cell 0
    have p1 := BP.cell 1
    have p2 := BP.cell 2
    have p3 := BP.cell 3
    have pl := BP.lt
    have y0 := BY.cell 0
    have y1 := BY.cell 1
    have y2 := BY.cell 2
    have y3 := BY.cell 3
    have y4 := BY.cell 4
    have yl := BY.lt
    go_wp2_with fail
    go_at_call 13
    refine (watched_any _ (hg.call bel)).mono ?_
    rintro e w6 ⟨rfl, b⟩
    go_wp2_with fail
    go_ret
    exact ⟨rfl, belowCall bel b⟩

end Go.Proofs.YtjjfgmcgonkicaaGreatDoor

/-
  Proved: for any world, any happening, any number, any number, any number, WorldSame returns true and leaves its arguments as they were: to seal and to merge changes no answer, to drop none from its time on. Conditions: the listed variables of Go's library start as the program's text lays them (tied by the card).
-/
namespace Go.Proofs.YtjjfgmcgonkicaaGreatDoor.worldSame
open Go.ChangeShapes Go.WideShapes Go.ChangeAt Go.RowKit Go.ChangeMaps
set_option linter.unusedVariables false

def laidL : List (String × DataW Unit) := Rows.worldSameRow.laid

set_option maxRecDepth 100000 in
theorem lifted (os : Os) (started : os.Started) (H : Type) (enc : TypeId × Value → H) :
    ReturnsInHanded {} Tryz.checked os 7 .any (fun w args => (Rows.worldSameSpec.pre enc Tryz.prog Tryz.f7 [] false w args ∧ laidMetH Tryz.prog laidL w) ∧ sizedMet enc Tryz.prog Tryz.f7 (OpenSpec.ofChange Rows.worldSameSpec) false w args)
      (Rows.worldSameSpec.post enc Tryz.prog Tryz.f7 false true false false) := by
  refine returns_both (C := Tryz.checked) (X := fun w _ => laidMetH Tryz.prog laidL w) (fun _ _ _ hh h => h.of_heap hh) own started (by kernel_rfl) Tryz.func7
    (ChangeSpec.witness_shaped (enc := enc) (C := Tryz.checked) (os := os) (X := fun w _ => laidMetH Tryz.prog laidL w) false (World.laidAll Tryz.prog os laidL) #[.agg #[.slice none 0 0, .slice none 0 0, .slice none 0 0, .bool false, .slice none 0 0], .agg #[.int .i64 0, .int .i64 0, .int .i64 0, .slice none 0 0], .int .i64 0, .int .i64 0, .int .i64 0] 8 (World.laidAll_os _ _ _)
      (World.shaped_of_ZipB (by kernel_rfl) (by kernel_rfl)) (by kernel_rfl) (by kernel_rfl) (by kernel_rfl)
      (by rw [MakeChecks.laidMetH_plain _ _ _ (by kernel_rfl)]; exact laidMet_laidAll _ (by kernel_rfl) (by kernel_rfl))) ?_
  intro W base args ds gs before hval0 hW hsz0 hL hsh
  have hsz : (DataW.weightsEach Tryz.prog (Tryz.f7.params.toList ++ Rows.worldSameSpec.plain.varTypes Tryz.prog) (ds ++ gs)).all (· ≤ reachBytes) = true := hsz0
  have hval : ∀ (j : Nat) t v, Tryz.f7.params[j]? = some t → args[j]? = some v → Value.okWide Tryz.prog W .any base t v := hval0
  have hW' := hW
  obtain ⟨p, q, hA0, hV, rfl, hfz, hnd⟩ := hW
  have hA : DataW.TrodAll enc Tryz.prog W 0 (fun _ => true) true Tryz.f7.params.toList args.toList ds p := hA0
  rw [Tryz.params7] at hA hval hsz
  obtain ⟨v0, vs0, d0, ds0, p0, q0, hargs, rfl, rfl, h0, r0⟩ := trodAll_cons hA
  obtain ⟨v1, vs1, d1, ds1, p1, q1, rfl, rfl, rfl, h1, r1⟩ := trodAll_cons r0
  obtain ⟨v2, vs2, d2, ds2, p2, q2, rfl, rfl, rfl, h2, r2⟩ := trodAll_cons r1
  obtain ⟨v3, vs3, d3, ds3, p3, q3, rfl, rfl, rfl, h3, r3⟩ := trodAll_cons r2
  obtain ⟨v4, vs4, d4, ds4, p4, q4, rfl, rfl, rfl, h4, r4⟩ := trodAll_cons r3
  obtain ⟨rfl, rfl, rfl⟩ := trodAll_nil r4
  obtain rfl : args = #[v0, v1, v2, v3, v4] := by cases args; simp_all
  obtain ⟨rfl, rfl⟩ := trodVars_none hV
  have k0 := h0
  have lt0 : ∀ x ∈ p0, x.block < W.heap.size := by obtain ⟨m, hm⟩ := k0; exact DataW.trod_lt m _ _ _ hm
  obtain ⟨x0, q0, rfl, I0, few0, fewS0, fewR0⟩ := open_world (hval 0 30 v0 rfl rfl) h0 (rec_light (j := 0) hsz rfl rfl)
  have k1 := h1
  have lt1 : ∀ x ∈ p1, x.block < W.heap.size := by obtain ⟨m, hm⟩ := k1; exact DataW.trod_lt m _ _ _ hm
  obtain ⟨y1, a1, cap1, rfl, s1⟩ := open_hap (hval 1 33 v1 rfl rfl) h1 (rec_light (j := 1) hsz rfl rfl)
  obtain ⟨a2, rfl, rfl, rfl, w2⟩ := open_int Tryz.underlying3 (hval 2 3 v2 rfl rfl) h2
  obtain ⟨a3, rfl, rfl, rfl, w3⟩ := open_int Tryz.underlying3 (hval 3 3 v3 rfl rfl) h3
  obtain ⟨a4, rfl, rfl, rfl, w4⟩ := open_int Tryz.underlying3 (hval 4 3 v4 rfl rfl) h4
  rw [MakeChecks.laidMetH_plain _ _ _ (by kernel_rfl)] at hL
  have g := glob_of hL hsh
  refine (wsame_walk W g x0 q0 I0 few0 fewS0 fewR0 y1 a1 cap1 s1 a2 w2 a3 w3 a4 w4).mono fun e W' ⟨he, bel⟩ => ?_
  subst he
  exact ⟨_, rfl, _, _, _, [], _, [], hW', trodAll_mk1 (shut_bool Tryz.underlying4 _), (trodAll_cons_mk (Below.trod laidOut (by kernel_rfl) (of_decide_eq_true (by kernel_rfl)) k0 bel lt0) (trodAll_cons_mk (Below.trod laidOut (by kernel_rfl) (of_decide_eq_true (by kernel_rfl)) k1 bel lt1) (trodAll_cons_mk (shut_int Tryz.underlying3 w2) (trodAll_cons_mk (shut_int Tryz.underlying3 w3) (trodAll_cons_mk (shut_int Tryz.underlying3 w4) trodAll_mk0))))), rfl, bel.frame _, fun h => by cases h⟩

theorem row_holds : Rows.WorldSameSaid :=
  OpenClaim.holds_of_wide 7 Tryz.f7 rfl rfl rfl rfl rfl rfl rfl ⟨rfl, rfl, rfl, rfl, rfl⟩ rfl rfl rfl rfl rfl (by kernel_rfl) Tryz.func7 (by kernel_rfl)
    (of_decide_eq_true (by kernel_rfl)) (by unfold Func.isWrapper; first | (rw [if_pos (by decide +kernel)]; kernel_rfl) | (rw [if_neg (by decide +kernel)]; exact ⟨rfl, rfl⟩))
    (fun os started H enc _ => lifted os started H enc)
end Go.Proofs.YtjjfgmcgonkicaaGreatDoor.worldSame
