/-
  Proved: for any shelf and any numbers, ShelfSame returns true and leaves its arguments as they were: seal and merge change no points, and a drop takes whole blocks ahead of its time alone.
-/
import Derived.Test.YtgncadehaificaaRows
import Derived.Test.YtgncadehaificaaHShelved
import Derived.Test.YtgncadehaificaaP25
import Derived.Test.YtgncadehaificaaP09
namespace Go.Proofs.Ytgncadehaificaa.shelfSame
open Go.ChangeShapes Go.WideShapes Go.ChangeAt Go.RowKit
set_option linter.unusedVariables false

theorem all_zero {C : List Rw} {k : Nat} (hk : k < 4) (h : shelfE C = 0) : allE C k = 0 ∧ allL C k = allPts (C.getD k rw0) := by
  have e : allE C k = 0 := by unfold allE; rw [if_pos h]; unfold inI; simp; omega
  exact ⟨e, by unfold allL; rw [if_pos e, Int.toNat_natCast]⟩

theorem drop_all {C : List Rw} {k : Nat} (n : Int) (hk : k < 4) (h : shelfE C = 0) : ∃ q, q ≤ (allPts (C.getD k rw0)).length ∧ allE (C.map (dropRw n)) k = 0 ∧ allL (C.map (dropRw n)) k = (allPts (C.getD k rw0)).drop q ∧ ∀ p ∈ (allPts (C.getD k rw0)).take q, p.1 < n := by
  obtain ⟨h4, hm⟩ := shelfE_mem h
  obtain ⟨z1, z2⟩ := drop_zero (n := n) h
  obtain ⟨-, m, m1, m2, m3⟩ := drop_row (n := n) (hm _ (getD_mem (l := C) (k := k) (by omega)))
  obtain ⟨e1, e2⟩ := all_zero hk z1
  exact ⟨m, m1, e1, by rw [e2, z2 k hk, m2], m3⟩

/-- Two slices of the same points. -/
theorem same_pts (a b : Option Addr) (G H : Nat) (P : List Pt) (p : Nat) (hp : p = P.length) (hl : p ≤ 40) (W : World) (h : SlP W a G P) (k : SlP W b H P) :
    Calls Try.prog 27 #[.slice a p G, .slice b p H] W fun e w' => e = .returned (.bool true) ∧ Below W.heap.size W w' := by
  have c := equalPt a b G H P P W h k (by omega) (by omega)
  rw [decide_eq_true (rfl : P = P), ← hp] at c
  refine c.mono ?_
  rintro e w' ⟨he, q, rfl⟩
  exact ⟨he, belowDrewN (Below.refl _ _) q⟩

/-- All's points, as a slice. -/
theorem all_pts {D : List Rw} {k : Nat} {P : List Pt} {p d : Nat} (hE : allE D k = 0) (hL : allL D k = P) (hp : p = P.length) (hd : d = D.length) (a : Option Addr) (G : Nat) (W : World) (h : IsS W a G D) :
    Calls Try.prog 10 #[.agg #[.slice a d G], .int .i64 k] W fun e w' => ∃ a' G', e = .returned (.tuple #[.slice a' p G', .int .i64 0]) ∧ SlP w' a' G' P ∧ Below W.heap.size W w' := by
  have c := all_is (k : Int) h
  rw [hE, hL, ← hp, ← hd] at c
  refine c.mono ?_
  rintro e w' ⟨a', G', rfl, o, b⟩
  obtain ⟨a3, G3, e3, s3, _, _⟩ := SlP.ofOwn o
  simp only [Value.slice.injEq, true_and] at e3
  obtain ⟨rfl, rfl⟩ := e3
  exact ⟨_, _, rfl, s3, b⟩

theorem all_was {D : List Rw} {k : Nat} {P : List Pt} {p d : Nat} (hE : allE D k = 0) (hL : allL D k = P) (hp : p = P.length) (hd : d = D.length) (a : Option Addr) (G : Nat) (W : World) (h : IsS W a G D) :
    Calls Try.prog 10 #[.agg #[.slice a d G], .int .i64 k] W fun e w' => ∃ a' G', e = .returned (.tuple #[.slice a' p G', .int .i64 0]) ∧ SlP w' a' G' P ∧ (a' = none ∨ ∃ g, a' = some ⟨g, 0, none⟩) ∧ Below W.heap.size W w' := by
  have c := all_is (k : Int) h
  rw [hE, hL, ← hp, ← hd] at c
  refine c.mono ?_
  rintro e w' ⟨a', G', rfl, o, b⟩
  obtain ⟨a3, G3, e3, s3, _, _⟩ := SlP.ofOwn o
  simp only [Value.slice.injEq, true_and] at e3
  obtain ⟨rfl, rfl⟩ := e3
  refine ⟨_, _, rfl, s3, ?_, b⟩
  rcases o.2 with ⟨h0, _⟩ | ⟨g, cap, cur, h0, _⟩
  · simp only [Value.slice.injEq] at h0
    exact .inl h0.1
  · simp only [Value.slice.injEq] at h0
    exact .inr ⟨g, h0.1⟩

theorem makes_pts {E : Int} {D : List Rw} {d : Nat} {f : Nat} {args : Array Value} {W : World} (hd : d = D.length) (c : Calls Try.prog f args W (Makes E D W)) :
    Calls Try.prog f args W fun e w' => ∃ a' G', e = .returned (.tuple #[.agg #[.slice a' d G'], .int .i64 E]) ∧ IsS w' a' G' D ∧ Below W.heap.size W w' := by
  subst hd
  exact c

set_option maxHeartbeats 1000000 in
set_option maxRecDepth 100000 in
theorem walkSM (w : World) (a0 : Option Addr) (cap0 cn : Nat) (C : List Rw) (hcn : Hid (cn = C.length)) (S0 : IsS w a0 cap0 C) (s n o : Int) (k q r : Nat) (ek : o % 4 = k) (hz : shelfE C = 0) (hk : k < 4) (A : List Pt) (hA : allL C k = A) (hE : allE C k = 0) (hm : Hid (q + r = A.length)) (hAl : q + r ≤ 40)
    (hs : sealE C s n = 0) (hg : mrgE C s n = 0) (hq : allE (C.map (dropRw n)) k = 0) (hd : allL (C.map (dropRw n)) k = A.drop q) (hT : ∀ p ∈ A.take q, p.1 < n) :
    Calls Try.prog 4 #[.agg #[.slice a0 cn cap0], .int .i64 s, .int .i64 n, .int .i64 o] w fun e w' => e = .returned (.bool true) ∧ Below w.heap.size w w' := by
  have c0 := fun W => at_any o 4 W (by decide) (by decide)
  rw [ek] at c0
  have c1 := fun a G W (h : IsS W a G C) => all_was hE hA hm.out hcn.out a G W h
  have ch : ∀ x, chE C x = x := fun x => by unfold chE; rw [if_pos hz]
  have cs := fun W (h : IsS W a0 cap0 C) => seal_is s n h
  simp only [ch, ← hcn.out] at cs
  obtain ⟨Ds, hDs⟩ : ∃ D, D = chL C (sealE C s n) (sealL C s n) := ⟨_, rfl⟩
  rw [← hDs] at cs
  obtain ⟨ds, hds⟩ : ∃ d, d = Ds.length := ⟨_, rfl⟩
  replace cs := fun W h => makes_pts hds (cs W h)
  have eDs : Ds = sealL C s n := by rw [hDs]; unfold chL; rw [ch, if_pos hs]
  obtain ⟨zs, ys⟩ := seal_zero hz hs
  rw [← eDs] at zs ys
  obtain ⟨xs, us⟩ := all_zero hk zs
  rw [ys k, ← (all_zero hk hz).2, hA] at us
  have fs := fun a G W (h : IsS W a G Ds) => all_pts xs us hm.out hds a G W h
  rw [hs] at cs
  clear zs ys xs us eDs
  clear hDs hds
  have cm := fun W (h : IsS W a0 cap0 C) => merge_is s n h
  simp only [ch, ← hcn.out] at cm
  obtain ⟨Dm, hDm⟩ : ∃ D, D = chL C (mrgE C s n) (mrgL C s n) := ⟨_, rfl⟩
  rw [← hDm] at cm
  obtain ⟨dm, hdm⟩ : ∃ d, d = Dm.length := ⟨_, rfl⟩
  replace cm := fun W h => makes_pts hdm (cm W h)
  have eDm : Dm = mrgL C s n := by rw [hDm]; unfold chL; rw [ch, if_pos hg]
  obtain ⟨zm, ym⟩ := mrg_zero hz hg
  rw [← eDm] at zm ym
  obtain ⟨xm, um⟩ := all_zero hk zm
  rw [ym k, ← (all_zero hk hz).2, hA] at um
  have fm := fun a G W (h : IsS W a G Dm) => all_pts xm um hm.out hdm a G W h
  rw [hg] at cm
  clear zm ym xm um eDm
  clear hDm hdm
  have cd := fun W (h : IsS W a0 cap0 C) => drop_is n h
  simp only [ch, ← hcn.out] at cd
  have sh := fun W => shelved_any W
  have hz' := hide hz
  clear hE hA hz ek ch
  have hAq : (A.drop q).length = r := by rw [List.length_drop, ← hm.out]; omega
  replace hAq := hide hAq
  have B0 := Blk.laid w [.slice a0 cn cap0] 24 _ rfl
  have bel : Below w.heap.size w (w.alloc (.cells #[.slice a0 cn cap0] 24)) := (Below.refl _ _).alloc (Nat.le_refl _) _
  have S1 := S0.alloc (.cells #[.slice a0 cn cap0] 24)
  clear S0
  go_enter Try.func4, Try.ntmps4
  go_wp2_with fail
  generalize w.alloc _ = w1 at *
  go_at_call 28
  refine (c0 _).mono ?_
  rintro e wx ⟨rfl, rfl⟩
  have d0 : w1.cell? ⟨w.heap.size, 0, none⟩ = some (.slice a0 cn cap0) := B0.cell 0
  have l0 := B0.lt
  go_wp2_with fail
  go_at_call 10
  refine (c1 _ _ _ S1).mono ?_
  rintro e w3 ⟨a3, G3, rfl, sA, hWa, b3⟩
  replace hWa := hide hWa
  replace B0 := B0.keep b3 B0.lt
  replace bel := belowCall bel b3
  replace S1 := S1.call b3
  clear b3 d0 l0 c0 c1
  go_wp2_with fail
  go_at_call 16
  refine (sh _).mono ?_
  rintro e w4 ⟨rfl, b4⟩
  replace B0 := B0.keep b4 B0.lt
  replace bel := belowCall bel b4
  replace S1 := S1.call b4
  replace sA := sA.call b4
  clear b4 sh
  have d0 : w4.cell? ⟨w.heap.size, 0, none⟩ = some (.slice a0 cn cap0) := B0.cell 0
  have l0 := B0.lt
  go_wp2_with fail
  go_at_call 12
  refine (cs _ S1).mono ?_
  rintro e ws1 ⟨ads, Gs, rfl, ss, bs⟩
  replace B0 := B0.keep bs B0.lt
  replace bel := belowCall bel bs
  replace S1 := S1.call bs
  replace sA := sA.call bs
  clear bs d0 l0
  have d0 : ws1.cell? ⟨w.heap.size, 0, none⟩ = some (.slice a0 cn cap0) := B0.cell 0
  have l0 := B0.lt
  go_wp2_with fail
  clear d0 l0
  replace B0 := B0.alc (.cells #[.slice ads ds Gs] 24)
  replace bel := belowNew bel (.cells #[.slice ads ds Gs] 24)
  replace S1 := S1.alloc (.cells #[.slice ads ds Gs] 24)
  replace sA := sA.alloc (.cells #[.slice ads ds Gs] 24)
  replace ss := ss.alloc (.cells #[.slice ads ds Gs] 24)
  generalize ws1.heap.size = gs at *
  generalize ws1.alloc _ = ws2 at *
  go_at_call 10
  refine (fs _ _ _ ss).mono ?_
  rintro e ws3 ⟨bs, Hs, rfl, ps, cs⟩
  replace B0 := B0.keep cs B0.lt
  replace bel := belowCall bel cs
  replace S1 := S1.call cs
  replace sA := sA.call cs
  clear cs
  go_wp2_with fail
  go_at_call 27
  refine (same_pts _ _ _ _ A (q + r) hm.out hAl _ ps sA).mono ?_
  rintro e ws4 ⟨rfl, cs⟩
  replace B0 := B0.keep cs B0.lt
  replace bel := belowCall bel cs
  replace S1 := S1.call cs
  replace sA := sA.call cs
  clear cs ps ss
  have d0 : ws4.cell? ⟨w.heap.size, 0, none⟩ = some (.slice a0 cn cap0) := B0.cell 0
  have l0 := B0.lt
  go_wp2_with fail
  go_at_call 13
  refine (cm _ S1).mono ?_
  rintro e wm1 ⟨adm, Gm, rfl, sm, bm⟩
  replace B0 := B0.keep bm B0.lt
  replace bel := belowCall bel bm
  replace S1 := S1.call bm
  replace sA := sA.call bm
  clear bm d0 l0
  have d0 : wm1.cell? ⟨w.heap.size, 0, none⟩ = some (.slice a0 cn cap0) := B0.cell 0
  have l0 := B0.lt
  go_wp2_with fail
  clear d0 l0
  replace B0 := B0.alc (.cells #[.slice adm dm Gm] 24)
  replace bel := belowNew bel (.cells #[.slice adm dm Gm] 24)
  replace S1 := S1.alloc (.cells #[.slice adm dm Gm] 24)
  replace sA := sA.alloc (.cells #[.slice adm dm Gm] 24)
  replace sm := sm.alloc (.cells #[.slice adm dm Gm] 24)
  generalize wm1.heap.size = gm at *
  generalize wm1.alloc _ = wm2 at *
  go_at_call 10
  refine (fm _ _ _ sm).mono ?_
  rintro e wm3 ⟨bm, Hm, rfl, pm, cm⟩
  replace B0 := B0.keep cm B0.lt
  replace bel := belowCall bel cm
  replace S1 := S1.call cm
  replace sA := sA.call cm
  clear cm
  go_wp2_with fail
  go_at_call 27
  refine (same_pts _ _ _ _ A (q + r) hm.out hAl _ pm sA).mono ?_
  rintro e wm4 ⟨rfl, cm⟩
  replace B0 := B0.keep cm B0.lt
  replace bel := belowCall bel cm
  replace S1 := S1.call cm
  replace sA := sA.call cm
  clear cm pm sm
  have d0 : wm4.cell? ⟨w.heap.size, 0, none⟩ = some (.slice a0 cn cap0) := B0.cell 0
  have l0 := B0.lt
  by_cases hdE : dropE n = 0
  · have eD : chL C (dropE n) (dropL C n) = C.map (dropRw n) := by
      unfold dropL chL chE
      rw [hdE, if_pos rfl, if_pos hz'.out, if_pos rfl]
    rw [eD, hdE] at cd
    obtain ⟨dd, hdd⟩ : ∃ d, d = (C.map (dropRw n)).length := ⟨_, rfl⟩
    replace cd := fun W h => makes_pts hdd (cd W h)
    have fd := fun a G W (h : IsS W a G (C.map (dropRw n))) => all_pts hq hd hAq.out.symm hdd a G W h
    generalize C.map (dropRw n) = D at *
    clear hdd eD hq hd
    go_wp2_with fail
    go_at_call 14
    refine (cd _ S1).mono ?_
    rintro e w7 ⟨a7, G7, rfl, s7, b7⟩
    replace bel := belowCall bel b7
    replace sA := sA.call b7
    clear b7 d0 l0 S1 B0
    go_wp2_with fail
    replace bel := belowNew bel (.cells #[.slice a7 dd G7] 24)
    replace sA := sA.alloc (.cells #[.slice a7 dd G7] 24)
    replace s7 := s7.alloc (.cells #[.slice a7 dd G7] 24)
    generalize w7.heap.size = g7 at *
    generalize w7.alloc _ = w8 at *
    go_at_call 10
    refine (fd _ _ _ s7).mono ?_
    rintro e w9 ⟨a9, G9, rfl, p9, b9⟩
    replace bel := belowCall bel b9
    replace sA := sA.call b9
    clear b9 s7
    have hG := sA.le
    have hG' := sA.max
    rw [← hm.out] at hG
    have pt := sA.part q (q + r) (by omega) (by rw [← hm.out]; exact Nat.le_refl _)
    rw [List.take_of_length_le (by rw [← hm.out]; exact Nat.le_refl _)] at pt
    have cE := fun a b G H W h k => same_pts a b G H (A.drop q) r hAq.out.symm (by omega) W h k
    by_cases hGq : G3 = q
    · rw [if_pos hGq] at pt
      obtain rfl : r = 0 := by omega
      obtain rfl : q = G3 := hGq.symm
      rw [Nat.sub_self] at pt
      clear cd fd
      go_wp2_with fail
      go_at_call 27
      refine (cE _ _ _ _ _ p9 pt).mono ?_
      rintro e w10 ⟨rfl, b10⟩
      replace bel := belowCall bel b10
      replace sA := sA.call b10
      clear b10 p9 pt cE
      have hqi : (0 : Int) ≤ q := by omega
      go_wp2_with fail
      go_loopw [127] (fun i wr => ∃ (j : Nat), j ≤ q ∧ i = .int .i64 j ∧ Below w.heap.size w wr ∧ Below w10.heap.size w10 wr) (fun i _ => q - (intOf i).toNat)
      case atStart => exact ⟨0, by omega, rfl, bel, Below.refl _ _⟩
      case round =>
        clear bel
        obtain ⟨j, hj, rfl, bel, bel2⟩ := hrel
        by_cases hlt : j < q
        · have sB := sA.keep bel2 (Nat.le_refl _)
          have hjA : j < A.length := by rw [← hm.out]; omega
          obtain ⟨b, off, rfl, hbw⟩ := sB.where (by intro e; rw [e] at hjA; simp at hjA)
          obtain ⟨x, y, e0, e1, hx, _⟩ := sB.pt j hjA
          have hxn : x < n := hT (x, y) (List.mem_iff_getElem?.2 ⟨j, by rw [List.getElem?_take, if_pos hlt]; exact hx⟩)
          have hxn' : ¬ n ≤ x := by omega
          have belA := belowNew bel (.cells #[.int .i64 x, .int .i64 y] 44)
          have belB := belowNew bel2 (.cells #[.int .i64 x, .int .i64 y] 44)
          clear hjA hx sB
          go_wp2_with fail
          go_roundw
          case rel => exact ⟨j + 1, by omega, by go_num, belA, belB⟩
          case measure => simp [intOf]; omega
        · obtain rfl : j = q := by omega
          go_wp2_with fail
          go_ret
          exact ⟨rfl, bel⟩
    · rw [if_neg hGq] at pt
      obtain ⟨b0, rfl⟩ : ∃ g, a3 = some ⟨g, 0, none⟩ := by
        rcases hWa.out with h0 | h0
        · have := sA.nil h0
          omega
        · exact h0
      rw [Option.map_some, Addr.add_lit, Nat.zero_add] at pt
      have hGq' : q < G3 := by omega
      clear cd fd
      go_wp2_with fail
      go_at_call 27
      refine (cE _ _ _ _ _ p9 pt).mono ?_
      rintro e w10 ⟨rfl, b10⟩
      replace bel := belowCall bel b10
      replace sA := sA.call b10
      clear b10 p9 pt cE
      have hqi : (0 : Int) ≤ q := by omega
      go_wp2_with fail
      go_loopw [127] (fun i wr => ∃ (j : Nat), j ≤ q ∧ i = .int .i64 j ∧ Below w.heap.size w wr ∧ Below w10.heap.size w10 wr) (fun i _ => q - (intOf i).toNat)
      case atStart => exact ⟨0, by omega, rfl, bel, Below.refl _ _⟩
      case round =>
        clear bel
        obtain ⟨j, hj, rfl, bel, bel2⟩ := hrel
        by_cases hlt : j < q
        · have sB := sA.keep bel2 (Nat.le_refl _)
          have hjA : j < A.length := by rw [← hm.out]; omega
          obtain ⟨b, off, eb, hbw⟩ := sB.where (by intro e; rw [e] at hjA; simp at hjA)
          simp only [Option.some.injEq, Addr.mk.injEq, and_true] at eb
          obtain ⟨rfl, rfl⟩ := eb
          obtain ⟨x, y, e0, e1, hx, _⟩ := sB.pt j hjA
          simp only [Nat.zero_add] at e0 e1
          have hxn : x < n := hT (x, y) (List.mem_iff_getElem?.2 ⟨j, by rw [List.getElem?_take, if_pos hlt]; exact hx⟩)
          have hxn' : ¬ n ≤ x := by omega
          have belA := belowNew bel (.cells #[.int .i64 x, .int .i64 y] 44)
          have belB := belowNew bel2 (.cells #[.int .i64 x, .int .i64 y] 44)
          clear hjA hx sB
          go_wp2_with fail
          go_roundw
          case rel => exact ⟨j + 1, by omega, by go_num, belA, belB⟩
          case measure => simp [intOf]; omega
        · obtain rfl : j = q := by omega
          go_wp2_with fail
          go_ret
          exact ⟨rfl, bel⟩
  · generalize chL C (dropE n) (dropL C n) = D at *
    obtain ⟨dd, hdd⟩ : ∃ d, d = D.length := ⟨_, rfl⟩
    replace cd := fun W h => makes_pts hdd (cd W h)
    generalize dropE n = dE at *
    clear hdd
    go_wp2_with fail
    go_at_call 14
    refine (cd _ S1).mono ?_
    rintro e w7 ⟨a7, G7, rfl, s7, b7⟩
    replace bel := belowCall bel b7
    go_wp2_with fail
    go_ret
    exact ⟨rfl, belowNew bel _⟩

set_option maxHeartbeats 1000000 in
set_option maxRecDepth 100000 in
theorem walkSN (w : World) (a0 : Option Addr) (cap0 cn : Nat) (C : List Rw) (hcn : Hid (cn = C.length)) (S0 : IsS w a0 cap0 C) (s n o : Int) (k q r : Nat) (ek : o % 4 = k) (hz : shelfE C = 0) (hk : k < 4) (A : List Pt) (hA : allL C k = A) (hE : allE C k = 0) (hm : Hid (q + r = A.length)) (hAl : q + r ≤ 40)
    (hs : sealE C s n = 0) (hg : mrgE C s n ≠ 0) (hq : allE (C.map (dropRw n)) k = 0) (hd : allL (C.map (dropRw n)) k = A.drop q) (hT : ∀ p ∈ A.take q, p.1 < n) :
    Calls Try.prog 4 #[.agg #[.slice a0 cn cap0], .int .i64 s, .int .i64 n, .int .i64 o] w fun e w' => e = .returned (.bool true) ∧ Below w.heap.size w w' := by
  have c0 := fun W => at_any o 4 W (by decide) (by decide)
  rw [ek] at c0
  have c1 := fun a G W (h : IsS W a G C) => all_was hE hA hm.out hcn.out a G W h
  have ch : ∀ x, chE C x = x := fun x => by unfold chE; rw [if_pos hz]
  have cs := fun W (h : IsS W a0 cap0 C) => seal_is s n h
  simp only [ch, ← hcn.out] at cs
  obtain ⟨Ds, hDs⟩ : ∃ D, D = chL C (sealE C s n) (sealL C s n) := ⟨_, rfl⟩
  rw [← hDs] at cs
  obtain ⟨ds, hds⟩ : ∃ d, d = Ds.length := ⟨_, rfl⟩
  replace cs := fun W h => makes_pts hds (cs W h)
  have eDs : Ds = sealL C s n := by rw [hDs]; unfold chL; rw [ch, if_pos hs]
  obtain ⟨zs, ys⟩ := seal_zero hz hs
  rw [← eDs] at zs ys
  obtain ⟨xs, us⟩ := all_zero hk zs
  rw [ys k, ← (all_zero hk hz).2, hA] at us
  have fs := fun a G W (h : IsS W a G Ds) => all_pts xs us hm.out hds a G W h
  rw [hs] at cs
  clear zs ys xs us eDs
  clear hDs hds
  have cm := fun W (h : IsS W a0 cap0 C) => merge_is s n h
  simp only [ch, ← hcn.out] at cm
  obtain ⟨Dm, hDm⟩ : ∃ D, D = chL C (mrgE C s n) (mrgL C s n) := ⟨_, rfl⟩
  rw [← hDm] at cm
  obtain ⟨dm, hdm⟩ : ∃ d, d = Dm.length := ⟨_, rfl⟩
  replace cm := fun W h => makes_pts hdm (cm W h)
  generalize mrgE C s n = Em at *
  clear hDm hdm
  have cd := fun W (h : IsS W a0 cap0 C) => drop_is n h
  simp only [ch, ← hcn.out] at cd
  have sh := fun W => shelved_any W
  have hz' := hide hz
  clear hE hA hz ek ch
  have hAq : (A.drop q).length = r := by rw [List.length_drop, ← hm.out]; omega
  replace hAq := hide hAq
  have B0 := Blk.laid w [.slice a0 cn cap0] 24 _ rfl
  have bel : Below w.heap.size w (w.alloc (.cells #[.slice a0 cn cap0] 24)) := (Below.refl _ _).alloc (Nat.le_refl _) _
  have S1 := S0.alloc (.cells #[.slice a0 cn cap0] 24)
  clear S0
  go_enter Try.func4, Try.ntmps4
  go_wp2_with fail
  generalize w.alloc _ = w1 at *
  go_at_call 28
  refine (c0 _).mono ?_
  rintro e wx ⟨rfl, rfl⟩
  have d0 : w1.cell? ⟨w.heap.size, 0, none⟩ = some (.slice a0 cn cap0) := B0.cell 0
  have l0 := B0.lt
  go_wp2_with fail
  go_at_call 10
  refine (c1 _ _ _ S1).mono ?_
  rintro e w3 ⟨a3, G3, rfl, sA, hWa, b3⟩
  replace hWa := hide hWa
  replace B0 := B0.keep b3 B0.lt
  replace bel := belowCall bel b3
  replace S1 := S1.call b3
  clear b3 d0 l0 c0 c1
  go_wp2_with fail
  go_at_call 16
  refine (sh _).mono ?_
  rintro e w4 ⟨rfl, b4⟩
  replace B0 := B0.keep b4 B0.lt
  replace bel := belowCall bel b4
  replace S1 := S1.call b4
  replace sA := sA.call b4
  clear b4 sh
  have d0 : w4.cell? ⟨w.heap.size, 0, none⟩ = some (.slice a0 cn cap0) := B0.cell 0
  have l0 := B0.lt
  go_wp2_with fail
  go_at_call 12
  refine (cs _ S1).mono ?_
  rintro e ws1 ⟨ads, Gs, rfl, ss, bs⟩
  replace B0 := B0.keep bs B0.lt
  replace bel := belowCall bel bs
  replace S1 := S1.call bs
  replace sA := sA.call bs
  clear bs d0 l0
  have d0 : ws1.cell? ⟨w.heap.size, 0, none⟩ = some (.slice a0 cn cap0) := B0.cell 0
  have l0 := B0.lt
  go_wp2_with fail
  clear d0 l0
  replace B0 := B0.alc (.cells #[.slice ads ds Gs] 24)
  replace bel := belowNew bel (.cells #[.slice ads ds Gs] 24)
  replace S1 := S1.alloc (.cells #[.slice ads ds Gs] 24)
  replace sA := sA.alloc (.cells #[.slice ads ds Gs] 24)
  replace ss := ss.alloc (.cells #[.slice ads ds Gs] 24)
  generalize ws1.heap.size = gs at *
  generalize ws1.alloc _ = ws2 at *
  go_at_call 10
  refine (fs _ _ _ ss).mono ?_
  rintro e ws3 ⟨bs, Hs, rfl, ps, cs⟩
  replace B0 := B0.keep cs B0.lt
  replace bel := belowCall bel cs
  replace S1 := S1.call cs
  replace sA := sA.call cs
  clear cs
  go_wp2_with fail
  go_at_call 27
  refine (same_pts _ _ _ _ A (q + r) hm.out hAl _ ps sA).mono ?_
  rintro e ws4 ⟨rfl, cs⟩
  replace B0 := B0.keep cs B0.lt
  replace bel := belowCall bel cs
  replace S1 := S1.call cs
  replace sA := sA.call cs
  clear cs ps ss
  have d0 : ws4.cell? ⟨w.heap.size, 0, none⟩ = some (.slice a0 cn cap0) := B0.cell 0
  have l0 := B0.lt
  go_wp2_with fail
  go_at_call 13
  refine (cm _ S1).mono ?_
  rintro e wm1 ⟨adm, Gm, rfl, sm, bm⟩
  replace B0 := B0.keep bm B0.lt
  replace bel := belowCall bel bm
  replace S1 := S1.call bm
  replace sA := sA.call bm
  clear bm d0 l0
  have d0 : wm1.cell? ⟨w.heap.size, 0, none⟩ = some (.slice a0 cn cap0) := B0.cell 0
  have l0 := B0.lt
  go_wp2_with fail
  clear d0 l0
  replace B0 := B0.alc (.cells #[.slice adm dm Gm] 24)
  replace bel := belowNew bel (.cells #[.slice adm dm Gm] 24)
  replace S1 := S1.alloc (.cells #[.slice adm dm Gm] 24)
  replace sA := sA.alloc (.cells #[.slice adm dm Gm] 24)
  replace sm := sm.alloc (.cells #[.slice adm dm Gm] 24)
  generalize wm1.heap.size = gm at *
  generalize wm1.alloc _ = wm2 at *
  clear sm
  have d0 : wm2.cell? ⟨w.heap.size, 0, none⟩ = some (.slice a0 cn cap0) := B0.cell 0
  have l0 := B0.lt
  by_cases hdE : dropE n = 0
  · have eD : chL C (dropE n) (dropL C n) = C.map (dropRw n) := by
      unfold dropL chL chE
      rw [hdE, if_pos rfl, if_pos hz'.out, if_pos rfl]
    rw [eD, hdE] at cd
    obtain ⟨dd, hdd⟩ : ∃ d, d = (C.map (dropRw n)).length := ⟨_, rfl⟩
    replace cd := fun W h => makes_pts hdd (cd W h)
    have fd := fun a G W (h : IsS W a G (C.map (dropRw n))) => all_pts hq hd hAq.out.symm hdd a G W h
    generalize C.map (dropRw n) = D at *
    clear hdd eD hq hd
    go_wp2_with fail
    go_at_call 14
    refine (cd _ S1).mono ?_
    rintro e w7 ⟨a7, G7, rfl, s7, b7⟩
    replace bel := belowCall bel b7
    replace sA := sA.call b7
    clear b7 d0 l0 S1 B0
    go_wp2_with fail
    replace bel := belowNew bel (.cells #[.slice a7 dd G7] 24)
    replace sA := sA.alloc (.cells #[.slice a7 dd G7] 24)
    replace s7 := s7.alloc (.cells #[.slice a7 dd G7] 24)
    generalize w7.heap.size = g7 at *
    generalize w7.alloc _ = w8 at *
    go_at_call 10
    refine (fd _ _ _ s7).mono ?_
    rintro e w9 ⟨a9, G9, rfl, p9, b9⟩
    replace bel := belowCall bel b9
    replace sA := sA.call b9
    clear b9 s7
    have hG := sA.le
    have hG' := sA.max
    rw [← hm.out] at hG
    have pt := sA.part q (q + r) (by omega) (by rw [← hm.out]; exact Nat.le_refl _)
    rw [List.take_of_length_le (by rw [← hm.out]; exact Nat.le_refl _)] at pt
    have cE := fun a b G H W h k => same_pts a b G H (A.drop q) r hAq.out.symm (by omega) W h k
    by_cases hGq : G3 = q
    · rw [if_pos hGq] at pt
      obtain rfl : r = 0 := by omega
      obtain rfl : q = G3 := hGq.symm
      rw [Nat.sub_self] at pt
      clear cd fd
      go_wp2_with fail
      go_at_call 27
      refine (cE _ _ _ _ _ p9 pt).mono ?_
      rintro e w10 ⟨rfl, b10⟩
      replace bel := belowCall bel b10
      replace sA := sA.call b10
      clear b10 p9 pt cE
      have hqi : (0 : Int) ≤ q := by omega
      go_wp2_with fail
      go_loopw [127] (fun i wr => ∃ (j : Nat), j ≤ q ∧ i = .int .i64 j ∧ Below w.heap.size w wr ∧ Below w10.heap.size w10 wr) (fun i _ => q - (intOf i).toNat)
      case atStart => exact ⟨0, by omega, rfl, bel, Below.refl _ _⟩
      case round =>
        clear bel
        obtain ⟨j, hj, rfl, bel, bel2⟩ := hrel
        by_cases hlt : j < q
        · have sB := sA.keep bel2 (Nat.le_refl _)
          have hjA : j < A.length := by rw [← hm.out]; omega
          obtain ⟨b, off, rfl, hbw⟩ := sB.where (by intro e; rw [e] at hjA; simp at hjA)
          obtain ⟨x, y, e0, e1, hx, _⟩ := sB.pt j hjA
          have hxn : x < n := hT (x, y) (List.mem_iff_getElem?.2 ⟨j, by rw [List.getElem?_take, if_pos hlt]; exact hx⟩)
          have hxn' : ¬ n ≤ x := by omega
          have belA := belowNew bel (.cells #[.int .i64 x, .int .i64 y] 44)
          have belB := belowNew bel2 (.cells #[.int .i64 x, .int .i64 y] 44)
          clear hjA hx sB
          go_wp2_with fail
          go_roundw
          case rel => exact ⟨j + 1, by omega, by go_num, belA, belB⟩
          case measure => simp [intOf]; omega
        · obtain rfl : j = q := by omega
          go_wp2_with fail
          go_ret
          exact ⟨rfl, bel⟩
    · rw [if_neg hGq] at pt
      obtain ⟨b0, rfl⟩ : ∃ g, a3 = some ⟨g, 0, none⟩ := by
        rcases hWa.out with h0 | h0
        · have := sA.nil h0
          omega
        · exact h0
      rw [Option.map_some, Addr.add_lit, Nat.zero_add] at pt
      have hGq' : q < G3 := by omega
      clear cd fd
      go_wp2_with fail
      go_at_call 27
      refine (cE _ _ _ _ _ p9 pt).mono ?_
      rintro e w10 ⟨rfl, b10⟩
      replace bel := belowCall bel b10
      replace sA := sA.call b10
      clear b10 p9 pt cE
      have hqi : (0 : Int) ≤ q := by omega
      go_wp2_with fail
      go_loopw [127] (fun i wr => ∃ (j : Nat), j ≤ q ∧ i = .int .i64 j ∧ Below w.heap.size w wr ∧ Below w10.heap.size w10 wr) (fun i _ => q - (intOf i).toNat)
      case atStart => exact ⟨0, by omega, rfl, bel, Below.refl _ _⟩
      case round =>
        clear bel
        obtain ⟨j, hj, rfl, bel, bel2⟩ := hrel
        by_cases hlt : j < q
        · have sB := sA.keep bel2 (Nat.le_refl _)
          have hjA : j < A.length := by rw [← hm.out]; omega
          obtain ⟨b, off, eb, hbw⟩ := sB.where (by intro e; rw [e] at hjA; simp at hjA)
          simp only [Option.some.injEq, Addr.mk.injEq, and_true] at eb
          obtain ⟨rfl, rfl⟩ := eb
          obtain ⟨x, y, e0, e1, hx, _⟩ := sB.pt j hjA
          simp only [Nat.zero_add] at e0 e1
          have hxn : x < n := hT (x, y) (List.mem_iff_getElem?.2 ⟨j, by rw [List.getElem?_take, if_pos hlt]; exact hx⟩)
          have hxn' : ¬ n ≤ x := by omega
          have belA := belowNew bel (.cells #[.int .i64 x, .int .i64 y] 44)
          have belB := belowNew bel2 (.cells #[.int .i64 x, .int .i64 y] 44)
          clear hjA hx sB
          go_wp2_with fail
          go_roundw
          case rel => exact ⟨j + 1, by omega, by go_num, belA, belB⟩
          case measure => simp [intOf]; omega
        · obtain rfl : j = q := by omega
          go_wp2_with fail
          go_ret
          exact ⟨rfl, bel⟩
  · generalize chL C (dropE n) (dropL C n) = D at *
    obtain ⟨dd, hdd⟩ : ∃ d, d = D.length := ⟨_, rfl⟩
    replace cd := fun W h => makes_pts hdd (cd W h)
    generalize dropE n = dE at *
    clear hdd
    go_wp2_with fail
    go_at_call 14
    refine (cd _ S1).mono ?_
    rintro e w7 ⟨a7, G7, rfl, s7, b7⟩
    replace bel := belowCall bel b7
    go_wp2_with fail
    go_ret
    exact ⟨rfl, belowNew bel _⟩

set_option maxHeartbeats 1000000 in
set_option maxRecDepth 100000 in
theorem walkNM (w : World) (a0 : Option Addr) (cap0 cn : Nat) (C : List Rw) (hcn : Hid (cn = C.length)) (S0 : IsS w a0 cap0 C) (s n o : Int) (k q r : Nat) (ek : o % 4 = k) (hz : shelfE C = 0) (hk : k < 4) (A : List Pt) (hA : allL C k = A) (hE : allE C k = 0) (hm : Hid (q + r = A.length)) (hAl : q + r ≤ 40)
    (hs : sealE C s n ≠ 0) (hg : mrgE C s n = 0) (hq : allE (C.map (dropRw n)) k = 0) (hd : allL (C.map (dropRw n)) k = A.drop q) (hT : ∀ p ∈ A.take q, p.1 < n) :
    Calls Try.prog 4 #[.agg #[.slice a0 cn cap0], .int .i64 s, .int .i64 n, .int .i64 o] w fun e w' => e = .returned (.bool true) ∧ Below w.heap.size w w' := by
  have c0 := fun W => at_any o 4 W (by decide) (by decide)
  rw [ek] at c0
  have c1 := fun a G W (h : IsS W a G C) => all_was hE hA hm.out hcn.out a G W h
  have ch : ∀ x, chE C x = x := fun x => by unfold chE; rw [if_pos hz]
  have cs := fun W (h : IsS W a0 cap0 C) => seal_is s n h
  simp only [ch, ← hcn.out] at cs
  obtain ⟨Ds, hDs⟩ : ∃ D, D = chL C (sealE C s n) (sealL C s n) := ⟨_, rfl⟩
  rw [← hDs] at cs
  obtain ⟨ds, hds⟩ : ∃ d, d = Ds.length := ⟨_, rfl⟩
  replace cs := fun W h => makes_pts hds (cs W h)
  generalize sealE C s n = Es at *
  clear hDs hds
  have cm := fun W (h : IsS W a0 cap0 C) => merge_is s n h
  simp only [ch, ← hcn.out] at cm
  obtain ⟨Dm, hDm⟩ : ∃ D, D = chL C (mrgE C s n) (mrgL C s n) := ⟨_, rfl⟩
  rw [← hDm] at cm
  obtain ⟨dm, hdm⟩ : ∃ d, d = Dm.length := ⟨_, rfl⟩
  replace cm := fun W h => makes_pts hdm (cm W h)
  have eDm : Dm = mrgL C s n := by rw [hDm]; unfold chL; rw [ch, if_pos hg]
  obtain ⟨zm, ym⟩ := mrg_zero hz hg
  rw [← eDm] at zm ym
  obtain ⟨xm, um⟩ := all_zero hk zm
  rw [ym k, ← (all_zero hk hz).2, hA] at um
  have fm := fun a G W (h : IsS W a G Dm) => all_pts xm um hm.out hdm a G W h
  rw [hg] at cm
  clear zm ym xm um eDm
  clear hDm hdm
  have cd := fun W (h : IsS W a0 cap0 C) => drop_is n h
  simp only [ch, ← hcn.out] at cd
  have sh := fun W => shelved_any W
  have hz' := hide hz
  clear hE hA hz ek ch
  have hAq : (A.drop q).length = r := by rw [List.length_drop, ← hm.out]; omega
  replace hAq := hide hAq
  have B0 := Blk.laid w [.slice a0 cn cap0] 24 _ rfl
  have bel : Below w.heap.size w (w.alloc (.cells #[.slice a0 cn cap0] 24)) := (Below.refl _ _).alloc (Nat.le_refl _) _
  have S1 := S0.alloc (.cells #[.slice a0 cn cap0] 24)
  clear S0
  go_enter Try.func4, Try.ntmps4
  go_wp2_with fail
  generalize w.alloc _ = w1 at *
  go_at_call 28
  refine (c0 _).mono ?_
  rintro e wx ⟨rfl, rfl⟩
  have d0 : w1.cell? ⟨w.heap.size, 0, none⟩ = some (.slice a0 cn cap0) := B0.cell 0
  have l0 := B0.lt
  go_wp2_with fail
  go_at_call 10
  refine (c1 _ _ _ S1).mono ?_
  rintro e w3 ⟨a3, G3, rfl, sA, hWa, b3⟩
  replace hWa := hide hWa
  replace B0 := B0.keep b3 B0.lt
  replace bel := belowCall bel b3
  replace S1 := S1.call b3
  clear b3 d0 l0 c0 c1
  go_wp2_with fail
  go_at_call 16
  refine (sh _).mono ?_
  rintro e w4 ⟨rfl, b4⟩
  replace B0 := B0.keep b4 B0.lt
  replace bel := belowCall bel b4
  replace S1 := S1.call b4
  replace sA := sA.call b4
  clear b4 sh
  have d0 : w4.cell? ⟨w.heap.size, 0, none⟩ = some (.slice a0 cn cap0) := B0.cell 0
  have l0 := B0.lt
  go_wp2_with fail
  go_at_call 12
  refine (cs _ S1).mono ?_
  rintro e ws1 ⟨ads, Gs, rfl, ss, bs⟩
  replace B0 := B0.keep bs B0.lt
  replace bel := belowCall bel bs
  replace S1 := S1.call bs
  replace sA := sA.call bs
  clear bs d0 l0
  have d0 : ws1.cell? ⟨w.heap.size, 0, none⟩ = some (.slice a0 cn cap0) := B0.cell 0
  have l0 := B0.lt
  go_wp2_with fail
  clear d0 l0
  replace B0 := B0.alc (.cells #[.slice ads ds Gs] 24)
  replace bel := belowNew bel (.cells #[.slice ads ds Gs] 24)
  replace S1 := S1.alloc (.cells #[.slice ads ds Gs] 24)
  replace sA := sA.alloc (.cells #[.slice ads ds Gs] 24)
  replace ss := ss.alloc (.cells #[.slice ads ds Gs] 24)
  generalize ws1.heap.size = gs at *
  generalize ws1.alloc _ = ws2 at *
  clear ss
  have d0 : ws2.cell? ⟨w.heap.size, 0, none⟩ = some (.slice a0 cn cap0) := B0.cell 0
  have l0 := B0.lt
  go_wp2_with fail
  go_at_call 13
  refine (cm _ S1).mono ?_
  rintro e wm1 ⟨adm, Gm, rfl, sm, bm⟩
  replace B0 := B0.keep bm B0.lt
  replace bel := belowCall bel bm
  replace S1 := S1.call bm
  replace sA := sA.call bm
  clear bm d0 l0
  have d0 : wm1.cell? ⟨w.heap.size, 0, none⟩ = some (.slice a0 cn cap0) := B0.cell 0
  have l0 := B0.lt
  go_wp2_with fail
  clear d0 l0
  replace B0 := B0.alc (.cells #[.slice adm dm Gm] 24)
  replace bel := belowNew bel (.cells #[.slice adm dm Gm] 24)
  replace S1 := S1.alloc (.cells #[.slice adm dm Gm] 24)
  replace sA := sA.alloc (.cells #[.slice adm dm Gm] 24)
  replace sm := sm.alloc (.cells #[.slice adm dm Gm] 24)
  generalize wm1.heap.size = gm at *
  generalize wm1.alloc _ = wm2 at *
  go_at_call 10
  refine (fm _ _ _ sm).mono ?_
  rintro e wm3 ⟨bm, Hm, rfl, pm, cm⟩
  replace B0 := B0.keep cm B0.lt
  replace bel := belowCall bel cm
  replace S1 := S1.call cm
  replace sA := sA.call cm
  clear cm
  go_wp2_with fail
  go_at_call 27
  refine (same_pts _ _ _ _ A (q + r) hm.out hAl _ pm sA).mono ?_
  rintro e wm4 ⟨rfl, cm⟩
  replace B0 := B0.keep cm B0.lt
  replace bel := belowCall bel cm
  replace S1 := S1.call cm
  replace sA := sA.call cm
  clear cm pm sm
  have d0 : wm4.cell? ⟨w.heap.size, 0, none⟩ = some (.slice a0 cn cap0) := B0.cell 0
  have l0 := B0.lt
  by_cases hdE : dropE n = 0
  · have eD : chL C (dropE n) (dropL C n) = C.map (dropRw n) := by
      unfold dropL chL chE
      rw [hdE, if_pos rfl, if_pos hz'.out, if_pos rfl]
    rw [eD, hdE] at cd
    obtain ⟨dd, hdd⟩ : ∃ d, d = (C.map (dropRw n)).length := ⟨_, rfl⟩
    replace cd := fun W h => makes_pts hdd (cd W h)
    have fd := fun a G W (h : IsS W a G (C.map (dropRw n))) => all_pts hq hd hAq.out.symm hdd a G W h
    generalize C.map (dropRw n) = D at *
    clear hdd eD hq hd
    go_wp2_with fail
    go_at_call 14
    refine (cd _ S1).mono ?_
    rintro e w7 ⟨a7, G7, rfl, s7, b7⟩
    replace bel := belowCall bel b7
    replace sA := sA.call b7
    clear b7 d0 l0 S1 B0
    go_wp2_with fail
    replace bel := belowNew bel (.cells #[.slice a7 dd G7] 24)
    replace sA := sA.alloc (.cells #[.slice a7 dd G7] 24)
    replace s7 := s7.alloc (.cells #[.slice a7 dd G7] 24)
    generalize w7.heap.size = g7 at *
    generalize w7.alloc _ = w8 at *
    go_at_call 10
    refine (fd _ _ _ s7).mono ?_
    rintro e w9 ⟨a9, G9, rfl, p9, b9⟩
    replace bel := belowCall bel b9
    replace sA := sA.call b9
    clear b9 s7
    have hG := sA.le
    have hG' := sA.max
    rw [← hm.out] at hG
    have pt := sA.part q (q + r) (by omega) (by rw [← hm.out]; exact Nat.le_refl _)
    rw [List.take_of_length_le (by rw [← hm.out]; exact Nat.le_refl _)] at pt
    have cE := fun a b G H W h k => same_pts a b G H (A.drop q) r hAq.out.symm (by omega) W h k
    by_cases hGq : G3 = q
    · rw [if_pos hGq] at pt
      obtain rfl : r = 0 := by omega
      obtain rfl : q = G3 := hGq.symm
      rw [Nat.sub_self] at pt
      clear cd fd
      go_wp2_with fail
      go_at_call 27
      refine (cE _ _ _ _ _ p9 pt).mono ?_
      rintro e w10 ⟨rfl, b10⟩
      replace bel := belowCall bel b10
      replace sA := sA.call b10
      clear b10 p9 pt cE
      have hqi : (0 : Int) ≤ q := by omega
      go_wp2_with fail
      go_loopw [127] (fun i wr => ∃ (j : Nat), j ≤ q ∧ i = .int .i64 j ∧ Below w.heap.size w wr ∧ Below w10.heap.size w10 wr) (fun i _ => q - (intOf i).toNat)
      case atStart => exact ⟨0, by omega, rfl, bel, Below.refl _ _⟩
      case round =>
        clear bel
        obtain ⟨j, hj, rfl, bel, bel2⟩ := hrel
        by_cases hlt : j < q
        · have sB := sA.keep bel2 (Nat.le_refl _)
          have hjA : j < A.length := by rw [← hm.out]; omega
          obtain ⟨b, off, rfl, hbw⟩ := sB.where (by intro e; rw [e] at hjA; simp at hjA)
          obtain ⟨x, y, e0, e1, hx, _⟩ := sB.pt j hjA
          have hxn : x < n := hT (x, y) (List.mem_iff_getElem?.2 ⟨j, by rw [List.getElem?_take, if_pos hlt]; exact hx⟩)
          have hxn' : ¬ n ≤ x := by omega
          have belA := belowNew bel (.cells #[.int .i64 x, .int .i64 y] 44)
          have belB := belowNew bel2 (.cells #[.int .i64 x, .int .i64 y] 44)
          clear hjA hx sB
          go_wp2_with fail
          go_roundw
          case rel => exact ⟨j + 1, by omega, by go_num, belA, belB⟩
          case measure => simp [intOf]; omega
        · obtain rfl : j = q := by omega
          go_wp2_with fail
          go_ret
          exact ⟨rfl, bel⟩
    · rw [if_neg hGq] at pt
      obtain ⟨b0, rfl⟩ : ∃ g, a3 = some ⟨g, 0, none⟩ := by
        rcases hWa.out with h0 | h0
        · have := sA.nil h0
          omega
        · exact h0
      rw [Option.map_some, Addr.add_lit, Nat.zero_add] at pt
      have hGq' : q < G3 := by omega
      clear cd fd
      go_wp2_with fail
      go_at_call 27
      refine (cE _ _ _ _ _ p9 pt).mono ?_
      rintro e w10 ⟨rfl, b10⟩
      replace bel := belowCall bel b10
      replace sA := sA.call b10
      clear b10 p9 pt cE
      have hqi : (0 : Int) ≤ q := by omega
      go_wp2_with fail
      go_loopw [127] (fun i wr => ∃ (j : Nat), j ≤ q ∧ i = .int .i64 j ∧ Below w.heap.size w wr ∧ Below w10.heap.size w10 wr) (fun i _ => q - (intOf i).toNat)
      case atStart => exact ⟨0, by omega, rfl, bel, Below.refl _ _⟩
      case round =>
        clear bel
        obtain ⟨j, hj, rfl, bel, bel2⟩ := hrel
        by_cases hlt : j < q
        · have sB := sA.keep bel2 (Nat.le_refl _)
          have hjA : j < A.length := by rw [← hm.out]; omega
          obtain ⟨b, off, eb, hbw⟩ := sB.where (by intro e; rw [e] at hjA; simp at hjA)
          simp only [Option.some.injEq, Addr.mk.injEq, and_true] at eb
          obtain ⟨rfl, rfl⟩ := eb
          obtain ⟨x, y, e0, e1, hx, _⟩ := sB.pt j hjA
          simp only [Nat.zero_add] at e0 e1
          have hxn : x < n := hT (x, y) (List.mem_iff_getElem?.2 ⟨j, by rw [List.getElem?_take, if_pos hlt]; exact hx⟩)
          have hxn' : ¬ n ≤ x := by omega
          have belA := belowNew bel (.cells #[.int .i64 x, .int .i64 y] 44)
          have belB := belowNew bel2 (.cells #[.int .i64 x, .int .i64 y] 44)
          clear hjA hx sB
          go_wp2_with fail
          go_roundw
          case rel => exact ⟨j + 1, by omega, by go_num, belA, belB⟩
          case measure => simp [intOf]; omega
        · obtain rfl : j = q := by omega
          go_wp2_with fail
          go_ret
          exact ⟨rfl, bel⟩
  · generalize chL C (dropE n) (dropL C n) = D at *
    obtain ⟨dd, hdd⟩ : ∃ d, d = D.length := ⟨_, rfl⟩
    replace cd := fun W h => makes_pts hdd (cd W h)
    generalize dropE n = dE at *
    clear hdd
    go_wp2_with fail
    go_at_call 14
    refine (cd _ S1).mono ?_
    rintro e w7 ⟨a7, G7, rfl, s7, b7⟩
    replace bel := belowCall bel b7
    go_wp2_with fail
    go_ret
    exact ⟨rfl, belowNew bel _⟩

set_option maxHeartbeats 1000000 in
set_option maxRecDepth 100000 in
theorem walkNN (w : World) (a0 : Option Addr) (cap0 cn : Nat) (C : List Rw) (hcn : Hid (cn = C.length)) (S0 : IsS w a0 cap0 C) (s n o : Int) (k q r : Nat) (ek : o % 4 = k) (hz : shelfE C = 0) (hk : k < 4) (A : List Pt) (hA : allL C k = A) (hE : allE C k = 0) (hm : Hid (q + r = A.length)) (hAl : q + r ≤ 40)
    (hs : sealE C s n ≠ 0) (hg : mrgE C s n ≠ 0) (hq : allE (C.map (dropRw n)) k = 0) (hd : allL (C.map (dropRw n)) k = A.drop q) (hT : ∀ p ∈ A.take q, p.1 < n) :
    Calls Try.prog 4 #[.agg #[.slice a0 cn cap0], .int .i64 s, .int .i64 n, .int .i64 o] w fun e w' => e = .returned (.bool true) ∧ Below w.heap.size w w' := by
  have c0 := fun W => at_any o 4 W (by decide) (by decide)
  rw [ek] at c0
  have c1 := fun a G W (h : IsS W a G C) => all_was hE hA hm.out hcn.out a G W h
  have ch : ∀ x, chE C x = x := fun x => by unfold chE; rw [if_pos hz]
  have cs := fun W (h : IsS W a0 cap0 C) => seal_is s n h
  simp only [ch, ← hcn.out] at cs
  obtain ⟨Ds, hDs⟩ : ∃ D, D = chL C (sealE C s n) (sealL C s n) := ⟨_, rfl⟩
  rw [← hDs] at cs
  obtain ⟨ds, hds⟩ : ∃ d, d = Ds.length := ⟨_, rfl⟩
  replace cs := fun W h => makes_pts hds (cs W h)
  generalize sealE C s n = Es at *
  clear hDs hds
  have cm := fun W (h : IsS W a0 cap0 C) => merge_is s n h
  simp only [ch, ← hcn.out] at cm
  obtain ⟨Dm, hDm⟩ : ∃ D, D = chL C (mrgE C s n) (mrgL C s n) := ⟨_, rfl⟩
  rw [← hDm] at cm
  obtain ⟨dm, hdm⟩ : ∃ d, d = Dm.length := ⟨_, rfl⟩
  replace cm := fun W h => makes_pts hdm (cm W h)
  generalize mrgE C s n = Em at *
  clear hDm hdm
  have cd := fun W (h : IsS W a0 cap0 C) => drop_is n h
  simp only [ch, ← hcn.out] at cd
  have sh := fun W => shelved_any W
  have hz' := hide hz
  clear hE hA hz ek ch
  have hAq : (A.drop q).length = r := by rw [List.length_drop, ← hm.out]; omega
  replace hAq := hide hAq
  have B0 := Blk.laid w [.slice a0 cn cap0] 24 _ rfl
  have bel : Below w.heap.size w (w.alloc (.cells #[.slice a0 cn cap0] 24)) := (Below.refl _ _).alloc (Nat.le_refl _) _
  have S1 := S0.alloc (.cells #[.slice a0 cn cap0] 24)
  clear S0
  go_enter Try.func4, Try.ntmps4
  go_wp2_with fail
  generalize w.alloc _ = w1 at *
  go_at_call 28
  refine (c0 _).mono ?_
  rintro e wx ⟨rfl, rfl⟩
  have d0 : w1.cell? ⟨w.heap.size, 0, none⟩ = some (.slice a0 cn cap0) := B0.cell 0
  have l0 := B0.lt
  go_wp2_with fail
  go_at_call 10
  refine (c1 _ _ _ S1).mono ?_
  rintro e w3 ⟨a3, G3, rfl, sA, hWa, b3⟩
  replace hWa := hide hWa
  replace B0 := B0.keep b3 B0.lt
  replace bel := belowCall bel b3
  replace S1 := S1.call b3
  clear b3 d0 l0 c0 c1
  go_wp2_with fail
  go_at_call 16
  refine (sh _).mono ?_
  rintro e w4 ⟨rfl, b4⟩
  replace B0 := B0.keep b4 B0.lt
  replace bel := belowCall bel b4
  replace S1 := S1.call b4
  replace sA := sA.call b4
  clear b4 sh
  have d0 : w4.cell? ⟨w.heap.size, 0, none⟩ = some (.slice a0 cn cap0) := B0.cell 0
  have l0 := B0.lt
  go_wp2_with fail
  go_at_call 12
  refine (cs _ S1).mono ?_
  rintro e ws1 ⟨ads, Gs, rfl, ss, bs⟩
  replace B0 := B0.keep bs B0.lt
  replace bel := belowCall bel bs
  replace S1 := S1.call bs
  replace sA := sA.call bs
  clear bs d0 l0
  have d0 : ws1.cell? ⟨w.heap.size, 0, none⟩ = some (.slice a0 cn cap0) := B0.cell 0
  have l0 := B0.lt
  go_wp2_with fail
  clear d0 l0
  replace B0 := B0.alc (.cells #[.slice ads ds Gs] 24)
  replace bel := belowNew bel (.cells #[.slice ads ds Gs] 24)
  replace S1 := S1.alloc (.cells #[.slice ads ds Gs] 24)
  replace sA := sA.alloc (.cells #[.slice ads ds Gs] 24)
  replace ss := ss.alloc (.cells #[.slice ads ds Gs] 24)
  generalize ws1.heap.size = gs at *
  generalize ws1.alloc _ = ws2 at *
  clear ss
  have d0 : ws2.cell? ⟨w.heap.size, 0, none⟩ = some (.slice a0 cn cap0) := B0.cell 0
  have l0 := B0.lt
  go_wp2_with fail
  go_at_call 13
  refine (cm _ S1).mono ?_
  rintro e wm1 ⟨adm, Gm, rfl, sm, bm⟩
  replace B0 := B0.keep bm B0.lt
  replace bel := belowCall bel bm
  replace S1 := S1.call bm
  replace sA := sA.call bm
  clear bm d0 l0
  have d0 : wm1.cell? ⟨w.heap.size, 0, none⟩ = some (.slice a0 cn cap0) := B0.cell 0
  have l0 := B0.lt
  go_wp2_with fail
  clear d0 l0
  replace B0 := B0.alc (.cells #[.slice adm dm Gm] 24)
  replace bel := belowNew bel (.cells #[.slice adm dm Gm] 24)
  replace S1 := S1.alloc (.cells #[.slice adm dm Gm] 24)
  replace sA := sA.alloc (.cells #[.slice adm dm Gm] 24)
  replace sm := sm.alloc (.cells #[.slice adm dm Gm] 24)
  generalize wm1.heap.size = gm at *
  generalize wm1.alloc _ = wm2 at *
  clear sm
  have d0 : wm2.cell? ⟨w.heap.size, 0, none⟩ = some (.slice a0 cn cap0) := B0.cell 0
  have l0 := B0.lt
  by_cases hdE : dropE n = 0
  · have eD : chL C (dropE n) (dropL C n) = C.map (dropRw n) := by
      unfold dropL chL chE
      rw [hdE, if_pos rfl, if_pos hz'.out, if_pos rfl]
    rw [eD, hdE] at cd
    obtain ⟨dd, hdd⟩ : ∃ d, d = (C.map (dropRw n)).length := ⟨_, rfl⟩
    replace cd := fun W h => makes_pts hdd (cd W h)
    have fd := fun a G W (h : IsS W a G (C.map (dropRw n))) => all_pts hq hd hAq.out.symm hdd a G W h
    generalize C.map (dropRw n) = D at *
    clear hdd eD hq hd
    go_wp2_with fail
    go_at_call 14
    refine (cd _ S1).mono ?_
    rintro e w7 ⟨a7, G7, rfl, s7, b7⟩
    replace bel := belowCall bel b7
    replace sA := sA.call b7
    clear b7 d0 l0 S1 B0
    go_wp2_with fail
    replace bel := belowNew bel (.cells #[.slice a7 dd G7] 24)
    replace sA := sA.alloc (.cells #[.slice a7 dd G7] 24)
    replace s7 := s7.alloc (.cells #[.slice a7 dd G7] 24)
    generalize w7.heap.size = g7 at *
    generalize w7.alloc _ = w8 at *
    go_at_call 10
    refine (fd _ _ _ s7).mono ?_
    rintro e w9 ⟨a9, G9, rfl, p9, b9⟩
    replace bel := belowCall bel b9
    replace sA := sA.call b9
    clear b9 s7
    have hG := sA.le
    have hG' := sA.max
    rw [← hm.out] at hG
    have pt := sA.part q (q + r) (by omega) (by rw [← hm.out]; exact Nat.le_refl _)
    rw [List.take_of_length_le (by rw [← hm.out]; exact Nat.le_refl _)] at pt
    have cE := fun a b G H W h k => same_pts a b G H (A.drop q) r hAq.out.symm (by omega) W h k
    by_cases hGq : G3 = q
    · rw [if_pos hGq] at pt
      obtain rfl : r = 0 := by omega
      obtain rfl : q = G3 := hGq.symm
      rw [Nat.sub_self] at pt
      clear cd fd
      go_wp2_with fail
      go_at_call 27
      refine (cE _ _ _ _ _ p9 pt).mono ?_
      rintro e w10 ⟨rfl, b10⟩
      replace bel := belowCall bel b10
      replace sA := sA.call b10
      clear b10 p9 pt cE
      have hqi : (0 : Int) ≤ q := by omega
      go_wp2_with fail
      go_loopw [127] (fun i wr => ∃ (j : Nat), j ≤ q ∧ i = .int .i64 j ∧ Below w.heap.size w wr ∧ Below w10.heap.size w10 wr) (fun i _ => q - (intOf i).toNat)
      case atStart => exact ⟨0, by omega, rfl, bel, Below.refl _ _⟩
      case round =>
        clear bel
        obtain ⟨j, hj, rfl, bel, bel2⟩ := hrel
        by_cases hlt : j < q
        · have sB := sA.keep bel2 (Nat.le_refl _)
          have hjA : j < A.length := by rw [← hm.out]; omega
          obtain ⟨b, off, rfl, hbw⟩ := sB.where (by intro e; rw [e] at hjA; simp at hjA)
          obtain ⟨x, y, e0, e1, hx, _⟩ := sB.pt j hjA
          have hxn : x < n := hT (x, y) (List.mem_iff_getElem?.2 ⟨j, by rw [List.getElem?_take, if_pos hlt]; exact hx⟩)
          have hxn' : ¬ n ≤ x := by omega
          have belA := belowNew bel (.cells #[.int .i64 x, .int .i64 y] 44)
          have belB := belowNew bel2 (.cells #[.int .i64 x, .int .i64 y] 44)
          clear hjA hx sB
          go_wp2_with fail
          go_roundw
          case rel => exact ⟨j + 1, by omega, by go_num, belA, belB⟩
          case measure => simp [intOf]; omega
        · obtain rfl : j = q := by omega
          go_wp2_with fail
          go_ret
          exact ⟨rfl, bel⟩
    · rw [if_neg hGq] at pt
      obtain ⟨b0, rfl⟩ : ∃ g, a3 = some ⟨g, 0, none⟩ := by
        rcases hWa.out with h0 | h0
        · have := sA.nil h0
          omega
        · exact h0
      rw [Option.map_some, Addr.add_lit, Nat.zero_add] at pt
      have hGq' : q < G3 := by omega
      clear cd fd
      go_wp2_with fail
      go_at_call 27
      refine (cE _ _ _ _ _ p9 pt).mono ?_
      rintro e w10 ⟨rfl, b10⟩
      replace bel := belowCall bel b10
      replace sA := sA.call b10
      clear b10 p9 pt cE
      have hqi : (0 : Int) ≤ q := by omega
      go_wp2_with fail
      go_loopw [127] (fun i wr => ∃ (j : Nat), j ≤ q ∧ i = .int .i64 j ∧ Below w.heap.size w wr ∧ Below w10.heap.size w10 wr) (fun i _ => q - (intOf i).toNat)
      case atStart => exact ⟨0, by omega, rfl, bel, Below.refl _ _⟩
      case round =>
        clear bel
        obtain ⟨j, hj, rfl, bel, bel2⟩ := hrel
        by_cases hlt : j < q
        · have sB := sA.keep bel2 (Nat.le_refl _)
          have hjA : j < A.length := by rw [← hm.out]; omega
          obtain ⟨b, off, eb, hbw⟩ := sB.where (by intro e; rw [e] at hjA; simp at hjA)
          simp only [Option.some.injEq, Addr.mk.injEq, and_true] at eb
          obtain ⟨rfl, rfl⟩ := eb
          obtain ⟨x, y, e0, e1, hx, _⟩ := sB.pt j hjA
          simp only [Nat.zero_add] at e0 e1
          have hxn : x < n := hT (x, y) (List.mem_iff_getElem?.2 ⟨j, by rw [List.getElem?_take, if_pos hlt]; exact hx⟩)
          have hxn' : ¬ n ≤ x := by omega
          have belA := belowNew bel (.cells #[.int .i64 x, .int .i64 y] 44)
          have belB := belowNew bel2 (.cells #[.int .i64 x, .int .i64 y] 44)
          clear hjA hx sB
          go_wp2_with fail
          go_roundw
          case rel => exact ⟨j + 1, by omega, by go_num, belA, belB⟩
          case measure => simp [intOf]; omega
        · obtain rfl : j = q := by omega
          go_wp2_with fail
          go_ret
          exact ⟨rfl, bel⟩
  · generalize chL C (dropE n) (dropL C n) = D at *
    obtain ⟨dd, hdd⟩ : ∃ d, d = D.length := ⟨_, rfl⟩
    replace cd := fun W h => makes_pts hdd (cd W h)
    generalize dropE n = dE at *
    clear hdd
    go_wp2_with fail
    go_at_call 14
    refine (cd _ S1).mono ?_
    rintro e w7 ⟨a7, G7, rfl, s7, b7⟩
    replace bel := belowCall bel b7
    go_wp2_with fail
    go_ret
    exact ⟨rfl, belowNew bel _⟩

set_option maxHeartbeats 400000 in
set_option maxRecDepth 100000 in
theorem walkE (w : World) (a0 : Option Addr) (cap0 cn : Nat) (C : List Rw) (hcn : Hid (cn = C.length)) (S0 : IsS w a0 cap0 C) (s n o : Int) (k : Nat) (ek : o % 4 = k) (hE : allE C k ≠ 0) :
    Calls Try.prog 4 #[.agg #[.slice a0 cn cap0], .int .i64 s, .int .i64 n, .int .i64 o] w fun e w' => e = .returned (.bool true) ∧ Below w.heap.size w w' := by
  have c0 := fun W => at_any o 4 W (by decide) (by decide)
  rw [ek] at c0
  have c1 := fun W (h : IsS W a0 cap0 C) => all_is (k : Int) h
  rw [← hcn.out] at c1
  have sh := fun W => shelved_any W
  generalize allE C k = EE at *
  generalize allL C k = AA at *
  generalize AA.length = an at *
  have B0 := Blk.laid w [.slice a0 cn cap0] 24 _ rfl
  have bel : Below w.heap.size w (w.alloc (.cells #[.slice a0 cn cap0] 24)) := (Below.refl _ _).alloc (Nat.le_refl _) _
  have S1 := S0.alloc (.cells #[.slice a0 cn cap0] 24)
  go_enter Try.func4, Try.ntmps4
  go_wp2_with fail
  generalize w.alloc _ = w1 at *
  go_at_call 28
  refine (c0 _).mono ?_
  rintro e wx ⟨rfl, rfl⟩
  have d0 : w1.cell? ⟨w.heap.size, 0, none⟩ = some (.slice a0 cn cap0) := B0.cell 0
  have l0 := B0.lt
  go_wp2_with fail
  go_at_call 10
  refine (c1 _ S1).mono ?_
  rintro e w3 ⟨a3, G3, rfl, o3, b3⟩
  replace bel := belowCall bel b3
  clear b3 o3 d0 l0
  go_wp2_with fail
  go_at_call 16
  refine (sh _).mono ?_
  rintro e w4 ⟨rfl, b4⟩
  replace bel := belowCall bel b4
  clear b4
  go_wp2_with fail
  go_at_call 16
  refine (sh _).mono ?_
  rintro e w5 ⟨rfl, b5⟩
  replace bel := belowCall bel b5
  go_wp2_with fail
  go_ret
  exact ⟨rfl, bel⟩

theorem walk (w : World) (a0 : Option Addr) (cap0 : Nat) (l : List Lr) (s0 : SlR w a0 cap0 l) (r0 : cap0 * 48 ≤ 140737488351232) (s : Int) (ws : (Lit.int .i64 s).wf = true) (n : Int) (wn : (Lit.int .i64 n).wf = true) (o : Int) (wo : (Lit.int .i64 o).wf = true) :
    Calls Try.prog 4 #[.agg #[.slice a0 l.length cap0], .int .i64 s, .int .i64 n, .int .i64 o] w fun e w' => e = .returned (.bool true) ∧ Below w.heap.size w w' := by
  obtain ⟨k, hk, ek⟩ : ∃ k : Nat, k < 4 ∧ o % 4 = k := ⟨(o % 4).toNat, by omega, by omega⟩
  have S0 := IsS.of s0
  have hcn : l.length = (l.map Lr.rw).length := by rw [List.length_map]
  generalize l.map Lr.rw = C at *
  by_cases hE : allE C k = 0
  · have hz : shelfE C = 0 := by
      unfold allE at hE
      split at hE
      · assumption
      · rename_i h0; exact absurd hE h0
    obtain ⟨q, h1, h2, h3, h4⟩ := drop_all n hk hz
    have hA := (all_zero hk hz).2
    have hAl : (allPts (C.getD k rw0)).length ≤ 40 := by
      obtain ⟨h4, hm⟩ := shelfE_mem hz
      exact (checkE_zero (rowE_zero (hm _ (getD_mem (by omega)))).2.2).1
    generalize allPts (C.getD k rw0) = A at *
    have e : q + (A.length - q) = A.length := by omega
    by_cases hs : sealE C s n = 0
    · by_cases hg : mrgE C s n = 0
      · exact walkSM w a0 cap0 l.length C hcn S0 s n o k q (A.length - q) ek hz hk A hA hE e (by omega) hs hg h2 h3 h4
      · exact walkSN w a0 cap0 l.length C hcn S0 s n o k q (A.length - q) ek hz hk A hA hE e (by omega) hs hg h2 h3 h4
    · by_cases hg : mrgE C s n = 0
      · exact walkNM w a0 cap0 l.length C hcn S0 s n o k q (A.length - q) ek hz hk A hA hE e (by omega) hs hg h2 h3 h4
      · exact walkNN w a0 cap0 l.length C hcn S0 s n o k q (A.length - q) ek hz hk A hA hE e (by omega) hs hg h2 h3 h4
  · exact walkE w a0 cap0 l.length C hcn S0 s n o k ek hE

set_option maxRecDepth 100000 in
theorem lifted (os : Os) (started : os.Started) (H : Type) (enc : TypeId × Value → H) :
    ReturnsInHanded {} Try.checked os 4 .any (Rows.shelfSameSpec.pre6 enc Try.prog Try.f4 Rows.shelfSameRow.domain false) (Rows.shelfSameSpec.post enc Try.prog Try.f4 false true false false) := by
  refine returnsInHanded_of_change_sized (C := Try.checked) own started (by kernel_rfl) Try.func4
    (ChangeSpec.witness6 (enc := enc) (C := Try.checked) false ⟨#[], #[.agg #[.slice none 0 0], .int .i64 0, .int .i64 0, .int .i64 0], []⟩ 8 (by kernel_rfl) (by kernel_rfl) (by kernel_rfl) (by kernel_rfl)) ?_
  intro W base args ds gs before hval0 hW hcnd hsz0 _
  have hsz : (DataW.weightsEach Try.prog (Try.f4.params.toList ++ Rows.shelfSameSpec.plain.varTypes Try.prog) (ds ++ gs)).all (· ≤ reachBytes) = true := hsz0
  have hval : ∀ (j : Nat) t v, Try.f4.params[j]? = some t → args[j]? = some v → Value.okWide Try.prog W .any base t v := hval0
  have hW' := hW
  obtain ⟨p, q, hA0, hV, rfl, hfz, hnd⟩ := hW
  have hA : DataW.TrodAll enc Try.prog W 0 (fun _ => true) true Try.f4.params.toList args.toList ds p := hA0
  rw [Try.params4] at hA hval hsz
  obtain ⟨v0, vs0, d0, ds0, p0, q0, hargs, rfl, rfl, h0, r0⟩ := trodAll_cons hA
  obtain ⟨v1, vs1, d1, ds1, p1, q1, rfl, rfl, rfl, h1, r1⟩ := trodAll_cons r0
  obtain ⟨v2, vs2, d2, ds2, p2, q2, rfl, rfl, rfl, h2, r2⟩ := trodAll_cons r1
  obtain ⟨v3, vs3, d3, ds3, p3, q3, rfl, rfl, rfl, h3, r3⟩ := trodAll_cons r2
  obtain ⟨rfl, rfl, rfl⟩ := trodAll_nil r3
  obtain rfl : args = #[v0, v1, v2, v3] := by cases args; simp_all
  obtain ⟨rfl, rfl⟩ := trodVars_none hV
  have k0 := h0
  have lt0 : ∀ x ∈ p0, x.block < W.heap.size := by obtain ⟨m, hm⟩ := k0; exact DataW.trod_lt m _ _ _ hm
  obtain ⟨l0, a0, cap0, rfl, s0, reach0⟩ := open_shelf (hval 0 24 v0 rfl rfl) h0 (light_of (j := 0) hsz rfl rfl)
  obtain ⟨a1, rfl, rfl, rfl, w1⟩ := open_int Try.underlying3 (hval 1 3 v1 rfl rfl) h1
  obtain ⟨a2, rfl, rfl, rfl, w2⟩ := open_int Try.underlying3 (hval 2 3 v2 rfl rfl) h2
  obtain ⟨a3, rfl, rfl, rfl, w3⟩ := open_int Try.underlying3 (hval 3 3 v3 rfl rfl) h3
  clear hA0 hval0 hsz0
  refine (walk W a0 cap0 l0 s0 reach0 a1 w1 a2 w2 a3 w3).mono fun e W' ⟨he, bel⟩ => ?_
  subst he
  exact ⟨_, rfl, _, _, _, [], _, [], hW', trodAll_mk1 (shut_bool Try.underlying4 _), (trodAll_cons_mk (Below.trod laidOut (by kernel_rfl) (of_decide_eq_true (by kernel_rfl)) k0 bel lt0) (trodAll_cons_mk (shut_int Try.underlying3 w1) (trodAll_cons_mk (shut_int Try.underlying3 w2) (trodAll_cons_mk (shut_int Try.underlying3 w3) trodAll_mk0)))), rfl, bel.frame _, fun h => by cases h⟩

theorem over : Rows.shelfSameRow.holds Try.pinned (OpenSpec.ofChange Rows.shelfSameSpec) :=
  OpenClaim.holds_of_wide 4 Try.f4 rfl rfl rfl rfl rfl rfl rfl ⟨rfl, rfl, rfl, rfl, rfl⟩ rfl rfl rfl rfl rfl (by kernel_rfl) Try.func4 (by kernel_rfl)
    (of_decide_eq_true (by kernel_rfl)) (by unfold Func.isWrapper; first | (rw [if_pos (by decide +kernel)]; kernel_rfl) | (rw [if_neg (by decide +kernel)]; exact ⟨rfl, rfl⟩))
    (fun os started H enc _ => lifted os started H enc)
end Go.Proofs.Ytgncadehaificaa.shelfSame

namespace Go.Proofs.Ytgncadehaificaa
theorem shelfSame_holds : Rows.ShelfSameSaid := shelfSame.over
#print axioms shelfSame_holds
end Go.Proofs.Ytgncadehaificaa
