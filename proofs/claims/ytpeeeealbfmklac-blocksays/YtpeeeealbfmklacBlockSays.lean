/-
  Proved: for all points and any two blocks, BlockSays returns true and leaves its arguments as they were: Make, Points, Same and Merge of package block answer as the document says, errors too.
-/
import Derived.Test.YtpeeeealbfmklacRows
import Derived.Test.YtpeeeealbfmklacBlocked
import Derived.Test.YtpeeeealbfmklacBSame
import Derived.Test.YtpeeeealbfmklacRefSame
import Derived.Test.YtpeeeealbfmklacRefMerge
import Derived.Test.YtpeeeealbfmklacArgBlock
import Derived.Deep.RegionHeld3
namespace Go.Proofs.Ytpeeeealbfmklac.blockSays
open Go.ChangeShapes Go.WideShapes Go.ChangeAt Go.RowKit
set_option linter.unusedVariables false

/-- A block of points whose bits lie there, and are not too many. -/
structure Ok (W : World) (p : Bk) (ao : Option Addr) (ca : Nat) : Prop where
  bits : Sl W ao ca (p.bits.map Value.bool)
  few : p.bits.length ≤ 140737488355328

/-- What stays while the last line is asked: the two blocks that were handed, the four that were answered, the points that were answered. -/
structure K (w : World) (gA gB gx gX gy gY : Nat) (aA aB ax aX ay aY ap aP : Option Addr) (cA cB cx cX cy cY cp cP : Nat) (a b X Y : Bk) (P : List Pt) (W : World) : Prop where
  hA : Held W gA a aA cA
  hB : Held W gB b aB cB
  hx : Held W gx X ax cx
  hX : Held W gX X aX cX
  hy : Held W gy Y ay cy
  hY : Held W gY Y aY cY
  sp : SlP W ap cp P
  sP : SlP W aP cP P
  la : a.bits.length ≤ 140737488355328
  lb : b.bits.length ≤ 140737488355328
  lX : X.bits.length ≤ 140737488355328
  lY : Y.bits.length ≤ 140737488355328
  bel : Below w.heap.size w W

theorem K.call {w : World} {gA gB gx gX gy gY : Nat} {aA aB ax aX ay aY ap aP : Option Addr} {cA cB cx cX cy cY cp cP : Nat} {a b X Y : Bk} {P : List Pt} {W : World} {w' : World} (h : K w gA gB gx gX gy gY aA aB ax aX ay aY ap aP cA cB cx cX cy cY cp cP a b X Y P W) (hb : Below W.heap.size W w') : K w gA gB gx gX gy gY aA aB ax aX ay aY ap aP cA cB cx cX cy cY cp cP a b X Y P w' :=
  ⟨h.hA.call hb, h.hB.call hb, h.hx.call hb, h.hX.call hb, h.hy.call hb, h.hY.call hb, h.sp.call hb, h.sP.call hb, h.la, h.lb, h.lX, h.lY, belowCall h.bel hb⟩

theorem K.okA {w : World} {gA gB gx gX gy gY : Nat} {aA aB ax aX ay aY ap aP : Option Addr} {cA cB cx cX cy cY cp cP : Nat} {a b X Y : Bk} {P : List Pt} {W : World} (h : K w gA gB gx gX gy gY aA aB ax aX ay aY ap aP cA cB cx cX cy cY cp cP a b X Y P W) : Ok W a aA cA := ⟨h.hA.bits, h.la⟩
theorem K.okB {w : World} {gA gB gx gX gy gY : Nat} {aA aB ax aX ay aY ap aP : Option Addr} {cA cB cx cX cy cY cp cP : Nat} {a b X Y : Bk} {P : List Pt} {W : World} (h : K w gA gB gx gX gy gY aA aB ax aX ay aY ap aP cA cB cx cX cy cY cp cP a b X Y P W) : Ok W b aB cB := ⟨h.hB.bits, h.lb⟩
theorem K.okx {w : World} {gA gB gx gX gy gY : Nat} {aA aB ax aX ay aY ap aP : Option Addr} {cA cB cx cX cy cY cp cP : Nat} {a b X Y : Bk} {P : List Pt} {W : World} (h : K w gA gB gx gX gy gY aA aB ax aX ay aY ap aP cA cB cx cX cy cY cp cP a b X Y P W) : Ok W X ax cx := ⟨h.hx.bits, h.lX⟩
theorem K.okX {w : World} {gA gB gx gX gy gY : Nat} {aA aB ax aX ay aY ap aP : Option Addr} {cA cB cx cX cy cY cp cP : Nat} {a b X Y : Bk} {P : List Pt} {W : World} (h : K w gA gB gx gX gy gY aA aB ax aX ay aY ap aP cA cB cx cX cy cY cp cP a b X Y P W) : Ok W X aX cX := ⟨h.hX.bits, h.lX⟩
theorem K.oky {w : World} {gA gB gx gX gy gY : Nat} {aA aB ax aX ay aY ap aP : Option Addr} {cA cB cx cX cy cY cp cP : Nat} {a b X Y : Bk} {P : List Pt} {W : World} (h : K w gA gB gx gX gy gY aA aB ax aX ay aY ap aP cA cB cx cX cy cY cp cP a b X Y P W) : Ok W Y ay cy := ⟨h.hy.bits, h.lY⟩
theorem K.okY {w : World} {gA gB gx gX gy gY : Nat} {aA aB ax aX ay aY ap aP : Option Addr} {cA cB cx cX cy cY cp cP : Nat} {a b X Y : Bk} {P : List Pt} {W : World} (h : K w gA gB gx gX gy gY aA aB ax aX ay aY ap aP cA cB cx cX cy cY cp cP a b X Y P W) : Ok W Y aY cY := ⟨h.hY.bits, h.lY⟩

/-- A call that writes nothing that was there keeps what is kept. -/
theorem K.over {w : World} {gA gB gx gX gy gY : Nat} {aA aB ax aX ay aY ap aP : Option Addr} {cA cB cx cX cy cY cp cP : Nat} {a b X Y : Bk} {P : List Pt} {W : World} {f : Nat} {args : Array Value} {v : Value} (c : Calls Try.prog f args W fun e w' => e = .returned v ∧ Below W.heap.size W w') (h : K w gA gB gx gX gy gY aA aB ax aX ay aY ap aP cA cB cx cX cy cY cp cP a b X Y P W) :
    Calls Try.prog f args W fun e w' => e = .returned v ∧ w'.cell? ⟨gA, 0, none⟩ = some (.int .i64 a.n) ∧ w'.cell? ⟨gA, 1, none⟩ = some (.int .i64 a.fr) ∧ w'.cell? ⟨gA, 2, none⟩ = some (.int .i64 a.to) ∧ w'.cell? ⟨gA, 3, none⟩ = some (.slice aA a.bits.length cA) ∧ w'.cell? ⟨gB, 0, none⟩ = some (.int .i64 b.n) ∧ w'.cell? ⟨gB, 1, none⟩ = some (.int .i64 b.fr) ∧ w'.cell? ⟨gB, 2, none⟩ = some (.int .i64 b.to) ∧ w'.cell? ⟨gB, 3, none⟩ = some (.slice aB b.bits.length cB) ∧ w'.cell? ⟨gx, 0, none⟩ = some (.int .i64 X.n) ∧ w'.cell? ⟨gx, 1, none⟩ = some (.int .i64 X.fr) ∧ w'.cell? ⟨gx, 2, none⟩ = some (.int .i64 X.to) ∧ w'.cell? ⟨gx, 3, none⟩ = some (.slice ax X.bits.length cx) ∧ w'.cell? ⟨gX, 0, none⟩ = some (.int .i64 X.n) ∧ w'.cell? ⟨gX, 1, none⟩ = some (.int .i64 X.fr) ∧ w'.cell? ⟨gX, 2, none⟩ = some (.int .i64 X.to) ∧ w'.cell? ⟨gX, 3, none⟩ = some (.slice aX X.bits.length cX) ∧ w'.cell? ⟨gy, 0, none⟩ = some (.int .i64 Y.n) ∧ w'.cell? ⟨gy, 1, none⟩ = some (.int .i64 Y.fr) ∧ w'.cell? ⟨gy, 2, none⟩ = some (.int .i64 Y.to) ∧ w'.cell? ⟨gy, 3, none⟩ = some (.slice ay Y.bits.length cy) ∧ w'.cell? ⟨gY, 0, none⟩ = some (.int .i64 Y.n) ∧ w'.cell? ⟨gY, 1, none⟩ = some (.int .i64 Y.fr) ∧ w'.cell? ⟨gY, 2, none⟩ = some (.int .i64 Y.to) ∧ w'.cell? ⟨gY, 3, none⟩ = some (.slice aY Y.bits.length cY) ∧ K w gA gB gx gX gy gY aA aB ax aX ay aY ap aP cA cB cx cX cy cY cp cP a b X Y P w' := by
  refine c.mono ?_
  rintro e w' ⟨he, hb⟩
  have k := h.call hb
  obtain ⟨A0, A1, A2, A3⟩ := k.hA.cells
  obtain ⟨B0, B1, B2, B3⟩ := k.hB.cells
  obtain ⟨x0, x1, x2, x3⟩ := k.hx.cells
  obtain ⟨X0, X1, X2, X3⟩ := k.hX.cells
  obtain ⟨y0, y1, y2, y3⟩ := k.hy.cells
  obtain ⟨Y0, Y1, Y2, Y3⟩ := k.hY.cells
  exact ⟨he, A0, A1, A2, A3, B0, B1, B2, B3, x0, x1, x2, x3, X0, X1, X2, X3, y0, y1, y2, y3, Y0, Y1, Y2, Y3, k⟩

set_option maxHeartbeats 3000000 in
set_option maxRecDepth 100000 in
theorem walk (w : World) (a0 : Option Addr) (cap0 : Nat) (l : List Pt) (s0 : SlP w a0 cap0 l) (hreach : cap0 * 16 ≤ 140737488351232) (wf : ∀ p ∈ l, (Lit.int .i64 p.1).wf = true ∧ (Lit.int .i64 p.2).wf = true) (a : Bk) (aA : Option Addr) (cA : Nat) (wa : a.Wf) (sA : Sl w aA cA (a.bits.map Value.bool)) (ra : cA ≤ 140737488351232) (b : Bk) (aB : Option Addr) (cB : Nat) (wb : b.Wf) (sB : Sl w aB cB (b.bits.map Value.bool)) (rb : cB ≤ 140737488351232) :
    Calls Try.prog 3 #[.slice a0 l.length cap0, bkV a aA cA, bkV b aB cB] w fun e w' => e = .returned (.bool true) ∧ Below w.heap.size w w' := by
  have la : a.bits.length ≤ 140737488351232 := by have := sA.le; rw [List.length_map] at this; omega
  have lb : b.bits.length ≤ 140737488351232 := by have := sB.le; rw [List.length_map] at this; omega
  clear wa wb wf hreach ra rb
  have lX := makeB_bits l
  have lY := mergeB_bits a b
  have lP := ptsL_length a
  have c1 := fun W h => make_any a0 cap0 l W h
  have c2 := fun W h => bpoints_any a aA cA W h (by omega)
  have c3 := fun W h k => merge_any a b aA aB cA cB W h k (by omega) (by omega)
  have c4 := fun W h => refMake_any a0 cap0 l W h
  have c5 := fun W h => refPoints_any a aA cA W h (by omega)
  have c6 := fun W h k => refMerge_any a b aA aB cA cB W h k (by omega) (by omega)
  have e1 := fun W h k => same_any a b aA aB cA cB W h k (by omega) (by omega)
  have la' : a.bits.length ≤ 140737488355328 := by omega
  have lb' : b.bits.length ≤ 140737488355328 := by omega
  have lX' : (makeB l).bits.length ≤ 140737488355328 := by omega
  have lY' : (mergeB a b).bits.length ≤ 140737488355328 := by omega
  have jX := sameB_self (makeB l)
  have jY := sameB_self (mergeB a b)
  have e2 := fun p q ao bo ca cb W (h : Ok W p ao ca) (k : Ok W q bo cb) => refSame_any p q ao bo ca cb W h.bits k.bits h.few k.few
  have e5 : ∀ ao bo ca cb W, SlP W ao ca (ptsL a) → SlP W bo cb (ptsL a) → Calls Try.prog 14 #[.slice ao (ptsL a).length ca, .slice bo (ptsL a).length cb] W fun e w' => e = .returned (.bool true) ∧ Below W.heap.size W w' := by
    intro ao bo ca cb W h k
    have t := equalPt ao bo ca cb (ptsL a) (ptsL a) W h k (by omega) (by omega)
    rw [decide_eq_true (rfl : ptsL a = ptsL a)] at t
    refine t.mono ?_
    rintro e w' ⟨he, q, rfl⟩
    exact ⟨he, belowDrewN (Below.refl _ _) q⟩
  clear lX lY lP la lb
  generalize makeB l = X at *
  generalize makeE l = xe at *
  generalize ptsL a = P at *
  generalize ptsE a = pe at *
  generalize mergeB a b = Y at *
  generalize mergeE a b = ye at *
  obtain ⟨n, hn⟩ : ∃ n, n = l.length := ⟨_, rfl⟩
  rw [← hn] at c1 c4 ⊢
  obtain ⟨m, hm⟩ : ∃ m, m = P.length := ⟨_, rfl⟩
  rw [← hm] at c2 c5 e5
  clear hn hm
  simp only [bkV] at *
  go_enter Try.func3, Try.ntmps3
  go_wp2_with fail
  have hA := (Held.laid a sA).alloc (.cells #[.int .i64 b.n, .int .i64 b.fr, .int .i64 b.to, .slice aB b.bits.length cB] 25)
  have hB := Held.laid b (sB.alloc (.cells #[.int .i64 a.n, .int .i64 a.fr, .int .i64 a.to, .slice aA a.bits.length cA] 25))
  have bel := below2 w (.cells #[.int .i64 a.n, .int .i64 a.fr, .int .i64 a.to, .slice aA a.bits.length cA] 25) (.cells #[.int .i64 b.n, .int .i64 b.fr, .int .i64 b.to, .slice aB b.bits.length cB] 25)
  have s0 := (s0.alloc (.cells #[.int .i64 a.n, .int .i64 a.fr, .int .i64 a.to, .slice aA a.bits.length cA] 25)).alloc (.cells #[.int .i64 b.n, .int .i64 b.fr, .int .i64 b.to, .slice aB b.bits.length cB] 25)
  rw [show (w.alloc (.cells #[.int .i64 a.n, .int .i64 a.fr, .int .i64 a.to, .slice aA a.bits.length cA] 25)).heap.size = w.heap.size + 1 by simp] at hB
  generalize hgA : w.heap.size = gA at hA hB ⊢
  generalize (w.alloc _).alloc _ = w1 at *
  clear sA sB hgA
  go_at_call 5
  refine (c1 _ s0).mono ?_
  rintro e w2 ⟨ax, cx, rfl, tx, bb⟩
  replace bel := belowCall bel bb
  replace s0 := s0.call bb
  replace hA := hA.call bb
  replace hB := hB.call bb
  clear bb
  obtain ⟨hAc0, hAc1, hAc2, hAc3⟩ := hA.cells
  have hAl := hA.blk.lt
  go_wp2_with fail
  have hx := Held.laid X tx
  replace bel := belowNew bel (.cells #[.int .i64 X.n, .int .i64 X.fr, .int .i64 X.to, .slice ax X.bits.length cx] 25)
  replace s0 := s0.alloc (.cells #[.int .i64 X.n, .int .i64 X.fr, .int .i64 X.to, .slice ax X.bits.length cx] 25)
  replace hA := hA.alloc (.cells #[.int .i64 X.n, .int .i64 X.fr, .int .i64 X.to, .slice ax X.bits.length cx] 25)
  replace hB := hB.alloc (.cells #[.int .i64 X.n, .int .i64 X.fr, .int .i64 X.to, .slice ax X.bits.length cx] 25)
  clear tx hAc0 hAc1 hAc2 hAc3 hAl
  generalize w2.heap.size = gx at *
  generalize w2.alloc _ = w3 at *
  go_at_call 6
  refine (c2 _ hA.bits).mono ?_
  rintro e w4 ⟨ap, cp, rfl, tp, bb⟩
  replace bel := belowCall bel bb
  replace s0 := s0.call bb
  replace hA := hA.call bb
  replace hB := hB.call bb
  replace hx := hx.call bb
  clear bb
  obtain ⟨hAc0, hAc1, hAc2, hAc3⟩ := hA.cells
  have hAl := hA.blk.lt
  obtain ⟨hBc0, hBc1, hBc2, hBc3⟩ := hB.cells
  have hBl := hB.blk.lt
  go_wp2_with fail
  clear hAc0 hAc1 hAc2 hAc3 hAl hBc0 hBc1 hBc2 hBc3 hBl
  go_at_call 7
  refine (c3 _ hA.bits hB.bits).mono ?_
  rintro e w5 ⟨ay, cy, rfl, ty, bb⟩
  replace bel := belowCall bel bb
  replace s0 := s0.call bb
  replace hA := hA.call bb
  replace hB := hB.call bb
  replace hx := hx.call bb
  replace tp := tp.call bb
  clear bb
  go_wp2_with fail
  have hy := Held.laid Y ty
  replace bel := belowNew bel (.cells #[.int .i64 Y.n, .int .i64 Y.fr, .int .i64 Y.to, .slice ay Y.bits.length cy] 25)
  replace s0 := s0.alloc (.cells #[.int .i64 Y.n, .int .i64 Y.fr, .int .i64 Y.to, .slice ay Y.bits.length cy] 25)
  replace hA := hA.alloc (.cells #[.int .i64 Y.n, .int .i64 Y.fr, .int .i64 Y.to, .slice ay Y.bits.length cy] 25)
  replace hB := hB.alloc (.cells #[.int .i64 Y.n, .int .i64 Y.fr, .int .i64 Y.to, .slice ay Y.bits.length cy] 25)
  replace hx := hx.alloc (.cells #[.int .i64 Y.n, .int .i64 Y.fr, .int .i64 Y.to, .slice ay Y.bits.length cy] 25)
  replace tp := tp.alloc (.cells #[.int .i64 Y.n, .int .i64 Y.fr, .int .i64 Y.to, .slice ay Y.bits.length cy] 25)
  clear ty 
  generalize w5.heap.size = gy at *
  generalize w5.alloc _ = w6 at *
  go_at_call 8
  refine (c4 _ s0).mono ?_
  rintro e w7 ⟨aX, cX, rfl, tX, bb⟩
  replace bel := belowCall bel bb
  replace s0 := s0.call bb
  replace hA := hA.call bb
  replace hB := hB.call bb
  replace hx := hx.call bb
  replace hy := hy.call bb
  replace tp := tp.call bb
  clear bb
  obtain ⟨hAc0, hAc1, hAc2, hAc3⟩ := hA.cells
  have hAl := hA.blk.lt
  go_wp2_with fail
  have hX := Held.laid X tX
  replace bel := belowNew bel (.cells #[.int .i64 X.n, .int .i64 X.fr, .int .i64 X.to, .slice aX X.bits.length cX] 25)
  replace s0 := s0.alloc (.cells #[.int .i64 X.n, .int .i64 X.fr, .int .i64 X.to, .slice aX X.bits.length cX] 25)
  replace hA := hA.alloc (.cells #[.int .i64 X.n, .int .i64 X.fr, .int .i64 X.to, .slice aX X.bits.length cX] 25)
  replace hB := hB.alloc (.cells #[.int .i64 X.n, .int .i64 X.fr, .int .i64 X.to, .slice aX X.bits.length cX] 25)
  replace hx := hx.alloc (.cells #[.int .i64 X.n, .int .i64 X.fr, .int .i64 X.to, .slice aX X.bits.length cX] 25)
  replace hy := hy.alloc (.cells #[.int .i64 X.n, .int .i64 X.fr, .int .i64 X.to, .slice aX X.bits.length cX] 25)
  replace tp := tp.alloc (.cells #[.int .i64 X.n, .int .i64 X.fr, .int .i64 X.to, .slice aX X.bits.length cX] 25)
  clear tX hAc0 hAc1 hAc2 hAc3 hAl
  generalize w7.heap.size = gX at *
  generalize w7.alloc _ = w8 at *
  go_at_call 9
  refine (c5 _ hA.bits).mono ?_
  rintro e w9 ⟨aP, cP, rfl, tP, bb⟩
  replace bel := belowCall bel bb
  replace s0 := s0.call bb
  replace hA := hA.call bb
  replace hB := hB.call bb
  replace hx := hx.call bb
  replace hy := hy.call bb
  replace hX := hX.call bb
  replace tp := tp.call bb
  clear bb
  obtain ⟨hAc0, hAc1, hAc2, hAc3⟩ := hA.cells
  have hAl := hA.blk.lt
  obtain ⟨hBc0, hBc1, hBc2, hBc3⟩ := hB.cells
  have hBl := hB.blk.lt
  go_wp2_with fail
  clear hAc0 hAc1 hAc2 hAc3 hAl hBc0 hBc1 hBc2 hBc3 hBl
  go_at_call 10
  refine (c6 _ hA.bits hB.bits).mono ?_
  rintro e w10 ⟨aY, cY, rfl, tY, bb⟩
  replace bel := belowCall bel bb
  replace s0 := s0.call bb
  replace hA := hA.call bb
  replace hB := hB.call bb
  replace hx := hx.call bb
  replace hy := hy.call bb
  replace hX := hX.call bb
  replace tp := tp.call bb
  replace tP := tP.call bb
  clear bb
  go_wp2_with fail
  have hY := Held.laid Y tY
  replace bel := belowNew bel (.cells #[.int .i64 Y.n, .int .i64 Y.fr, .int .i64 Y.to, .slice aY Y.bits.length cY] 25)
  replace s0 := s0.alloc (.cells #[.int .i64 Y.n, .int .i64 Y.fr, .int .i64 Y.to, .slice aY Y.bits.length cY] 25)
  replace hA := hA.alloc (.cells #[.int .i64 Y.n, .int .i64 Y.fr, .int .i64 Y.to, .slice aY Y.bits.length cY] 25)
  replace hB := hB.alloc (.cells #[.int .i64 Y.n, .int .i64 Y.fr, .int .i64 Y.to, .slice aY Y.bits.length cY] 25)
  replace hx := hx.alloc (.cells #[.int .i64 Y.n, .int .i64 Y.fr, .int .i64 Y.to, .slice aY Y.bits.length cY] 25)
  replace hy := hy.alloc (.cells #[.int .i64 Y.n, .int .i64 Y.fr, .int .i64 Y.to, .slice aY Y.bits.length cY] 25)
  replace hX := hX.alloc (.cells #[.int .i64 Y.n, .int .i64 Y.fr, .int .i64 Y.to, .slice aY Y.bits.length cY] 25)
  replace tp := tp.alloc (.cells #[.int .i64 Y.n, .int .i64 Y.fr, .int .i64 Y.to, .slice aY Y.bits.length cY] 25)
  replace tP := tP.alloc (.cells #[.int .i64 Y.n, .int .i64 Y.fr, .int .i64 Y.to, .slice aY Y.bits.length cY] 25)
  clear tY 
  generalize w10.heap.size = gY at *
  generalize w10.alloc _ = w11 at *
  have k1 : K w gA (gA + 1) gx gX gy gY aA aB ax aX ay aY ap aP cA cB cx cX cy cY cp cP a b X Y P w11.drew := ⟨hA.drewN 1, hB.drewN 1, hx.drewN 1, hX.drewN 1, hy.drewN 1, hY.drewN 1, tp.drewN 1, tP.drewN 1, la', lb', lX', lY', belowDrew bel⟩
  obtain ⟨A0, A1, A2, A3⟩ := hA.cells
  obtain ⟨B0, B1, B2, B3⟩ := hB.cells
  obtain ⟨x0, x1, x2, x3⟩ := hx.cells
  obtain ⟨X0, X1, X2, X3⟩ := hX.cells
  obtain ⟨y0, y1, y2, y3⟩ := hy.cells
  obtain ⟨Y0, Y1, Y2, Y3⟩ := hY.cells
  have d0 := fun W (h : K w gA (gA + 1) gx gX gy gY aA aB ax aX ay aY ap aP cA cB cx cX cy cY cp cP a b X Y P W) => K.over (blocked_any W) h
  have d1 := fun W (h : K w gA (gA + 1) gx gX gy gY aA aB ax aX ay aY ap aP cA cB cx cX cy cY cp cP a b X Y P W) => K.over (e1 W h.hA.bits h.hB.bits) h
  have d2 := fun p q ao bo ca cb W (h : K w gA (gA + 1) gx gX gy gY aA aB ax aX ay aY ap aP cA cB cx cX cy cY cp cP a b X Y P W) (h1 : Ok W p ao ca) (h2 : Ok W q bo cb) => K.over (e2 p q ao bo ca cb W h1 h2) h
  have d5 := fun W (h : K w gA (gA + 1) gx gX gy gY aA aB ax aX ay aY ap aP cA cB cx cX cy cY cp cP a b X Y P W) => K.over (e5 _ _ _ _ W h.sp h.sP) h
  clear la' lb' lX' lY' e1 e2 e5 c1 c2 c3 c4 c5 c6 hA hB hx hX hy hY tp tP s0 bel
  go_region_held3 (fun w' => w'.cell? ⟨gA, 0, none⟩ = some (.int .i64 a.n) ∧ w'.cell? ⟨gA, 1, none⟩ = some (.int .i64 a.fr) ∧ w'.cell? ⟨gA, 2, none⟩ = some (.int .i64 a.to) ∧ w'.cell? ⟨gA, 3, none⟩ = some (.slice aA a.bits.length cA) ∧ w'.cell? ⟨gA + 1, 0, none⟩ = some (.int .i64 b.n) ∧ w'.cell? ⟨gA + 1, 1, none⟩ = some (.int .i64 b.fr) ∧ w'.cell? ⟨gA + 1, 2, none⟩ = some (.int .i64 b.to) ∧ w'.cell? ⟨gA + 1, 3, none⟩ = some (.slice aB b.bits.length cB) ∧ w'.cell? ⟨gx, 0, none⟩ = some (.int .i64 X.n) ∧ w'.cell? ⟨gx, 1, none⟩ = some (.int .i64 X.fr) ∧ w'.cell? ⟨gx, 2, none⟩ = some (.int .i64 X.to) ∧ w'.cell? ⟨gx, 3, none⟩ = some (.slice ax X.bits.length cx) ∧ w'.cell? ⟨gX, 0, none⟩ = some (.int .i64 X.n) ∧ w'.cell? ⟨gX, 1, none⟩ = some (.int .i64 X.fr) ∧ w'.cell? ⟨gX, 2, none⟩ = some (.int .i64 X.to) ∧ w'.cell? ⟨gX, 3, none⟩ = some (.slice aX X.bits.length cX) ∧ w'.cell? ⟨gy, 0, none⟩ = some (.int .i64 Y.n) ∧ w'.cell? ⟨gy, 1, none⟩ = some (.int .i64 Y.fr) ∧ w'.cell? ⟨gy, 2, none⟩ = some (.int .i64 Y.to) ∧ w'.cell? ⟨gy, 3, none⟩ = some (.slice ay Y.bits.length cy) ∧ w'.cell? ⟨gY, 0, none⟩ = some (.int .i64 Y.n) ∧ w'.cell? ⟨gY, 1, none⟩ = some (.int .i64 Y.fr) ∧ w'.cell? ⟨gY, 2, none⟩ = some (.int .i64 Y.to) ∧ w'.cell? ⟨gY, 3, none⟩ = some (.slice aY Y.bits.length cY) ∧ K w gA (gA + 1) gx gX gy gY aA aB ax aX ay aY ap aP cA cB cx cX cy cY cp cP a b X Y P w') (go_keep)
    (first
      | (go_at_call 11; refine (d0 _ ?_).mono ?_; (simp [*]); rintro e w' ⟨rfl, z0, z1, z2, z3, z4, z5, z6, z7, z8, z9, z10, z11, z12, z13, z14, z15, z16, z17, z18, z19, z20, z21, z22, z23, z24⟩)
      | (go_at_call 12; refine (d1 _ ?_).mono ?_; (simp [*]); rintro e w' ⟨rfl, z0, z1, z2, z3, z4, z5, z6, z7, z8, z9, z10, z11, z12, z13, z14, z15, z16, z17, z18, z19, z20, z21, z22, z23, z24⟩)
      | (go_at_call 13; refine (d2 _ _ _ _ _ _ _ ?_ ?_ ?_).mono ?_; (simp [*]); (first | exact K.okA (by assumption) | exact K.okx (by assumption) | exact K.oky (by assumption)); (first | exact K.okB (by assumption) | exact K.okX (by assumption) | exact K.okY (by assumption)); (try simp only [jX, jY]); rintro e w' ⟨rfl, z0, z1, z2, z3, z4, z5, z6, z7, z8, z9, z10, z11, z12, z13, z14, z15, z16, z17, z18, z19, z20, z21, z22, z23, z24⟩)
      | (go_at_call 14; refine (d5 _ ?_).mono ?_; (simp [*]); rintro e w' ⟨rfl, z0, z1, z2, z3, z4, z5, z6, z7, z8, z9, z10, z11, z12, z13, z14, z15, z16, z17, z18, z19, z20, z21, z22, z23, z24⟩))
  all_goals go_wp2_with fail
  all_goals go_ret
  all_goals exact ⟨by simp, K.bel (by assumption)⟩

set_option maxRecDepth 100000 in
theorem lifted (os : Os) (started : os.Started) (H : Type) (enc : TypeId × Value → H) :
    ReturnsInHanded {} Try.checked os 3 .any (Rows.blockSaysSpec.pre6 enc Try.prog Try.f3 Rows.blockSaysRow.domain false) (Rows.blockSaysSpec.post enc Try.prog Try.f3 false true false false) := by
  refine returnsInHanded_of_change_sized (C := Try.checked) own started (by kernel_rfl) Try.func3
    (ChangeSpec.witness6 (enc := enc) (C := Try.checked) false ⟨#[], #[.slice none 0 0, .agg #[.int .i64 0, .int .i64 0, .int .i64 0, .slice none 0 0], .agg #[.int .i64 0, .int .i64 0, .int .i64 0, .slice none 0 0]], []⟩ 8 (by kernel_rfl) (by kernel_rfl) (by kernel_rfl) (by kernel_rfl)) ?_
  intro W base args ds gs before hval0 hW hcnd hsz0 _
  have hsz : (DataW.weightsEach Try.prog (Try.f3.params.toList ++ Rows.blockSaysSpec.plain.varTypes Try.prog) (ds ++ gs)).all (· ≤ reachBytes) = true := hsz0
  have hval : ∀ (j : Nat) t v, Try.f3.params[j]? = some t → args[j]? = some v → Value.okWide Try.prog W .any base t v := hval0
  have hW' := hW
  obtain ⟨p, q, hA0, hV, rfl, hfz, hnd⟩ := hW
  have hA : DataW.TrodAll enc Try.prog W 0 (fun _ => true) true Try.f3.params.toList args.toList ds p := hA0
  rw [Try.params3] at hA hval hsz
  obtain ⟨v0, vs0, d0, ds0, p0, q0, hargs, rfl, rfl, h0, r0⟩ := trodAll_cons hA
  obtain ⟨v1, vs1, d1, ds1, p1, q1, rfl, rfl, rfl, h1, r1⟩ := trodAll_cons r0
  obtain ⟨v2, vs2, d2, ds2, p2, q2, rfl, rfl, rfl, h2, r2⟩ := trodAll_cons r1
  obtain ⟨rfl, rfl, rfl⟩ := trodAll_nil r2
  obtain rfl : args = #[v0, v1, v2] := by cases args; simp_all
  obtain ⟨rfl, rfl⟩ := trodVars_none hV
  obtain ⟨a0, len0, cap0, rfl⟩ := okWide_slice Try.underlying22 (hval 0 22 v0 rfl rfl)
  have k0 := h0
  have lt0 : ∀ x ∈ p0, x.block < W.heap.size := by obtain ⟨m, hm⟩ := k0; exact DataW.trod_lt m _ _ _ hm
  obtain ⟨l0, rfl, s0, wf0, dd0⟩ := open_points Try.underlying22 Try.underlying36 (by kernel_rfl) rfl rfl (by kernel_rfl) (by kernel_rfl) Try.underlying3 Try.underlying3 h0
  have reach0 := reach_of (j := 0) (bytes := 16) hsz rfl rfl Try.underlying22 (by kernel_rfl) dd0
  have k1 := h1
  have lt1 : ∀ x ∈ p1, x.block < W.heap.size := by obtain ⟨m, hm⟩ := k1; exact DataW.trod_lt m _ _ _ hm
  obtain ⟨x1, a1, cap1, wx1, rfl, s1, dd1⟩ := open_block (hval 1 25 v1 rfl rfl) h1
  have reach1 := reach_block (j := 1) hsz rfl rfl dd1
  have k2 := h2
  have lt2 : ∀ x ∈ p2, x.block < W.heap.size := by obtain ⟨m, hm⟩ := k2; exact DataW.trod_lt m _ _ _ hm
  obtain ⟨x2, a2, cap2, wx2, rfl, s2, dd2⟩ := open_block (hval 2 25 v2 rfl rfl) h2
  have reach2 := reach_block (j := 2) hsz rfl rfl dd2
  clear hA0 hval0 hsz0
  refine (walk W a0 cap0 l0 s0 reach0 wf0 x1 a1 cap1 wx1 s1 reach1 x2 a2 cap2 wx2 s2 reach2).mono fun e W' ⟨he, bel⟩ => ?_
  subst he
  exact ⟨_, rfl, _, _, _, [], _, [], hW', trodAll_mk1 (shut_bool Try.underlying4 _), (trodAll_cons_mk (Below.trod laidOut (by kernel_rfl) (of_decide_eq_true (by kernel_rfl)) k0 bel lt0) (trodAll_cons_mk (Below.trod laidOut (by kernel_rfl) (of_decide_eq_true (by kernel_rfl)) k1 bel lt1) (trodAll_cons_mk (Below.trod laidOut (by kernel_rfl) (of_decide_eq_true (by kernel_rfl)) k2 bel lt2) trodAll_mk0))), rfl, bel.frame _, fun h => by cases h⟩

theorem over : Rows.blockSaysRow.holds Try.pinned (OpenSpec.ofChange Rows.blockSaysSpec) :=
  OpenClaim.holds_of_wide 3 Try.f3 rfl rfl rfl rfl rfl rfl rfl ⟨rfl, rfl, rfl, rfl, rfl⟩ rfl rfl rfl rfl rfl (by kernel_rfl) Try.func3 (by kernel_rfl)
    (of_decide_eq_true (by kernel_rfl)) (by unfold Func.isWrapper; first | (rw [if_pos (by decide +kernel)]; kernel_rfl) | (rw [if_neg (by decide +kernel)]; exact ⟨rfl, rfl⟩))
    (fun os started H enc _ => lifted os started H enc)
end Go.Proofs.Ytpeeeealbfmklac.blockSays

namespace Go.Proofs.Ytpeeeealbfmklac
theorem blockSays_holds : Rows.BlockSaysSaid := blockSays.over
#print axioms blockSays_holds
end Go.Proofs.Ytpeeeealbfmklac
