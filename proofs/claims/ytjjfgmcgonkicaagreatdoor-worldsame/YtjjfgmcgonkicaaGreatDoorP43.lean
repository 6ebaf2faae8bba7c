/-
  How an argument that is a slice of records is opened: each with its entries.
-/
import Derived.Test.YtjjfgmcgonkicaaGreatDoorRows
import Derived.Test.YtjjfgmcgonkicaaGreatDoorCards
import Derived.Test.YtjjfgmcgonkicaaGreatDoorTie
import Derived.ProofKit
import Derived.ChangeMaps5
import Derived.LaidMore
import Derived.Stop.Joined
import Derived.SevenTiedAt
import Derived.Test.YtjjfgmcgonkicaaGreatDoorP07
import Derived.Test.YtjjfgmcgonkicaaGreatDoorP10
import Derived.Test.YtjjfgmcgonkicaaGreatDoorP39
import Derived.Test.YtjjfgmcgonkicaaGreatDoorP01
import Derived.Test.YtjjfgmcgonkicaaGreatDoorP40
import Derived.Test.YtjjfgmcgonkicaaGreatDoorP29
import Derived.Test.YtjjfgmcgonkicaaGreatDoorP41
import Derived.Test.YtjjfgmcgonkicaaGreatDoorP13
import Derived.Test.YtjjfgmcgonkicaaGreatDoorP35
namespace Go.Proofs.YtjjfgmcgonkicaaGreatDoor
open Go.RowKit Go.ChangeShapes Go.WideShapes Go.ChangeAt Go.Joins

theorem four_of {α : Type} {l : List α} (h : l.length = 4) : ∃ a b c d, l = [a, b, c, d] := by
  match l, h with
  | [a, b, c, d], _ => exact ⟨a, b, c, d, rfl⟩

set_option maxRecDepth 100000 in
theorem cellsEs : Tryz.prog.cellsOf 31 = 1 := by kernel_rfl

end Go.Proofs.YtjjfgmcgonkicaaGreatDoor

/-
  How an argument that is a happening, by value, or a slice of such is opened: it has the cells of a record.
-/
namespace Go.Proofs.YtjjfgmcgonkicaaGreatDoor
open Go.RowKit Go.ChangeShapes Go.WideShapes Go.ChangeAt Go.Joins

set_option maxRecDepth 100000 in
theorem cellsHap : Tryz.prog.cellsOf 33 = 4 := by kernel_rfl

set_option maxRecDepth 100000 in
theorem open_hap {H : Type} {enc : TypeId × Value → H} {W : World} {r : Reach} {b0 : Nat} {v : Value} {d : DataW H} {p : List MemPlace} (hv : Value.okWide Tryz.prog W r b0 33 v)
    (h : DataW.Trod enc Tryz.prog W 0 (fun _ => true) true 33 v d p) (hw : Light 33 d) :
    ∃ (q : Hp) (ao : Option Addr) (cap : Nat), v = .agg #[.int .i64 q.k, .int .i64 q.s, .int .i64 q.n, .slice ao q.e.length cap] ∧ SlW ec W ao cap q.e := by
  obtain ⟨c0, c1, c2, c3, y0, y1, y2, y3, m, rfl, rfl, rfl, h0, h1, h2, h3⟩ := open_agg4 Tryz.underlying33 (by kernel_rfl) cellsHap hv h
  obtain ⟨a0, e0, rfl, w0⟩ := DataW.trod_int Tryz.underlying3 h0
  obtain ⟨a1, e1, rfl, w1⟩ := DataW.trod_int Tryz.underlying3 h1
  obtain ⟨a2, e2, rfl, w2⟩ := DataW.trod_int Tryz.underlying3 h2
  obtain ⟨ao, n, cap, e3⟩ := slice_form Tryz.underlying31 h3
  simp at e0 e1 e2 e3
  subst e0 e1 e2 e3
  have hw3 : Light 31 y3.1 := by
    intro n hn
    refine hw n ?_
    simp [DataW.weights, DataW.weightsEach, Tryz.underlying33, hn]
  obtain ⟨l, hl, s, _, _⟩ := open_wide (ao := ao) (n := n) (cap := cap) ec (fun _ => True) Tryz.underlying31 (by kernel_rfl) (by decide) ec_three (fun cs x m => open_nt cs x m) (by simpa [Value.cells] using h3) hw3
  subst hl
  exact ⟨⟨a0, a1, a2, l⟩, ao, cap, rfl, s⟩

set_option maxRecDepth 100000 in
theorem open_lrh {H : Type} {enc : TypeId × Value → H} {W : World} (cs : List Value) (x : DataW H × List MemPlace) (m : Nat) (hl : cs.length = 4) (h : DataW.trod enc Tryz.prog W 0 (fun _ => true) true m 33 cs = some x) (hw : Light 33 x.1) :
    ∃ y : Lrc, cs = y.cells ∧ SlW ec W y.a y.c y.r.e := by
  obtain ⟨c0, c1, c2, c3, rfl⟩ := four_of hl
  obtain ⟨y0, y1, y2, y3, n, rfl, _, h0, h1, h2, h3⟩ := trod_struct4 Tryz.underlying33 h
  simp only [cellsInt, cellsEs, List.drop_zero, List.drop_succ_cons, List.take_succ_cons, List.take_zero] at h0 h1 h2 h3
  obtain ⟨a0, e0, rfl, w0⟩ := DataW.trod_int Tryz.underlying3 h0
  obtain ⟨a1, e1, rfl, w1⟩ := DataW.trod_int Tryz.underlying3 h1
  obtain ⟨a2, e2, rfl, w2⟩ := DataW.trod_int Tryz.underlying3 h2
  obtain ⟨ao, k, cap, e3⟩ := slice_form Tryz.underlying31 h3
  simp at e0 e1 e2 e3
  subst e0 e1 e2 e3
  have hw3 : Light 31 y3.1 := by
    intro n hn
    refine hw n ?_
    simp [DataW.weights, DataW.weightsEach, Tryz.underlying33, hn]
  obtain ⟨l, hl, s, _, _⟩ := open_wide (ao := ao) (n := k) (cap := cap) ec (fun _ => True) Tryz.underlying31 (by kernel_rfl) (by decide) ec_three (fun cs x m => open_nt cs x m) (by simpa [Value.cells] using h3) hw3
  subst hl
  exact ⟨⟨⟨a0, a1, a2, l⟩, ao, cap⟩, rfl, s⟩

set_option maxRecDepth 100000 in
theorem open_haps {H : Type} {enc : TypeId × Value → H} {W : World} {ao : Option Addr} {n cap : Nat} {d : DataW H} {ps : List MemPlace}
    (h : DataW.Trod enc Tryz.prog W 0 (fun _ => true) true 68 (.slice ao n cap) d ps) (hw : Light 68 d) :
    ∃ l : List Lrc, l.length = n ∧ SlRec W ao cap l ∧ cap * 48 ≤ 140737488351232 := by
  obtain ⟨fuel, hf⟩ := h
  obtain ⟨l, hl, s, g, r⟩ := open_wide (ao := ao) (n := n) (cap := cap) Lrc.cells (fun y => SlW ec W y.a y.c y.r.e) Tryz.underlying68 cellsHap (by decide) Lrc.four (fun cs x m => open_lrh cs x m) (by simpa [Value.cells] using hf) hw
  rw [show Tryz.prog.bytesOf 33 = 48 by kernel_rfl] at r
  exact ⟨l, hl, ⟨s, g⟩, r⟩

set_option maxRecDepth 100000 in
theorem open_nts {H : Type} {enc : TypeId × Value → H} {W : World} {ao : Option Addr} {n cap : Nat} {d : DataW H} {ps : List MemPlace}
    (h : DataW.Trod enc Tryz.prog W 0 (fun _ => true) true 31 (.slice ao n cap) d ps) (hw : Light 31 d) :
    ∃ l : List Nt, l.length = n ∧ SlW ec W ao cap l ∧ True := by
  obtain ⟨fuel, hf⟩ := h
  obtain ⟨l, hl, s, _, _⟩ := open_wide (ao := ao) (n := n) (cap := cap) ec (fun _ => True) Tryz.underlying31 (by kernel_rfl) (by decide) ec_three (fun cs x m => open_nt cs x m) (by simpa [Value.cells] using hf) hw
  exact ⟨l, hl, s, trivial⟩

end Go.Proofs.YtjjfgmcgonkicaaGreatDoor

/-
  'at' of the laws: a number brought within bounds; it touches no memory.
-/
namespace Go.Proofs.YtjjfgmcgonkicaaGreatDoor
open Go.RowKit

/-- 'at': a number brought within bounds. -/
theorem at_any (k n : Int) (w : World) (hn : 1 ≤ n) (hn2 : n ≤ 1152921504606846976) :
    Calls Tryz.prog 30 #[.int .i64 k, .int .i64 n] w fun e w' => e = .returned (.int .i64 (k % n)) ∧ w = w' := by
  go_enter Tryz.func30, Tryz.ntmps30
  go_wp2
  · have h : k.tmod n < 0 := by assumption
    go_ret
    have e := tmod_up' hn h
    have b1 := Int.emod_nonneg k (show n ≠ 0 by omega)
    have b2 := Int.emod_lt_of_pos k (show 0 < n by omega)
    exact ⟨ret_int (by rw [e]; unfold wrap64; omega), rfl⟩
  · have h : 0 ≤ k.tmod n := by assumption
    go_ret
    exact ⟨ret_int (tmod_up hn h), rfl⟩

end Go.Proofs.YtjjfgmcgonkicaaGreatDoor

/-
  What the walks over worlds share: Do of a right world, whether two shelves and two disks are alike.
-/
namespace Go.Proofs.YtjjfgmcgonkicaaGreatDoor
open Go.RowKit
open Go.Lib (byteCells)

theorem k_shelf {C D : List Rw} {a b : Option Addr} {n m G H : Nat} {V : World} (k : IsS V a G C) (h : IsS V b H D) (e1 : n = C.length) (e2 : m = D.length) (few : n ≤ 140737488355328) :
    Calls Tryz.prog 26 #[.agg #[.slice a n G], .agg #[.slice b m H]] V fun e w' => e = .returned (.bool (sameSh C D)) ∧ Below V.heap.size V w' := by
  subst e1 e2
  exact shSame_is k h few

theorem k_disk {X Y : Dk} {a1 a2 b1 b2 : Option Addr} {n1 c1 n2 c2 m1 k1 m2 k2 : Nat} {V : World} (s1 : Sl V a1 c1 (byteCells X.safe)) (s2 : Sl V a2 c2 (byteCells X.wait)) (t1 : Sl V b1 k1 (byteCells Y.safe)) (t2 : Sl V b2 k2 (byteCells Y.wait)) (h1 : n1 = X.safe.length) (h2 : n2 = X.wait.length) (h3 : m1 = Y.safe.length) (h4 : m2 = Y.wait.length) :
    Calls Tryz.prog 27 #[.agg #[.slice a1 n1 c1, .slice a2 n2 c2], .agg #[.slice b1 m1 k1, .slice b2 m2 k2]] V fun e w' => e = .returned (.bool (decide (X.safe = Y.safe ∧ X.wait = Y.wait))) ∧ Below V.heap.size V w' :=
  dsame_any X Y a1 a2 b1 b2 c1 c2 k1 k2 n1 n2 m1 m2 V s1 s2 t1 t2 h1 h2 h3 h4

/-- world.Do, the happening's parts one by one. -/
theorem k_do {x : Wd} {p : Pw} (k s n : Int) (L : List Nt) {ea : Option Addr} {en eC : Nat} {V : World} (few : p.n1 + p.n2 ≤ 9223372036854775807) (fewS : p.sn ≤ 140737488355328) (h3 : en = L.length) (gl : Gl V) (I : IsW V p x) (s3 : SlW ec V ea eC L) :
    Calls Tryz.prog 11 #[p.val x.up, .agg #[.int .i64 k, .int .i64 s, .int .i64 n, .slice ea en eC]] V (AnsW V (doW x ⟨k, s, n, L⟩) (doE x ⟨k, s, n, L⟩)) :=
  do_any x ⟨k, s, n, L⟩ p ea en eC V gl I few fewS s3 (hide h3)

theorem k_right {x : Wd} {p : Pw} (k s n : Int) (L : List Nt) {ea : Option Addr} {en eC : Nat} {V : World} (h : wdE x = 0) (h3 : en = L.length) (gl : Gl V) (I : IsW V p x) (s3 : SlW ec V ea eC L) :
    Calls Tryz.prog 11 #[p.val x.up, .agg #[.int .i64 k, .int .i64 s, .int .i64 n, .slice ea en eC]] V (AnsW V (hapW x ⟨k, s, n, L⟩) (hapE x ⟨k, s, n, L⟩)) :=
  do_ok x ⟨k, s, n, L⟩ p ea en eC V gl I h s3 (hide h3)

theorem k_none {x : Wd} {p : Pw} (k n : Int) {V : World} (h : wdE x = 0) (gl : Gl V) (I : IsW V p x) :
    Calls Tryz.prog 11 #[p.val x.up, .agg #[.int .i64 k, .int .i64 0, .int .i64 n, .slice none 0 0]] V (AnsW V (hapW x ⟨k, 0, n, []⟩) (hapE x ⟨k, 0, n, []⟩)) :=
  do_ok x ⟨k, 0, n, []⟩ p none 0 0 V gl I h (SlW.ofNil ec V) (hide rfl)

theorem do_zero {x : Wd} {y : Hp} (h : doE x y = 0) : wdE x = 0 ∧ hapE x y = 0 ∧ doW x y = hapW x y := by
  unfold doE at h
  unfold doW
  by_cases hz : wdE x = 0
  · rw [if_neg (by simp [hz])] at h
    exact ⟨hz, h, if_neg (by simp [hz])⟩
  · rw [if_pos hz] at h
    exact absurd h hz

theorem slP_own {w : World} {base n : Nat} {a : Option Addr} {G : Nat} {l : List Pt} (o : w.ownsRow base 56 2 (.slice a n G) n (cellsP l)) : SlP w a G l := by
  obtain ⟨a3, G3, e3, s3, _, _⟩ := SlP.ofOwn o
  simp only [Value.slice.injEq, true_and] at e3
  obtain ⟨rfl, rfl⟩ := e3
  exact s3

/-- query.Range and shelf.All of a right shelf, world.Read: the points that are answered. -/
theorem k_range {C : List Rw} {a : Option Addr} {cn G : Nat} {V : World} {L : List Pt} (s f t : Int) (hL : rngL (allL C s) f t = L) (hE : allE C s = 0) (h : IsS V a G C) (hcn : cn = C.length) :
    Calls Tryz.prog 31 #[.agg #[.slice a cn G], .int .i64 s, .int .i64 f, .int .i64 t] V fun e w' => ∃ a' n G', e = .returned (.tuple #[.slice a' n G', .int .i64 0]) ∧ Hid (n = L.length) ∧ SlP w' a' G' L ∧ Below V.heap.size V w' := by
  subst hL
  refine (range_is s f t h hcn).mono ?_
  rintro e w' ⟨a', G', rfl, o, b⟩
  exact ⟨a', _, G', by rw [hE], hide rfl, slP_own o, b⟩

theorem k_all {C : List Rw} {a : Option Addr} {cn G : Nat} {V : World} {L : List Pt} (s : Int) (hL : allL C s = L) (hE : allE C s = 0) (h : IsS V a G C) (hcn : cn = C.length) :
    Calls Tryz.prog 35 #[.agg #[.slice a cn G], .int .i64 s] V fun e w' => ∃ a' n G', e = .returned (.tuple #[.slice a' n G', .int .i64 0]) ∧ Hid (n = L.length) ∧ SlP w' a' G' L ∧ Below V.heap.size V w' := by
  subst hL hcn
  refine (all_is s h).mono ?_
  rintro e w' ⟨a', G', rfl, o, b⟩
  exact ⟨a', _, G', by rw [hE], hide rfl, slP_own o, b⟩

theorem k_read {x : Wd} {p : Pw} {V : World} {L : List Pt} {E : Int} (r s f t : Int) (hL : readL x r s f t = L) (hE : readE x r s = E) (few : p.n1 + p.n2 ≤ 9223372036854775807) (fewS : p.sn ≤ 140737488355328) (gl : Gl V) (I : IsW V p x) :
    Calls Tryz.prog 20 #[p.val x.up, .int .i64 r, .int .i64 s, .int .i64 f, .int .i64 t] V fun e w' => ∃ a' n G', e = .returned (.tuple #[.slice a' n G', .int .i64 E]) ∧ Hid (n = L.length) ∧ SlP w' a' G' L ∧ Below V.heap.size V w' := by
  subst hL hE
  refine (read_any' x p r s f t V gl I few fewS).mono ?_
  rintro e w' ⟨a', n, G', rfl, hn, o, b⟩
  exact ⟨a', _, G', rfl, hn, slP_own o, b⟩

theorem k_eqP {a1 a2 : Option Addr} {c1 c2 n m : Nat} {l : List Pt} {w : World} (hl : l.length ≤ 4611686018427387904) (r1 : SlP w a1 c1 l) (r2 : SlP w a2 c2 l) (hn : Hid (n = l.length)) (hm : Hid (m = l.length)) :
    Calls Tryz.prog 24 #[.slice a1 n c1, .slice a2 m c2] w fun e w' => e = .returned (.bool true) ∧ Below w.heap.size w w' := by
  obtain rfl := hn.out
  obtain rfl := hm.out
  refine (equalPt a1 a2 c1 c2 l l w r1 r2 hl hl).mono ?_
  rintro e w' ⟨rfl, q, rfl⟩
  exact ⟨by simp, belowDrewN (Below.refl _ _) q⟩

theorem k_at {k : Int} (n : Nat) (h0 : 0 < n) (hn : n ≤ 1000) : ∃ m : Nat, m < n ∧ ∀ V, Calls Tryz.prog 30 #[.int .i64 k, .int .i64 (n : Int)] V fun e w' => e = .returned (.int .i64 (m : Int)) ∧ V = w' := by
  have h1 := Int.emod_nonneg k (show (n : Int) ≠ 0 by omega)
  have h2 := Int.emod_lt_of_pos k (show 0 < (n : Int) by omega)
  refine ⟨(k % (n : Int)).toNat, by omega, fun V => ?_⟩
  rw [Int.toNat_of_nonneg h1]
  exact at_any k n V (by omega) (by omega)

theorem k_readR {x : Wd} {p : Pw} {V : World} {L : List Pt} {E : Int} (r s f t : Int) (h : wdE x = 0) (hL : readL x r s f t = L) (hE : readE x r s = E) (gl : Gl V) (I : IsW V p x) :
    Calls Tryz.prog 20 #[p.val x.up, .int .i64 r, .int .i64 s, .int .i64 f, .int .i64 t] V fun e w' => ∃ a' n G', e = .returned (.tuple #[.slice a' n G', .int .i64 E]) ∧ Hid (n = L.length) ∧ SlP w' a' G' L ∧ Below V.heap.size V w' :=
  k_read r s f t hL hE (Nat.le_trans (few_right I h).1 (by decide)) (by rw [(few_right I h).2.1]; decide) gl I

theorem slP_off {w w' : World} {a : Option Addr} {cap g : Nat} {l : List Pt} {ds : List Value} {t : TypeId} (S : SlP w a cap l) (B : Blk w g ds t) (hk : ∀ n, Value.int .i64 n ∉ ds) (hg : w.grownBy w' (some g)) : SlP w' a cap l := by
  cases l with
  | nil => exact ⟨.inl rfl, S.le, S.max, S.nil⟩
  | cons b r => exact ⟨S.row.off hg (S.row.offKind B (i := 0) (v := .int .i64 b.1) rfl (hk _)), S.le, S.max, S.nil⟩

end Go.Proofs.YtjjfgmcgonkicaaGreatDoor

/-
  The walk of WorldTorn.
-/
namespace Go.Proofs.YtjjfgmcgonkicaaGreatDoor
open Go.RowKit
open Go.Lib (byteCells)

set_option maxHeartbeats 8000000 in
set_option maxRecDepth 100000 in
theorem torn_walk (W : World) (hg : Gl W) (x : Wd) (p : Pw) (I : IsW W p x) (few : p.n1 + p.n2 ≤ 9223372036854775807) (fewS : p.sn ≤ 140737488355328) (_ : p.rn ≤ 140737488355328) (l : List Nt) (la : Option Addr) (lc ln : Nat) (S : SlW ec W la lc l) (hl : ln = l.length) (n : Int) (_ : (Lit.int .i64 n).wf = true) :
    Calls Tryz.prog 6 #[p.val x.up, .slice la ln lc, .int .i64 n] W fun e w' => e = .returned (.bool true) ∧ Below W.heap.size W w' := by
  have c1 := fun V g i s => k_do (x := x) (p := p) (V := V) (ea := la) (eC := lc) 9 0 n l few fewS hl g i s
  obtain ⟨E, hE⟩ : ∃ E, E = doE x ⟨9, 0, n, l⟩ := ⟨_, rfl⟩
  obtain ⟨X1, hX⟩ : ∃ X1, X1 = doW x ⟨9, 0, n, l⟩ := ⟨_, rfl⟩
  rw [← hE, ← hX] at c1
  by_cases hz : E = 0
  · subst hz
    have hz : doE x ⟨9, 0, n, l⟩ = 0 := hE.symm
    obtain ⟨hx, hh, hw⟩ := do_zero hz
    have hT := torn_whole (x := ⟨9, 0, n, l⟩) (y := ⟨8, 0, 0, []⟩) (z := ⟨1, 0, 0, l⟩) hx rfl hh rfl rfl rfl
    have hX1 := hap_right hx hh
    rw [← hw, ← hX] at hT hX1
    have c2 := fun q V g i => k_none (x := X1) (p := q) (V := V) 8 0 hX1 g i
    have c3 := fun V g i s => k_right (x := x) (p := p) (V := V) (ea := la) (eC := lc) 1 0 0 l hx hl g i s
    rw [hT.1] at c2
    have hYr := right_shelf (hap_right hX1 hT.1)
    obtain ⟨Y, hY⟩ : ∃ Y, Y = hapW X1 ⟨8, 0, 0, []⟩ := ⟨_, rfl⟩
    obtain ⟨Z, hZ⟩ : ∃ Z, Z = hapW x ⟨1, 0, 0, l⟩ := ⟨_, rfl⟩
    obtain ⟨F, hF⟩ : ∃ F, F = hapE x ⟨1, 0, 0, l⟩ := ⟨_, rfl⟩
    rw [← hY] at c2 hT hYr
    rw [← hZ, ← hF] at c3 hT
    replace hT := hT.2
    have hYl : Y.c.length ≤ 140737488355328 := by rw [right_len hYr]; decide
    have cS1 := fun a b n m G H V (k : IsS V a G Y.c) (h : IsS V b H x.c) (e1 : n = Y.c.length) (e2 : m = x.c.length) => k_shelf k h e1 e2 (by omega)
    have cS2 := fun a b n m G H V (k : IsS V a G Y.c) (h : IsS V b H Z.c) (e1 : n = Y.c.length) (e2 : m = Z.c.length) => k_shelf k h e1 e2 (by omega)
    have cD1 := fun a1 a2 b1 b2 n1 c1 n2 c2 m1 k1 m2 k2 V s1 s2 t1 t2 h1 h2 h3 h4 => k_disk (X := Y.d) (Y := x.d) (a1 := a1) (a2 := a2) (b1 := b1) (b2 := b2) (n1 := n1) (c1 := c1) (n2 := n2) (c2 := c2) (m1 := m1) (k1 := k1) (m2 := m2) (k2 := k2) (V := V) s1 s2 t1 t2 h1 h2 h3 h4
    have cD2 := fun a1 a2 b1 b2 n1 c1 n2 c2 m1 k1 m2 k2 V s1 s2 t1 t2 h1 h2 h3 h4 => k_disk (X := Y.d) (Y := Z.d) (a1 := a1) (a2 := a2) (b1 := b1) (b2 := b2) (n1 := n1) (c1 := c1) (n2 := n2) (c2 := c2) (m1 := m1) (k1 := k1) (m2 := m2) (k2 := k2) (V := V) s1 s2 t1 t2 h1 h2 h3 h4
    clear hY hZ hF hx hh hw hX1 hYr hE hX few fewS hYl hz
    by_cases hA : Y.c = x.c ∧ Y.d = x.d
    · have q1 : sameSh Y.c x.c = true := by rw [hA.1]; exact sameSh_self _
      have q2 : decide (Y.d.safe = x.d.safe ∧ Y.d.wait = x.d.wait) = true := by rw [hA.2]; simp
      rw [q1] at cS1
      rw [q2] at cD1
      clear hT hA q1 q2 cS2 cD2
      clear hl
      obtain ⟨C, D, U, R⟩ := x
      obtain ⟨sa, sn, sG, a1, n1, c1', a2, n2, c2', ra, rn, rc⟩ := p
      simp only [Pw.val] at *
      have BX := Blk.laid W [.slice sa sn sG, .slice a1 n1 c1', .slice a2 n2 c2', .bool U, .slice ra rn rc] 30 _ rfl
      have bel := newB (Below.refl W.heap.size W) (.cells #[.slice sa sn sG, .slice a1 n1 c1', .slice a2 n2 c2', .bool U, .slice ra rn rc] 30)
      replace I := I.alloc (.cells #[.slice sa sn sG, .slice a1 n1 c1', .slice a2 n2 c2', .bool U, .slice ra rn rc] 30)
      replace S := S.call (newB (Below.refl W.heap.size W) (.cells #[.slice sa sn sG, .slice a1 n1 c1', .slice a2 n2 c2', .bool U, .slice ra rn rc] 30))
      go_enter Tryz.func6, Tryz.ntmps6
      go_upto_region 1 with fail
      generalize World.alloc W _ = w1 at *
      have x0 := BX.cell 0
      have x1 := BX.cell 1
      have x2 := BX.cell 2
      have x3 := BX.cell 3
      have x4 := BX.cell 4
      have xl := BX.lt
      go_wp2_with fail
      go_at_call 11
      refine (c1 _ (hg.call bel) I S).mono ?_
      rintro e w2 ⟨⟨ba, bn, bG, b1, bm1, bk1, b2, bm2, bk2, br, brn, brc⟩, rfl, I2, b0⟩
      simp only [Pw.val]
      have b := newB b0 (.cells #[.slice ba bn bG, .slice b1 bm1 bk1, .slice b2 bm2 bk2, .bool X1.up, .slice br brn brc] 30)
      have BY := Blk.laid w2 [.slice ba bn bG, .slice b1 bm1 bk1, .slice b2 bm2 bk2, .bool X1.up, .slice br brn brc] 30 _ rfl
      replace I2 := I2.alloc (.cells #[.slice ba bn bG, .slice b1 bm1 bk1, .slice b2 bm2 bk2, .bool X1.up, .slice br brn brc] 30)
      clear b0
      clear x0 x1 x2 x3 x4 xl
      replace BX := BX.keep b BX.lt
      replace I := I.call b
      replace S := S.call b
      replace bel := belowCall bel b
      clear b
      have x0 := BX.cell 0
      have x1 := BX.cell 1
      have x2 := BX.cell 2
      have x3 := BX.cell 3
      have x4 := BX.cell 4
      have xl := BX.lt
      go_upto_region 2 with fail
      generalize w2.heap.size = gBY at *
      generalize World.alloc w2 _ = w3 at *
      have y0 := BY.cell 0
      have y1 := BY.cell 1
      have y2 := BY.cell 2
      have y3 := BY.cell 3
      have y4 := BY.cell 4
      have yl := BY.lt
      go_wp2_with fail
      go_at_call 13
      refine (watched_any _ (hg.call bel)).mono ?_
      rintro e w4 ⟨rfl, b⟩
      clear x0 x1 x2 x3 x4 xl y0 y1 y2 y3 y4 yl
      replace BX := BX.keep b BX.lt
      replace BY := BY.keep b BY.lt
      replace I := I.call b
      replace S := S.call b
      replace I2 := I2.call b
      replace bel := belowCall bel b
      clear b
      have x0 := BX.cell 0
      have x1 := BX.cell 1
      have x2 := BX.cell 2
      have x3 := BX.cell 3
      have x4 := BX.cell 4
      have xl := BX.lt
      have y0 := BY.cell 0
      have y1 := BY.cell 1
      have y2 := BY.cell 2
      have y3 := BY.cell 3
      have y4 := BY.cell 4
      have yl := BY.lt
      go_wp2_with fail
      go_at_call 11
      refine (c2 _ _ (hg.call bel) I2).mono ?_
      rintro e w5 ⟨⟨da, dn, dG, d1, dm1, dk1, d2, dm2, dk2, dr, drn, drc⟩, rfl, I3, b0⟩
      simp only [Pw.val]
      have b := newB b0 (.cells #[.slice da dn dG, .slice d1 dm1 dk1, .slice d2 dm2 dk2, .bool Y.up, .slice dr drn drc] 30)
      have BZ := Blk.laid w5 [.slice da dn dG, .slice d1 dm1 dk1, .slice d2 dm2 dk2, .bool Y.up, .slice dr drn drc] 30 _ rfl
      replace I3 := I3.alloc (.cells #[.slice da dn dG, .slice d1 dm1 dk1, .slice d2 dm2 dk2, .bool Y.up, .slice dr drn drc] 30)
      clear b0
      clear x0 x1 x2 x3 x4 xl y0 y1 y2 y3 y4 yl
      replace BX := BX.keep b BX.lt
      replace BY := BY.keep b BY.lt
      replace I := I.call b
      replace S := S.call b
      replace I2 := I2.call b
      replace bel := belowCall bel b
      clear b
      have x0 := BX.cell 0
      have x1 := BX.cell 1
      have x2 := BX.cell 2
      have x3 := BX.cell 3
      have x4 := BX.cell 4
      have xl := BX.lt
      have y0 := BY.cell 0
      have y1 := BY.cell 1
      have y2 := BY.cell 2
      have y3 := BY.cell 3
      have y4 := BY.cell 4
      have yl := BY.lt
      go_upto_region 5 with fail
      generalize w5.heap.size = gBZ at *
      generalize World.alloc w5 _ = w6 at *
      have z0 := BZ.cell 0
      have z1 := BZ.cell 1
      have z2 := BZ.cell 2
      have z3 := BZ.cell 3
      have z4 := BZ.cell 4
      have zl := BZ.lt
      go_wp2_with fail
      go_at_call 11
      refine (c3 _ (hg.call bel) I S).mono ?_
      rintro e w7 ⟨⟨ha, hn, hG, h1, hm1, hk1, h2, hm2, hk2, hr, hrn, hrc⟩, rfl, I4, b0⟩
      simp only [Pw.val]
      have b := newB b0 (.cells #[.slice ha hn hG, .slice h1 hm1 hk1, .slice h2 hm2 hk2, .bool Z.up, .slice hr hrn hrc] 30)
      have BU := Blk.laid w7 [.slice ha hn hG, .slice h1 hm1 hk1, .slice h2 hm2 hk2, .bool Z.up, .slice hr hrn hrc] 30 _ rfl
      replace I4 := I4.alloc (.cells #[.slice ha hn hG, .slice h1 hm1 hk1, .slice h2 hm2 hk2, .bool Z.up, .slice hr hrn hrc] 30)
      clear b0
      clear x0 x1 x2 x3 x4 xl y0 y1 y2 y3 y4 yl z0 z1 z2 z3 z4 zl
      replace BX := BX.keep b BX.lt
      replace BY := BY.keep b BY.lt
      replace BZ := BZ.keep b BZ.lt
      replace I := I.call b
      replace S := S.call b
      replace I2 := I2.call b
      replace I3 := I3.call b
      replace bel := belowCall bel b
      clear b
      have x0 := BX.cell 0
      have x1 := BX.cell 1
      have x2 := BX.cell 2
      have x3 := BX.cell 3
      have x4 := BX.cell 4
      have xl := BX.lt
      have y0 := BY.cell 0
      have y1 := BY.cell 1
      have y2 := BY.cell 2
      have y3 := BY.cell 3
      have y4 := BY.cell 4
      have yl := BY.lt
      have z0 := BZ.cell 0
      have z1 := BZ.cell 1
      have z2 := BZ.cell 2
      have z3 := BZ.cell 3
      have z4 := BZ.cell 4
      have zl := BZ.lt
      go_upto_region 6 with fail
      generalize w7.heap.size = gBU at *
      generalize World.alloc w7 _ = w8 at *
      have u0 := BU.cell 0
      have u1 := BU.cell 1
      have u2 := BU.cell 2
      have u3 := BU.cell 3
      have u4 := BU.cell 4
      have ul := BU.lt
      go_wp2_with fail
      go_at_call 26
      refine (cS1 _ _ _ _ _ _ _ I3.s I.s I3.es I.es).mono ?_
      rintro e w9 ⟨rfl, b⟩
      clear x0 x1 x2 x3 x4 xl y0 y1 y2 y3 y4 yl z0 z1 z2 z3 z4 zl u0 u1 u2 u3 u4 ul
      replace BX := BX.keep b BX.lt
      replace BY := BY.keep b BY.lt
      replace BZ := BZ.keep b BZ.lt
      replace BU := BU.keep b BU.lt
      replace I := I.call b
      replace S := S.call b
      replace I2 := I2.call b
      replace I3 := I3.call b
      replace I4 := I4.call b
      replace bel := belowCall bel b
      clear b
      have x0 := BX.cell 0
      have x1 := BX.cell 1
      have x2 := BX.cell 2
      have x3 := BX.cell 3
      have x4 := BX.cell 4
      have xl := BX.lt
      have y0 := BY.cell 0
      have y1 := BY.cell 1
      have y2 := BY.cell 2
      have y3 := BY.cell 3
      have y4 := BY.cell 4
      have yl := BY.lt
      have z0 := BZ.cell 0
      have z1 := BZ.cell 1
      have z2 := BZ.cell 2
      have z3 := BZ.cell 3
      have z4 := BZ.cell 4
      have zl := BZ.lt
      have u0 := BU.cell 0
      have u1 := BU.cell 1
      have u2 := BU.cell 2
      have u3 := BU.cell 3
      have u4 := BU.cell 4
      have ul := BU.lt
      go_wp2_with fail
      go_at_call 27
      refine (cD1 _ _ _ _ _ _ _ _ _ _ _ _ _ I3.s1 I3.s2 I.s1 I.s2 I3.e1 I3.e2 I.e1 I.e2).mono ?_
      rintro e w10 ⟨rfl, b⟩
      clear x0 x1 x2 x3 x4 xl y0 y1 y2 y3 y4 yl z0 z1 z2 z3 z4 zl u0 u1 u2 u3 u4 ul
      replace BX := BX.keep b BX.lt
      replace BY := BY.keep b BY.lt
      replace BZ := BZ.keep b BZ.lt
      replace BU := BU.keep b BU.lt
      replace I := I.call b
      replace S := S.call b
      replace I2 := I2.call b
      replace I3 := I3.call b
      replace I4 := I4.call b
      replace bel := belowCall bel b
      clear b
      have x0 := BX.cell 0
      have x1 := BX.cell 1
      have x2 := BX.cell 2
      have x3 := BX.cell 3
      have x4 := BX.cell 4
      have xl := BX.lt
      have y0 := BY.cell 0
      have y1 := BY.cell 1
      have y2 := BY.cell 2
      have y3 := BY.cell 3
      have y4 := BY.cell 4
      have yl := BY.lt
      have z0 := BZ.cell 0
      have z1 := BZ.cell 1
      have z2 := BZ.cell 2
      have z3 := BZ.cell 3
      have z4 := BZ.cell 4
      have zl := BZ.lt
      have u0 := BU.cell 0
      have u1 := BU.cell 1
      have u2 := BU.cell 2
      have u3 := BU.cell 3
      have u4 := BU.cell 4
      have ul := BU.lt
      go_wp2_with fail
      go_ret
      exact ⟨rfl, bel⟩
    · obtain ⟨f0, t1, t2⟩ := hT.resolve_left hA
      have q3 : sameSh Y.c Z.c = true := by rw [t1]; exact sameSh_self _
      have q4 : decide (Y.d.safe = Z.d.safe ∧ Y.d.wait = Z.d.wait) = true := by rw [t2]; simp
      rw [q3] at cS2
      rw [q4] at cD2
      rw [f0] at c3
      have q5 : sameSh Y.c x.c = true → decide (Y.d.safe = x.d.safe ∧ Y.d.wait = x.d.wait) = false := by
        intro h
        refine decide_eq_false fun h2 => hA ⟨sameSh_eq h, ?_⟩
        have e1 := h2.1
        have e2 := h2.2
        revert e1 e2
        cases Y.d
        cases x.d
        simp
        exact fun a b => ⟨a, b⟩
      clear hT hA q3 q4 t1 t2
      cases hb : sameSh Y.c x.c with
      | false =>
        rw [hb] at cS1
        clear q5 hb
        clear hl
        obtain ⟨C, D, U, R⟩ := x
        obtain ⟨sa, sn, sG, a1, n1, c1', a2, n2, c2', ra, rn, rc⟩ := p
        simp only [Pw.val] at *
        have BX := Blk.laid W [.slice sa sn sG, .slice a1 n1 c1', .slice a2 n2 c2', .bool U, .slice ra rn rc] 30 _ rfl
        have bel := newB (Below.refl W.heap.size W) (.cells #[.slice sa sn sG, .slice a1 n1 c1', .slice a2 n2 c2', .bool U, .slice ra rn rc] 30)
        replace I := I.alloc (.cells #[.slice sa sn sG, .slice a1 n1 c1', .slice a2 n2 c2', .bool U, .slice ra rn rc] 30)
        replace S := S.call (newB (Below.refl W.heap.size W) (.cells #[.slice sa sn sG, .slice a1 n1 c1', .slice a2 n2 c2', .bool U, .slice ra rn rc] 30))
        go_enter Tryz.func6, Tryz.ntmps6
        go_upto_region 1 with fail
        generalize World.alloc W _ = w1 at *
        have x0 := BX.cell 0
        have x1 := BX.cell 1
        have x2 := BX.cell 2
        have x3 := BX.cell 3
        have x4 := BX.cell 4
        have xl := BX.lt
        go_wp2_with fail
        go_at_call 11
        refine (c1 _ (hg.call bel) I S).mono ?_
        rintro e w2 ⟨⟨ba, bn, bG, b1, bm1, bk1, b2, bm2, bk2, br, brn, brc⟩, rfl, I2, b0⟩
        simp only [Pw.val]
        have b := newB b0 (.cells #[.slice ba bn bG, .slice b1 bm1 bk1, .slice b2 bm2 bk2, .bool X1.up, .slice br brn brc] 30)
        have BY := Blk.laid w2 [.slice ba bn bG, .slice b1 bm1 bk1, .slice b2 bm2 bk2, .bool X1.up, .slice br brn brc] 30 _ rfl
        replace I2 := I2.alloc (.cells #[.slice ba bn bG, .slice b1 bm1 bk1, .slice b2 bm2 bk2, .bool X1.up, .slice br brn brc] 30)
        clear b0
        clear x0 x1 x2 x3 x4 xl
        replace BX := BX.keep b BX.lt
        replace I := I.call b
        replace S := S.call b
        replace bel := belowCall bel b
        clear b
        have x0 := BX.cell 0
        have x1 := BX.cell 1
        have x2 := BX.cell 2
        have x3 := BX.cell 3
        have x4 := BX.cell 4
        have xl := BX.lt
        go_upto_region 2 with fail
        generalize w2.heap.size = gBY at *
        generalize World.alloc w2 _ = w3 at *
        have y0 := BY.cell 0
        have y1 := BY.cell 1
        have y2 := BY.cell 2
        have y3 := BY.cell 3
        have y4 := BY.cell 4
        have yl := BY.lt
        go_wp2_with fail
        go_at_call 13
        refine (watched_any _ (hg.call bel)).mono ?_
        rintro e w4 ⟨rfl, b⟩
        clear x0 x1 x2 x3 x4 xl y0 y1 y2 y3 y4 yl
        replace BX := BX.keep b BX.lt
        replace BY := BY.keep b BY.lt
        replace I := I.call b
        replace S := S.call b
        replace I2 := I2.call b
        replace bel := belowCall bel b
        clear b
        have x0 := BX.cell 0
        have x1 := BX.cell 1
        have x2 := BX.cell 2
        have x3 := BX.cell 3
        have x4 := BX.cell 4
        have xl := BX.lt
        have y0 := BY.cell 0
        have y1 := BY.cell 1
        have y2 := BY.cell 2
        have y3 := BY.cell 3
        have y4 := BY.cell 4
        have yl := BY.lt
        go_wp2_with fail
        go_at_call 11
        refine (c2 _ _ (hg.call bel) I2).mono ?_
        rintro e w5 ⟨⟨da, dn, dG, d1, dm1, dk1, d2, dm2, dk2, dr, drn, drc⟩, rfl, I3, b0⟩
        simp only [Pw.val]
        have b := newB b0 (.cells #[.slice da dn dG, .slice d1 dm1 dk1, .slice d2 dm2 dk2, .bool Y.up, .slice dr drn drc] 30)
        have BZ := Blk.laid w5 [.slice da dn dG, .slice d1 dm1 dk1, .slice d2 dm2 dk2, .bool Y.up, .slice dr drn drc] 30 _ rfl
        replace I3 := I3.alloc (.cells #[.slice da dn dG, .slice d1 dm1 dk1, .slice d2 dm2 dk2, .bool Y.up, .slice dr drn drc] 30)
        clear b0
        clear x0 x1 x2 x3 x4 xl y0 y1 y2 y3 y4 yl
        replace BX := BX.keep b BX.lt
        replace BY := BY.keep b BY.lt
        replace I := I.call b
        replace S := S.call b
        replace I2 := I2.call b
        replace bel := belowCall bel b
        clear b
        have x0 := BX.cell 0
        have x1 := BX.cell 1
        have x2 := BX.cell 2
        have x3 := BX.cell 3
        have x4 := BX.cell 4
        have xl := BX.lt
        have y0 := BY.cell 0
        have y1 := BY.cell 1
        have y2 := BY.cell 2
        have y3 := BY.cell 3
        have y4 := BY.cell 4
        have yl := BY.lt
        go_upto_region 5 with fail
        generalize w5.heap.size = gBZ at *
        generalize World.alloc w5 _ = w6 at *
        have z0 := BZ.cell 0
        have z1 := BZ.cell 1
        have z2 := BZ.cell 2
        have z3 := BZ.cell 3
        have z4 := BZ.cell 4
        have zl := BZ.lt
        go_wp2_with fail
        go_at_call 11
        refine (c3 _ (hg.call bel) I S).mono ?_
        rintro e w7 ⟨⟨ha, hn, hG, h1, hm1, hk1, h2, hm2, hk2, hr, hrn, hrc⟩, rfl, I4, b0⟩
        simp only [Pw.val]
        have b := newB b0 (.cells #[.slice ha hn hG, .slice h1 hm1 hk1, .slice h2 hm2 hk2, .bool Z.up, .slice hr hrn hrc] 30)
        have BU := Blk.laid w7 [.slice ha hn hG, .slice h1 hm1 hk1, .slice h2 hm2 hk2, .bool Z.up, .slice hr hrn hrc] 30 _ rfl
        replace I4 := I4.alloc (.cells #[.slice ha hn hG, .slice h1 hm1 hk1, .slice h2 hm2 hk2, .bool Z.up, .slice hr hrn hrc] 30)
        clear b0
        clear x0 x1 x2 x3 x4 xl y0 y1 y2 y3 y4 yl z0 z1 z2 z3 z4 zl
        replace BX := BX.keep b BX.lt
        replace BY := BY.keep b BY.lt
        replace BZ := BZ.keep b BZ.lt
        replace I := I.call b
        replace S := S.call b
        replace I2 := I2.call b
        replace I3 := I3.call b
        replace bel := belowCall bel b
        clear b
        have x0 := BX.cell 0
        have x1 := BX.cell 1
        have x2 := BX.cell 2
        have x3 := BX.cell 3
        have x4 := BX.cell 4
        have xl := BX.lt
        have y0 := BY.cell 0
        have y1 := BY.cell 1
        have y2 := BY.cell 2
        have y3 := BY.cell 3
        have y4 := BY.cell 4
        have yl := BY.lt
        have z0 := BZ.cell 0
        have z1 := BZ.cell 1
        have z2 := BZ.cell 2
        have z3 := BZ.cell 3
        have z4 := BZ.cell 4
        have zl := BZ.lt
        go_upto_region 6 with fail
        generalize w7.heap.size = gBU at *
        generalize World.alloc w7 _ = w8 at *
        have u0 := BU.cell 0
        have u1 := BU.cell 1
        have u2 := BU.cell 2
        have u3 := BU.cell 3
        have u4 := BU.cell 4
        have ul := BU.lt
        go_wp2_with fail
        go_at_call 26
        refine (cS1 _ _ _ _ _ _ _ I3.s I.s I3.es I.es).mono ?_
        rintro e w9 ⟨rfl, b⟩
        clear x0 x1 x2 x3 x4 xl y0 y1 y2 y3 y4 yl z0 z1 z2 z3 z4 zl u0 u1 u2 u3 u4 ul
        replace BX := BX.keep b BX.lt
        replace BY := BY.keep b BY.lt
        replace BZ := BZ.keep b BZ.lt
        replace BU := BU.keep b BU.lt
        replace I := I.call b
        replace S := S.call b
        replace I2 := I2.call b
        replace I3 := I3.call b
        replace I4 := I4.call b
        replace bel := belowCall bel b
        clear b
        have x0 := BX.cell 0
        have x1 := BX.cell 1
        have x2 := BX.cell 2
        have x3 := BX.cell 3
        have x4 := BX.cell 4
        have xl := BX.lt
        have y0 := BY.cell 0
        have y1 := BY.cell 1
        have y2 := BY.cell 2
        have y3 := BY.cell 3
        have y4 := BY.cell 4
        have yl := BY.lt
        have z0 := BZ.cell 0
        have z1 := BZ.cell 1
        have z2 := BZ.cell 2
        have z3 := BZ.cell 3
        have z4 := BZ.cell 4
        have zl := BZ.lt
        have u0 := BU.cell 0
        have u1 := BU.cell 1
        have u2 := BU.cell 2
        have u3 := BU.cell 3
        have u4 := BU.cell 4
        have ul := BU.lt
        go_wp2_with fail
        go_at_call 26
        refine (cS2 _ _ _ _ _ _ _ I3.s I4.s I3.es I4.es).mono ?_
        rintro e w10 ⟨rfl, b⟩
        clear x0 x1 x2 x3 x4 xl y0 y1 y2 y3 y4 yl z0 z1 z2 z3 z4 zl u0 u1 u2 u3 u4 ul
        replace BX := BX.keep b BX.lt
        replace BY := BY.keep b BY.lt
        replace BZ := BZ.keep b BZ.lt
        replace BU := BU.keep b BU.lt
        replace I := I.call b
        replace S := S.call b
        replace I2 := I2.call b
        replace I3 := I3.call b
        replace I4 := I4.call b
        replace bel := belowCall bel b
        clear b
        have x0 := BX.cell 0
        have x1 := BX.cell 1
        have x2 := BX.cell 2
        have x3 := BX.cell 3
        have x4 := BX.cell 4
        have xl := BX.lt
        have y0 := BY.cell 0
        have y1 := BY.cell 1
        have y2 := BY.cell 2
        have y3 := BY.cell 3
        have y4 := BY.cell 4
        have yl := BY.lt
        have z0 := BZ.cell 0
        have z1 := BZ.cell 1
        have z2 := BZ.cell 2
        have z3 := BZ.cell 3
        have z4 := BZ.cell 4
        have zl := BZ.lt
        have u0 := BU.cell 0
        have u1 := BU.cell 1
        have u2 := BU.cell 2
        have u3 := BU.cell 3
        have u4 := BU.cell 4
        have ul := BU.lt
        go_wp2_with fail
        go_at_call 27
        refine (cD2 _ _ _ _ _ _ _ _ _ _ _ _ _ I3.s1 I3.s2 I4.s1 I4.s2 I3.e1 I3.e2 I4.e1 I4.e2).mono ?_
        rintro e w11 ⟨rfl, b⟩
        clear x0 x1 x2 x3 x4 xl y0 y1 y2 y3 y4 yl z0 z1 z2 z3 z4 zl u0 u1 u2 u3 u4 ul
        replace BX := BX.keep b BX.lt
        replace BY := BY.keep b BY.lt
        replace BZ := BZ.keep b BZ.lt
        replace BU := BU.keep b BU.lt
        replace I := I.call b
        replace S := S.call b
        replace I2 := I2.call b
        replace I3 := I3.call b
        replace I4 := I4.call b
        replace bel := belowCall bel b
        clear b
        have x0 := BX.cell 0
        have x1 := BX.cell 1
        have x2 := BX.cell 2
        have x3 := BX.cell 3
        have x4 := BX.cell 4
        have xl := BX.lt
        have y0 := BY.cell 0
        have y1 := BY.cell 1
        have y2 := BY.cell 2
        have y3 := BY.cell 3
        have y4 := BY.cell 4
        have yl := BY.lt
        have z0 := BZ.cell 0
        have z1 := BZ.cell 1
        have z2 := BZ.cell 2
        have z3 := BZ.cell 3
        have z4 := BZ.cell 4
        have zl := BZ.lt
        have u0 := BU.cell 0
        have u1 := BU.cell 1
        have u2 := BU.cell 2
        have u3 := BU.cell 3
        have u4 := BU.cell 4
        have ul := BU.lt
        go_wp2_with fail
        go_ret
        exact ⟨rfl, bel⟩
      | true =>
        rw [q5 hb] at cD1
        rw [hb] at cS1
        clear q5 hb
        clear hl
        obtain ⟨C, D, U, R⟩ := x
        obtain ⟨sa, sn, sG, a1, n1, c1', a2, n2, c2', ra, rn, rc⟩ := p
        simp only [Pw.val] at *
        have BX := Blk.laid W [.slice sa sn sG, .slice a1 n1 c1', .slice a2 n2 c2', .bool U, .slice ra rn rc] 30 _ rfl
        have bel := newB (Below.refl W.heap.size W) (.cells #[.slice sa sn sG, .slice a1 n1 c1', .slice a2 n2 c2', .bool U, .slice ra rn rc] 30)
        replace I := I.alloc (.cells #[.slice sa sn sG, .slice a1 n1 c1', .slice a2 n2 c2', .bool U, .slice ra rn rc] 30)
        replace S := S.call (newB (Below.refl W.heap.size W) (.cells #[.slice sa sn sG, .slice a1 n1 c1', .slice a2 n2 c2', .bool U, .slice ra rn rc] 30))
        go_enter Tryz.func6, Tryz.ntmps6
        go_upto_region 1 with fail
        generalize World.alloc W _ = w1 at *
        have x0 := BX.cell 0
        have x1 := BX.cell 1
        have x2 := BX.cell 2
        have x3 := BX.cell 3
        have x4 := BX.cell 4
        have xl := BX.lt
        go_wp2_with fail
        go_at_call 11
        refine (c1 _ (hg.call bel) I S).mono ?_
        rintro e w2 ⟨⟨ba, bn, bG, b1, bm1, bk1, b2, bm2, bk2, br, brn, brc⟩, rfl, I2, b0⟩
        simp only [Pw.val]
        have b := newB b0 (.cells #[.slice ba bn bG, .slice b1 bm1 bk1, .slice b2 bm2 bk2, .bool X1.up, .slice br brn brc] 30)
        have BY := Blk.laid w2 [.slice ba bn bG, .slice b1 bm1 bk1, .slice b2 bm2 bk2, .bool X1.up, .slice br brn brc] 30 _ rfl
        replace I2 := I2.alloc (.cells #[.slice ba bn bG, .slice b1 bm1 bk1, .slice b2 bm2 bk2, .bool X1.up, .slice br brn brc] 30)
        clear b0
        clear x0 x1 x2 x3 x4 xl
        replace BX := BX.keep b BX.lt
        replace I := I.call b
        replace S := S.call b
        replace bel := belowCall bel b
        clear b
        have x0 := BX.cell 0
        have x1 := BX.cell 1
        have x2 := BX.cell 2
        have x3 := BX.cell 3
        have x4 := BX.cell 4
        have xl := BX.lt
        go_upto_region 2 with fail
        generalize w2.heap.size = gBY at *
        generalize World.alloc w2 _ = w3 at *
        have y0 := BY.cell 0
        have y1 := BY.cell 1
        have y2 := BY.cell 2
        have y3 := BY.cell 3
        have y4 := BY.cell 4
        have yl := BY.lt
        go_wp2_with fail
        go_at_call 13
        refine (watched_any _ (hg.call bel)).mono ?_
        rintro e w4 ⟨rfl, b⟩
        clear x0 x1 x2 x3 x4 xl y0 y1 y2 y3 y4 yl
        replace BX := BX.keep b BX.lt
        replace BY := BY.keep b BY.lt
        replace I := I.call b
        replace S := S.call b
        replace I2 := I2.call b
        replace bel := belowCall bel b
        clear b
        have x0 := BX.cell 0
        have x1 := BX.cell 1
        have x2 := BX.cell 2
        have x3 := BX.cell 3
        have x4 := BX.cell 4
        have xl := BX.lt
        have y0 := BY.cell 0
        have y1 := BY.cell 1
        have y2 := BY.cell 2
        have y3 := BY.cell 3
        have y4 := BY.cell 4
        have yl := BY.lt
        go_wp2_with fail
        go_at_call 11
        refine (c2 _ _ (hg.call bel) I2).mono ?_
        rintro e w5 ⟨⟨da, dn, dG, d1, dm1, dk1, d2, dm2, dk2, dr, drn, drc⟩, rfl, I3, b0⟩
        simp only [Pw.val]
        have b := newB b0 (.cells #[.slice da dn dG, .slice d1 dm1 dk1, .slice d2 dm2 dk2, .bool Y.up, .slice dr drn drc] 30)
        have BZ := Blk.laid w5 [.slice da dn dG, .slice d1 dm1 dk1, .slice d2 dm2 dk2, .bool Y.up, .slice dr drn drc] 30 _ rfl
        replace I3 := I3.alloc (.cells #[.slice da dn dG, .slice d1 dm1 dk1, .slice d2 dm2 dk2, .bool Y.up, .slice dr drn drc] 30)
        clear b0
        clear x0 x1 x2 x3 x4 xl y0 y1 y2 y3 y4 yl
        replace BX := BX.keep b BX.lt
        replace BY := BY.keep b BY.lt
        replace I := I.call b
        replace S := S.call b
        replace I2 := I2.call b
        replace bel := belowCall bel b
        clear b
        have x0 := BX.cell 0
        have x1 := BX.cell 1
        have x2 := BX.cell 2
        have x3 := BX.cell 3
        have x4 := BX.cell 4
        have xl := BX.lt
        have y0 := BY.cell 0
        have y1 := BY.cell 1
        have y2 := BY.cell 2
        have y3 := BY.cell 3
        have y4 := BY.cell 4
        have yl := BY.lt
        go_upto_region 5 with fail
        generalize w5.heap.size = gBZ at *
        generalize World.alloc w5 _ = w6 at *
        have z0 := BZ.cell 0
        have z1 := BZ.cell 1
        have z2 := BZ.cell 2
        have z3 := BZ.cell 3
        have z4 := BZ.cell 4
        have zl := BZ.lt
        go_wp2_with fail
        go_at_call 11
        refine (c3 _ (hg.call bel) I S).mono ?_
        rintro e w7 ⟨⟨ha, hn, hG, h1, hm1, hk1, h2, hm2, hk2, hr, hrn, hrc⟩, rfl, I4, b0⟩
        simp only [Pw.val]
        have b := newB b0 (.cells #[.slice ha hn hG, .slice h1 hm1 hk1, .slice h2 hm2 hk2, .bool Z.up, .slice hr hrn hrc] 30)
        have BU := Blk.laid w7 [.slice ha hn hG, .slice h1 hm1 hk1, .slice h2 hm2 hk2, .bool Z.up, .slice hr hrn hrc] 30 _ rfl
        replace I4 := I4.alloc (.cells #[.slice ha hn hG, .slice h1 hm1 hk1, .slice h2 hm2 hk2, .bool Z.up, .slice hr hrn hrc] 30)
        clear b0
        clear x0 x1 x2 x3 x4 xl y0 y1 y2 y3 y4 yl z0 z1 z2 z3 z4 zl
        replace BX := BX.keep b BX.lt
        replace BY := BY.keep b BY.lt
        replace BZ := BZ.keep b BZ.lt
        replace I := I.call b
        replace S := S.call b
        replace I2 := I2.call b
        replace I3 := I3.call b
        replace bel := belowCall bel b
        clear b
        have x0 := BX.cell 0
        have x1 := BX.cell 1
        have x2 := BX.cell 2
        have x3 := BX.cell 3
        have x4 := BX.cell 4
        have xl := BX.lt
        have y0 := BY.cell 0
        have y1 := BY.cell 1
        have y2 := BY.cell 2
        have y3 := BY.cell 3
        have y4 := BY.cell 4
        have yl := BY.lt
        have z0 := BZ.cell 0
        have z1 := BZ.cell 1
        have z2 := BZ.cell 2
        have z3 := BZ.cell 3
        have z4 := BZ.cell 4
        have zl := BZ.lt
        go_upto_region 6 with fail
        generalize w7.heap.size = gBU at *
        generalize World.alloc w7 _ = w8 at *
        have u0 := BU.cell 0
        have u1 := BU.cell 1
        have u2 := BU.cell 2
        have u3 := BU.cell 3
        have u4 := BU.cell 4
        have ul := BU.lt
        go_wp2_with fail
        go_at_call 26
        refine (cS1 _ _ _ _ _ _ _ I3.s I.s I3.es I.es).mono ?_
        rintro e w9 ⟨rfl, b⟩
        clear x0 x1 x2 x3 x4 xl y0 y1 y2 y3 y4 yl z0 z1 z2 z3 z4 zl u0 u1 u2 u3 u4 ul
        replace BX := BX.keep b BX.lt
        replace BY := BY.keep b BY.lt
        replace BZ := BZ.keep b BZ.lt
        replace BU := BU.keep b BU.lt
        replace I := I.call b
        replace S := S.call b
        replace I2 := I2.call b
        replace I3 := I3.call b
        replace I4 := I4.call b
        replace bel := belowCall bel b
        clear b
        have x0 := BX.cell 0
        have x1 := BX.cell 1
        have x2 := BX.cell 2
        have x3 := BX.cell 3
        have x4 := BX.cell 4
        have xl := BX.lt
        have y0 := BY.cell 0
        have y1 := BY.cell 1
        have y2 := BY.cell 2
        have y3 := BY.cell 3
        have y4 := BY.cell 4
        have yl := BY.lt
        have z0 := BZ.cell 0
        have z1 := BZ.cell 1
        have z2 := BZ.cell 2
        have z3 := BZ.cell 3
        have z4 := BZ.cell 4
        have zl := BZ.lt
        have u0 := BU.cell 0
        have u1 := BU.cell 1
        have u2 := BU.cell 2
        have u3 := BU.cell 3
        have u4 := BU.cell 4
        have ul := BU.lt
        go_wp2_with fail
        go_at_call 27
        refine (cD1 _ _ _ _ _ _ _ _ _ _ _ _ _ I3.s1 I3.s2 I.s1 I.s2 I3.e1 I3.e2 I.e1 I.e2).mono ?_
        rintro e w10 ⟨rfl, b⟩
        clear x0 x1 x2 x3 x4 xl y0 y1 y2 y3 y4 yl z0 z1 z2 z3 z4 zl u0 u1 u2 u3 u4 ul
        replace BX := BX.keep b BX.lt
        replace BY := BY.keep b BY.lt
        replace BZ := BZ.keep b BZ.lt
        replace BU := BU.keep b BU.lt
        replace I := I.call b
        replace S := S.call b
        replace I2 := I2.call b
        replace I3 := I3.call b
        replace I4 := I4.call b
        replace bel := belowCall bel b
        clear b
        have x0 := BX.cell 0
        have x1 := BX.cell 1
        have x2 := BX.cell 2
        have x3 := BX.cell 3
        have x4 := BX.cell 4
        have xl := BX.lt
        have y0 := BY.cell 0
        have y1 := BY.cell 1
        have y2 := BY.cell 2
        have y3 := BY.cell 3
        have y4 := BY.cell 4
        have yl := BY.lt
        have z0 := BZ.cell 0
        have z1 := BZ.cell 1
        have z2 := BZ.cell 2
        have z3 := BZ.cell 3
        have z4 := BZ.cell 4
        have zl := BZ.lt
        have u0 := BU.cell 0
        have u1 := BU.cell 1
        have u2 := BU.cell 2
        have u3 := BU.cell 3
        have u4 := BU.cell 4
        have ul := BU.lt
        go_wp2_with fail
        go_at_call 26
        refine (cS2 _ _ _ _ _ _ _ I3.s I4.s I3.es I4.es).mono ?_
        rintro e w11 ⟨rfl, b⟩
        clear x0 x1 x2 x3 x4 xl y0 y1 y2 y3 y4 yl z0 z1 z2 z3 z4 zl u0 u1 u2 u3 u4 ul
        replace BX := BX.keep b BX.lt
        replace BY := BY.keep b BY.lt
        replace BZ := BZ.keep b BZ.lt
        replace BU := BU.keep b BU.lt
        replace I := I.call b
        replace S := S.call b
        replace I2 := I2.call b
        replace I3 := I3.call b
        replace I4 := I4.call b
        replace bel := belowCall bel b
        clear b
        have x0 := BX.cell 0
        have x1 := BX.cell 1
        have x2 := BX.cell 2
        have x3 := BX.cell 3
        have x4 := BX.cell 4
        have xl := BX.lt
        have y0 := BY.cell 0
        have y1 := BY.cell 1
        have y2 := BY.cell 2
        have y3 := BY.cell 3
        have y4 := BY.cell 4
        have yl := BY.lt
        have z0 := BZ.cell 0
        have z1 := BZ.cell 1
        have z2 := BZ.cell 2
        have z3 := BZ.cell 3
        have z4 := BZ.cell 4
        have zl := BZ.lt
        have u0 := BU.cell 0
        have u1 := BU.cell 1
        have u2 := BU.cell 2
        have u3 := BU.cell 3
        have u4 := BU.cell 4
        have ul := BU.lt
        go_wp2_with fail
        go_at_call 27
        refine (cD2 _ _ _ _ _ _ _ _ _ _ _ _ _ I3.s1 I3.s2 I4.s1 I4.s2 I3.e1 I3.e2 I4.e1 I4.e2).mono ?_
        rintro e w12 ⟨rfl, b⟩
        clear x0 x1 x2 x3 x4 xl y0 y1 y2 y3 y4 yl z0 z1 z2 z3 z4 zl u0 u1 u2 u3 u4 ul
        replace BX := BX.keep b BX.lt
        replace BY := BY.keep b BY.lt
        replace BZ := BZ.keep b BZ.lt
        replace BU := BU.keep b BU.lt
        replace I := I.call b
        replace S := S.call b
        replace I2 := I2.call b
        replace I3 := I3.call b
        replace I4 := I4.call b
        replace bel := belowCall bel b
        clear b
        have x0 := BX.cell 0
        have x1 := BX.cell 1
        have x2 := BX.cell 2
        have x3 := BX.cell 3
        have x4 := BX.cell 4
        have xl := BX.lt
        have y0 := BY.cell 0
        have y1 := BY.cell 1
        have y2 := BY.cell 2
        have y3 := BY.cell 3
        have y4 := BY.cell 4
        have yl := BY.lt
        have z0 := BZ.cell 0
        have z1 := BZ.cell 1
        have z2 := BZ.cell 2
        have z3 := BZ.cell 3
        have z4 := BZ.cell 4
        have zl := BZ.lt
        have u0 := BU.cell 0
        have u1 := BU.cell 1
        have u2 := BU.cell 2
        have u3 := BU.cell 3
        have u4 := BU.cell 4
        have ul := BU.lt
        go_wp2_with fail
        go_ret
        exact ⟨rfl, bel⟩
  · have hd : decide (E = 0) = false := decide_eq_false hz
    clear hE hX few fewS
    clear hl
    obtain ⟨C, D, U, R⟩ := x
    obtain ⟨sa, sn, sG, a1, n1, c1', a2, n2, c2', ra, rn, rc⟩ := p
    simp only [Pw.val] at *
    have BX := Blk.laid W [.slice sa sn sG, .slice a1 n1 c1', .slice a2 n2 c2', .bool U, .slice ra rn rc] 30 _ rfl
    have bel := newB (Below.refl W.heap.size W) (.cells #[.slice sa sn sG, .slice a1 n1 c1', .slice a2 n2 c2', .bool U, .slice ra rn rc] 30)
    replace I := I.alloc (.cells #[.slice sa sn sG, .slice a1 n1 c1', .slice a2 n2 c2', .bool U, .slice ra rn rc] 30)
    replace S := S.call (newB (Below.refl W.heap.size W) (.cells #[.slice sa sn sG, .slice a1 n1 c1', .slice a2 n2 c2', .bool U, .slice ra rn rc] 30))
    go_enter Tryz.func6, Tryz.ntmps6
    go_upto_region 1 with fail
    generalize World.alloc W _ = w1 at *
    have x0 := BX.cell 0
    have x1 := BX.cell 1
    have x2 := BX.cell 2
    have x3 := BX.cell 3
    have x4 := BX.cell 4
    have xl := BX.lt
    go_wp2_with fail
    go_at_call 11
    refine (c1 _ (hg.call bel) I S).mono ?_
    rintro e w2 ⟨⟨ba, bn, bG, b1, bm1, bk1, b2, bm2, bk2, br, brn, brc⟩, rfl, I2, b0⟩
    simp only [Pw.val]
    have b := newB b0 (.cells #[.slice ba bn bG, .slice b1 bm1 bk1, .slice b2 bm2 bk2, .bool X1.up, .slice br brn brc] 30)
    have BY := Blk.laid w2 [.slice ba bn bG, .slice b1 bm1 bk1, .slice b2 bm2 bk2, .bool X1.up, .slice br brn brc] 30 _ rfl
    replace I2 := I2.alloc (.cells #[.slice ba bn bG, .slice b1 bm1 bk1, .slice b2 bm2 bk2, .bool X1.up, .slice br brn brc] 30)
    clear b0
    clear x0 x1 x2 x3 x4 xl
    replace BX := BX.keep b BX.lt
    replace I := I.call b
    replace S := S.call b
    replace bel := belowCall bel b
    clear b
    have x0 := BX.cell 0
    have x1 := BX.cell 1
    have x2 := BX.cell 2
    have x3 := BX.cell 3
    have x4 := BX.cell 4
    have xl := BX.lt
    go_upto_region 2 with fail
    generalize w2.heap.size = gBY at *
    generalize World.alloc w2 _ = w3 at *
    have y0 := BY.cell 0
    have y1 := BY.cell 1
    have y2 := BY.cell 2
    have y3 := BY.cell 3
    have y4 := BY.cell 4
    have yl := BY.lt
    go_wp2_with fail
    go_at_call 13
    refine (watched_any _ (hg.call bel)).mono ?_
    rintro e w4 ⟨rfl, b⟩
    clear x0 x1 x2 x3 x4 xl y0 y1 y2 y3 y4 yl
    replace BX := BX.keep b BX.lt
    replace BY := BY.keep b BY.lt
    replace I := I.call b
    replace S := S.call b
    replace I2 := I2.call b
    replace bel := belowCall bel b
    clear b
    have x0 := BX.cell 0
    have x1 := BX.cell 1
    have x2 := BX.cell 2
    have x3 := BX.cell 3
    have x4 := BX.cell 4
    have xl := BX.lt
    have y0 := BY.cell 0
    have y1 := BY.cell 1
    have y2 := BY.cell 2
    have y3 := BY.cell 3
    have y4 := BY.cell 4
    have yl := BY.lt
    go_wp2_with fail
    go_at_call 13
    refine (watched_any _ (hg.call bel)).mono ?_
    rintro e w5 ⟨rfl, b⟩
    go_wp2_with fail
    go_ret
    exact ⟨rfl, belowCall bel b⟩

end Go.Proofs.YtjjfgmcgonkicaaGreatDoor

/-
  Proved: for any world, any list of entries, any number, WorldTorn returns true and leaves its arguments as they were: a batch that is torn is there wholly, or not at all, when the power is there again. Conditions: the listed variables of Go's library start as the program's text lays them (tied by the card).
-/
namespace Go.Proofs.YtjjfgmcgonkicaaGreatDoor.worldTorn
open Go.ChangeShapes Go.WideShapes Go.ChangeAt Go.RowKit Go.ChangeMaps
set_option linter.unusedVariables false

def laidL : List (String × DataW Unit) := Rows.worldTornRow.laid

set_option maxRecDepth 100000 in
theorem lifted (os : Os) (started : os.Started) (H : Type) (enc : TypeId × Value → H) :
    ReturnsInHanded {} Tryz.checked os 6 .any (fun w args => (Rows.worldTornSpec.pre enc Tryz.prog Tryz.f6 [] false w args ∧ laidMetH Tryz.prog laidL w) ∧ sizedMet enc Tryz.prog Tryz.f6 (OpenSpec.ofChange Rows.worldTornSpec) false w args)
      (Rows.worldTornSpec.post enc Tryz.prog Tryz.f6 false true false false) := by
  refine returns_both (C := Tryz.checked) (X := fun w _ => laidMetH Tryz.prog laidL w) (fun _ _ _ hh h => h.of_heap hh) own started (by kernel_rfl) Tryz.func6
    (ChangeSpec.witness_shaped (enc := enc) (C := Tryz.checked) (os := os) (X := fun w _ => laidMetH Tryz.prog laidL w) false (World.laidAll Tryz.prog os laidL) #[.agg #[.slice none 0 0, .slice none 0 0, .slice none 0 0, .bool false, .slice none 0 0], .slice none 0 0, .int .i64 0] 8 (World.laidAll_os _ _ _)
      (World.shaped_of_ZipB (by kernel_rfl) (by kernel_rfl)) (by kernel_rfl) (by kernel_rfl) (by kernel_rfl)
      (by rw [MakeChecks.laidMetH_plain _ _ _ (by kernel_rfl)]; exact laidMet_laidAll _ (by kernel_rfl) (by kernel_rfl))) ?_
  intro W base args ds gs before hval0 hW hsz0 hL hsh
  have hsz : (DataW.weightsEach Tryz.prog (Tryz.f6.params.toList ++ Rows.worldTornSpec.plain.varTypes Tryz.prog) (ds ++ gs)).all (· ≤ reachBytes) = true := hsz0
  have hval : ∀ (j : Nat) t v, Tryz.f6.params[j]? = some t → args[j]? = some v → Value.okWide Tryz.prog W .any base t v := hval0
  have hW' := hW
  obtain ⟨p, q, hA0, hV, rfl, hfz, hnd⟩ := hW
  have hA : DataW.TrodAll enc Tryz.prog W 0 (fun _ => true) true Tryz.f6.params.toList args.toList ds p := hA0
  rw [Tryz.params6] at hA hval hsz
  obtain ⟨v0, vs0, d0, ds0, p0, q0, hargs, rfl, rfl, h0, r0⟩ := trodAll_cons hA
  obtain ⟨v1, vs1, d1, ds1, p1, q1, rfl, rfl, rfl, h1, r1⟩ := trodAll_cons r0
  obtain ⟨v2, vs2, d2, ds2, p2, q2, rfl, rfl, rfl, h2, r2⟩ := trodAll_cons r1
  obtain ⟨rfl, rfl, rfl⟩ := trodAll_nil r2
  obtain rfl : args = #[v0, v1, v2] := by cases args; simp_all
  obtain ⟨rfl, rfl⟩ := trodVars_none hV
  have k0 := h0
  have lt0 : ∀ x ∈ p0, x.block < W.heap.size := by obtain ⟨m, hm⟩ := k0; exact DataW.trod_lt m _ _ _ hm
  obtain ⟨x0, q0, rfl, I0, few0, fewS0, fewR0⟩ := open_world (hval 0 30 v0 rfl rfl) h0 (rec_light (j := 0) hsz rfl rfl)
  have k1 := h1
  have lt1 : ∀ x ∈ p1, x.block < W.heap.size := by obtain ⟨m, hm⟩ := k1; exact DataW.trod_lt m _ _ _ hm
  obtain ⟨a1, len1, cap1, rfl⟩ := okWide_slice Tryz.underlying31 (hval 1 31 v1 rfl rfl)
  obtain ⟨l1, hl1, s1, _⟩ := open_nts h1 (rec_light (j := 1) hsz rfl rfl)
  obtain ⟨a2, rfl, rfl, rfl, w2⟩ := open_int Tryz.underlying3 (hval 2 3 v2 rfl rfl) h2
  rw [MakeChecks.laidMetH_plain _ _ _ (by kernel_rfl)] at hL
  have g := glob_of hL hsh
  refine (torn_walk W g x0 q0 I0 few0 fewS0 fewR0 l1 a1 cap1 len1 s1 hl1.symm a2 w2).mono fun e W' ⟨he, bel⟩ => ?_
  subst he
  exact ⟨_, rfl, _, _, _, [], _, [], hW', trodAll_mk1 (shut_bool Tryz.underlying4 _), (trodAll_cons_mk (Below.trod laidOut (by kernel_rfl) (of_decide_eq_true (by kernel_rfl)) k0 bel lt0) (trodAll_cons_mk (Below.trod laidOut (by kernel_rfl) (of_decide_eq_true (by kernel_rfl)) k1 bel lt1) (trodAll_cons_mk (shut_int Tryz.underlying3 w2) trodAll_mk0))), rfl, bel.frame _, fun h => by cases h⟩

theorem row_holds : Rows.WorldTornSaid :=
  OpenClaim.holds_of_wide 6 Tryz.f6 rfl rfl rfl rfl rfl rfl rfl ⟨rfl, rfl, rfl, rfl, rfl⟩ rfl rfl rfl rfl rfl (by kernel_rfl) Tryz.func6 (by kernel_rfl)
    (of_decide_eq_true (by kernel_rfl)) (by unfold Func.isWrapper; first | (rw [if_pos (by decide +kernel)]; kernel_rfl) | (rw [if_neg (by decide +kernel)]; exact ⟨rfl, rfl⟩))
    (fun os started H enc _ => lifted os started H enc)
end Go.Proofs.YtjjfgmcgonkicaaGreatDoor.worldTorn
