/-
  What stays while a box of one cell is written: points, a right world. What was there at versions, as the closures ask.
-/
import Derived.Deep.RegionHeld3
import Derived.Deep.Cut
import Derived.Deep.CutRange
import Derived.Test.YtcjdpilmhlfmfaaGreatDoorRows
import Derived.Test.YtcjdpilmhlfmfaaGreatDoorCards
import Derived.Test.YtcjdpilmhlfmfaaGreatDoorTie
import Derived.ProofKit
import Derived.ChangeMaps5
import Derived.LaidMore
import Derived.Stop.Joined
import Derived.SevenTiedAt
import Derived.Test.YtcjdpilmhlfmfaaGreatDoorP40
import Derived.Test.YtcjdpilmhlfmfaaGreatDoorP35
import Derived.Test.YtcjdpilmhlfmfaaGreatDoorP01
import Derived.Test.YtcjdpilmhlfmfaaGreatDoorP39
namespace Go.Proofs.YtcjdpilmhlfmfaaGreatDoor
open Go.RowKit
open Go.Lib (byteCells)
set_option linter.unusedVariables false

theorem slP_own' {w : World} {base n : Nat} {a : Option Addr} {G : Nat} {l : List Pt} (o : w.ownsRow base 50 2 (.slice a n G) n (cellsP l)) : SlP w a G l := by
  obtain ⟨a3, G3, e3, s3, _, _⟩ := SlP.ofOwn o
  simp only [Value.slice.injEq, true_and] at e3
  obtain ⟨rfl, rfl⟩ := e3
  exact s3

theorem slP_one {w w' : World} {a : Option Addr} {cap g : Nat} {l : List Pt} {c : Value} {t : TypeId} (S : SlP w a cap l) (B : Blk w g [c] t) (hg : w.grownBy w' (some g)) : SlP w' a cap l := by
  cases l with
  | nil => exact ⟨.inl rfl, S.le, S.max, S.nil⟩
  | cons b r => exact ⟨S.row.off hg (S.row.offLong B (by rw [cellsP_length]; simp only [List.length_cons, List.length_nil]; omega)), S.le, S.max, S.nil⟩

theorem SlR.one {w w' : World} {a : Option Addr} {G g : Nat} {rs : List Lr} {t : TypeId} {c : Value} (h : SlR w a G rs) (hz : shelfE (rs.map Lr.rw) = 0) (B : Blk w g [c] t) (hg : w.grownBy w' (some g)) : SlR w' a G rs := by
  have h4 := right_len hz
  rw [List.length_map] at h4
  have hl := flat_length Lr.two rs
  refine ⟨⟨h.sl.row.off hg (h.sl.row.offLong B (by rw [hl, h4]; simp)), h.sl.le, h.sl.max, h.sl.nil⟩, fun r hr => ?_⟩
  have good := h.good r hr
  have hrow := (shelfE_mem hz).2 r.rw (List.mem_map.2 ⟨r, hr, rfl⟩)
  refine ⟨⟨⟨?_, good.bs.sl.le, good.bs.sl.max, good.bs.sl.nil⟩, fun x hx => ?_⟩, ⟨?_, good.hd.le, good.hd.max, good.hd.nil⟩, good.few, good.hfew⟩
  · by_cases hb : r.bs = []
    · rw [hb]; exact .inl rfl
    · obtain ⟨y, q, hy⟩ := List.exists_cons_of_ne_nil hb
      exact good.bs.sl.row.off hg (good.bs.sl.row.offLong B (by rw [hy]; simp [Lb.cells]))
  · have gx := good.bs.good x hx
    have hp : ptsE x.b = 0 := blksE_mem (rowE_zero hrow).2.1 x.b (List.mem_map.2 ⟨x, hx, rfl⟩)
    have h8 := bits_eight hp
    exact ⟨gx.bits.off hg (gx.bits.row.offLong B (by rw [List.length_map]; simp only [List.length_cons, List.length_nil]; omega)), gx.few⟩
  · by_cases hb : r.hd = []
    · rw [hb]; exact .inl rfl
    · obtain ⟨y, q, hy⟩ := List.exists_cons_of_ne_nil hb
      exact good.hd.row.off hg (good.hd.row.offLong B (by rw [hy, cellsP_length]; simp only [List.length_cons, List.length_nil]; omega))

/-- A right world stays while a box of one cell, that is no byte, is written. -/
theorem IsW.one {w w' : World} {p : Pw} {x : Wd} {g : Nat} {c : Value} {t : TypeId} (k : IsW w p x) (h : wdE x = 0) (B : Blk w g [c] t) (hc : ∀ n, c ≠ .int .u8 n) (hg : w.grownBy w' (some g)) : IsW w' p x := by
  obtain ⟨rs, e, s⟩ := k.s.ex
  have hz : shelfE (rs.map Lr.rw) = 0 := by rw [e]; exact right_shelf h
  refine ⟨k.es, k.e1, k.e2, k.er, ⟨rs, e, s.one hz B hg⟩, slU_off k.s1 B (fun n => by simp; exact fun q => hc n q.symm) hg, slU_off k.s2 B (fun n => by simp; exact fun q => hc n q.symm) hg, ?_⟩
  have r5 := (wd_right h).2.2.2.2.1
  have hr := k.r
  exact ⟨hr.row.off hg (hr.row.offLong B (by rw [List.length_map, r5]; simp)), hr.le, hr.max, hr.nil⟩

theorem few_jw {x : Wd} {p : Pw} {w : World} (I : IsW w p x) (h : wdE x = 0) : p.n1 + p.n2 ≤ 9223372036854775807 ∧ p.sn ≤ 140737488355328 := by
  obtain ⟨a, b, _⟩ := few_right I h
  omega

theorem c_versions {x : Wd} {p : Pw} {w : World} (J : JW x) (hg : Gl w) (I : IsW w p x) :
    Calls Tryz.prog 9 #[p.val x.up] w fun e w' => e = .returned (.tuple #[.int .i64 (verN x : Int), .int .i64 0]) ∧ Below w.heap.size w w' := by
  have c := versions_any x p w hg I (few_jw I J.1).1 (few_jw I J.1).2
  unfold verV at c
  rw [J.1, if_pos rfl] at c
  exact c

theorem c_at {x : Wd} {p : Pw} {w : World} (v s : Nat) (J : JW x) (hv : v ≤ verN x) (hs : s < 4) (hg : Gl w) (I : IsW w p x) :
    Calls Tryz.prog 10 #[p.val x.up, .int .i64 (v : Int), .int .i64 (s : Int)] w fun e w' => ∃ a n G, e = .returned (.tuple #[.slice a n G, .int .i64 0]) ∧ Hid (n = (atL x v s).length) ∧ SlP w' a G (atL x v s) ∧ Below w.heap.size w w' := by
  have c := at_any' x p v s w hg I (few_jw I J.1).1 (few_jw I J.1).2
  rw [(jw_at J hv hs).1] at c
  refine c.mono ?_
  rintro e w' ⟨a, n, G, rfl, hn, o, b⟩
  exact ⟨a, n, G, rfl, hn, slP_own' o, b⟩

theorem c_eqP {a1 a2 : Option Addr} {c1 c2 n m : Nat} {l : List Pt} {w : World} (hl : l.length ≤ 4611686018427387904) (r1 : SlP w a1 c1 l) (r2 : SlP w a2 c2 l) (hn : Hid (n = l.length)) (hm : Hid (m = l.length)) :
    Calls Tryz.prog 16 #[.slice a1 n c1, .slice a2 m c2] w fun e w' => e = .returned (.bool true) ∧ Below w.heap.size w w' := by
  obtain rfl := hn.out
  obtain rfl := hm.out
  refine (equalPt a1 a2 c1 c2 l l w r1 r2 hl hl).mono ?_
  rintro e w' ⟨rfl, q, rfl⟩
  exact ⟨by simp, belowDrewN (Below.refl _ _) q⟩

theorem atL_few (x : Wd) (v s : Int) : (atL x v s).length ≤ 40 := by
  unfold atL
  split
  · exact allL_len _ _
  · simp

end Go.Proofs.YtcjdpilmhlfmfaaGreatDoor

/-
  The closed fact 'told': two versions.
-/
namespace Go.Proofs.YtcjdpilmhlfmfaaGreatDoor
open Go.RowKit
open Go.Lib (byteCells)
set_option linter.unusedVariables false

def tdA : List Hp := [⟨1, 0, 0, [(0, 5, 0), (0, 6, 0)]⟩, ⟨2, 0, 2, []⟩, ⟨4, 0, 9, []⟩]
def td : Wd := (runW wdNew tdA).1
theorem td_a : (runW wdNew tdA).2 = [0, 0, 0] := by decide +kernel
theorem td_z : wdE td = 0 := by decide +kernel
theorem td_v : verV td = 3 := by decide +kernel
theorem td_2 : atE td 2 0 = 0 ∧ (atL td 2 0).length = 2 := by decide +kernel
theorem td_3 : atE td 3 0 = 0 ∧ (atL td 3 0).length = 0 := by decide +kernel
theorem td_4 : atE td 4 0 = 7 := by decide +kernel
theorem td_few : td.d.safe.length + td.d.wait.length ≤ 1000 ∧ td.c.length ≤ 1000 := by decide +kernel

theorem recLaidT (w : World) (l : List Lrc) (cs : Array Value) (hc : cs.toList = l.flatMap Lrc.cells) (t : TypeId) (n : Nat) (hn : n = w.heap.size) (cap : Nat) (hl : l.length = cap) (hm : cap ≤ 9223372036854775807) : SlW Lrc.cells (w.alloc (.cells cs t)) (some ⟨n, 0, none⟩) cap l := by
  have h := Row.laid w cs.toList t n hn
  rw [Array.toArray_toList, hc] at h
  exact ⟨h, by rw [hl]; exact Nat.le_refl _, hm, fun e => by cases e⟩

theorem ntLaid (w : World) (l : List Nt) (cs : Array Value) (hc : cs.toList = l.flatMap ec) (t : TypeId) (n : Nat) (hn : n = w.heap.size) (cap : Nat) (hl : l.length = cap) (hm : cap ≤ 9223372036854775807) : SlW ec (w.alloc (.cells cs t)) (some ⟨n, 0, none⟩) cap l := by
  have h := Row.laid w cs.toList t n hn
  rw [Array.toArray_toList, hc] at h
  exact ⟨h, by rw [hl]; exact Nat.le_refl _, hm, fun e => by cases e⟩

theorem td_run (p : Pw) (g g1 : Nat) (W : World) (gl : Gl W) (I : IsW W p wdNew) (S : SlRec W (some ⟨g, 0, none⟩) 3 [⟨⟨1, 0, 0, [(0, 5, 0), (0, 6, 0)]⟩, some ⟨g1, 0, none⟩, 2⟩, ⟨⟨2, 0, 2, []⟩, none, 0⟩, ⟨⟨4, 0, 9, []⟩, none, 0⟩]) :
    Calls Tryz.prog 42 #[p.val true, .slice (some ⟨g, 0, none⟩) 3 3] W (AnsRun W td [0, 0, 0] 0) := by
  have c := run_ok wdNew [⟨⟨1, 0, 0, [(0, 5, 0), (0, 6, 0)]⟩, some ⟨g1, 0, none⟩, 2⟩, ⟨⟨2, 0, 2, []⟩, none, 0⟩, ⟨⟨4, 0, 9, []⟩, none, 0⟩] p (some ⟨g, 0, none⟩) 3 3 W gl I wd_new S (hide rfl)
  rw [if_neg (by simp)] at c
  have e : (runW wdNew tdA).1 = td ∧ (runW wdNew tdA).2 = [0, 0, 0] := ⟨rfl, td_a⟩
  rw [← e.1, ← e.2]
  exact c

theorem td_sl (W : World) :
    SlRec ((W.alloc (.cells #[.int .i64 0, .int .i64 5, .int .i64 0, .int .i64 0, .int .i64 6, .int .i64 0] 68)).alloc (.cells #[.int .i64 1, .int .i64 0, .int .i64 0, .slice (some ⟨W.heap.size, 0, none⟩) 2 2, .int .i64 2, .int .i64 0, .int .i64 2, .slice none 0 0, .int .i64 4, .int .i64 0, .int .i64 9, .slice none 0 0] 69)) (some ⟨W.heap.size + 1, 0, none⟩) 3 [⟨⟨1, 0, 0, [(0, 5, 0), (0, 6, 0)]⟩, some ⟨W.heap.size, 0, none⟩, 2⟩, ⟨⟨2, 0, 2, []⟩, none, 0⟩, ⟨⟨4, 0, 9, []⟩, none, 0⟩] := by
  refine ⟨recLaidT _ _ _ (by rfl) _ _ (by simp) _ rfl (by decide), fun x hx => ?_⟩
  simp only [List.mem_cons, List.not_mem_nil, or_false] at hx
  rcases hx with rfl | rfl | rfl
  · exact (ntLaid W [(0, 5, 0), (0, 6, 0)] _ (by rfl) _ _ rfl _ rfl (by decide)).alloc _
  · exact SlW.ofNil ec _
  · exact SlW.ofNil ec _

set_option maxHeartbeats 4000000 in
set_option maxRecDepth 100000 in
theorem told_any (w : World) (hg : Gl w) : Calls Tryz.prog 12 #[] w fun e w' => e = .returned (.bool true) ∧ Below w.heap.size w w' := by
  obtain ⟨fw1, fw2⟩ := td_few
  have cV := fun p V g (i : IsW V p td) => versions_any td p V g i (by rw [i.e1, i.e2]; omega) (by rw [i.es]; omega)
  have cA2 := fun p V g (i : IsW V p td) => at_any' td p 2 0 V g i (by rw [i.e1, i.e2]; omega) (by rw [i.es]; omega)
  have cA3 := fun p V g (i : IsW V p td) => at_any' td p 3 0 V g i (by rw [i.e1, i.e2]; omega) (by rw [i.es]; omega)
  have cA4 := fun p V g (i : IsW V p td) => at_any' td p 4 0 V g i (by rw [i.e1, i.e2]; omega) (by rw [i.es]; omega)
  have cR := td_run
  rw [td_v, td_z] at cV
  rw [td_2.1] at cA2
  rw [td_3.1] at cA3
  rw [td_4] at cA4
  unfold AnsL at cA2 cA3 cA4
  unfold AnsRun at cR
  have h2 : (atL td 2 0).length = 2 := td_2.2
  have h3 : (atL td 3 0).length = 0 := td_3.2
  clear fw1 fw2
  generalize td = T at *
  generalize atL T 2 0 = A2 at *
  generalize atL T 3 0 = A3 at *
  generalize atL T 4 0 = A4 at *
  replace h2 := hide h2
  replace h3 := hide h3
  simp only [Pw.val] at cV cA2 cA3 cA4 cR
  go_enter Tryz.func12, Tryz.ntmps12
  go_wp2_with fail
  go_at_call 33
  refine (newW_any _).mono ?_
  rintro e w2 ⟨⟨ba, bn, bG, c1, bm1, bk1, c2, bm2, bk2, br, brn, brc⟩, rfl, I, bel⟩
  simp only [Pw.val]
  go_wp2_with fail
  go_at_call 42
  have bb := newB (newB (Below.refl w2.heap.size w2) (.cells #[.int .i64 0, .int .i64 5, .int .i64 0, .int .i64 0, .int .i64 6, .int .i64 0] 68)) (.cells #[.int .i64 1, .int .i64 0, .int .i64 0, .slice (some ⟨w2.heap.size, 0, none⟩) 2 2, .int .i64 2, .int .i64 0, .int .i64 2, .slice none 0 0, .int .i64 4, .int .i64 0, .int .i64 9, .slice none 0 0] 69)
  refine (cR ⟨ba, bn, bG, c1, bm1, bk1, c2, bm2, bk2, br, brn, brc⟩ _ _ _ (hg.call (belowCall bel bb)) (I.call bb) (td_sl w2)).mono ?_
  rintro e w3 ⟨⟨sa, sn, sG, a1, n1, d1, a2, n2, d2, ra, rn, rc⟩, ss, qn, qG, rfl, I2, hqn, RS, b0⟩
  have b1 := belowCall bb b0
  have b := newB b1 (.cells #[.slice sa sn sG, .slice a1 n1 d1, .slice a2 n2 d2, .bool T.up, .slice ra rn rc] 30)
  have BX := Blk.laid w3 [.slice sa sn sG, .slice a1 n1 d1, .slice a2 n2 d2, .bool T.up, .slice ra rn rc] 30 _ rfl
  replace I2 := I2.alloc (.cells #[.slice sa sn sG, .slice a1 n1 d1, .slice a2 n2 d2, .bool T.up, .slice ra rn rc] 30)
  replace bel := belowCall bel b
  clear b b1 b0 bb RS hqn I cR
  go_upto_region 2 with fail
  generalize w3.heap.size = gX at *
  generalize World.alloc w3 _ = w4 at *
  have x0 := BX.cell 0
  have x1 := BX.cell 1
  have x2 := BX.cell 2
  have x3 := BX.cell 3
  have x4 := BX.cell 4
  have xl := BX.lt
  go_wp2_with fail
  go_at_call 9
  refine (cV ⟨sa, sn, sG, a1, n1, d1, a2, n2, d2, ra, rn, rc⟩ _ (hg.call bel) I2).mono ?_
  rintro e w5 ⟨rfl, b⟩
  clear x0 x1 x2 x3 x4 xl
  replace BX := BX.keep b BX.lt
  replace I2 := I2.call b
  replace bel := belowCall bel b
  clear b
  have x0 := BX.cell 0
  have x1 := BX.cell 1
  have x2 := BX.cell 2
  have x3 := BX.cell 3
  have x4 := BX.cell 4
  have xl := BX.lt
  go_wp2_with fail
  go_at_call 10
  refine (cA2 ⟨sa, sn, sG, a1, n1, d1, a2, n2, d2, ra, rn, rc⟩ _ (hg.call bel) I2).mono ?_
  rintro e w6 ⟨l2, m2, G2, rfl, hm2, _, b⟩
  obtain rfl : m2 = 2 := hm2.out.trans h2.out
  clear x0 x1 x2 x3 x4 xl
  replace BX := BX.keep b BX.lt
  replace I2 := I2.call b
  replace bel := belowCall bel b
  clear b
  have x0 := BX.cell 0
  have x1 := BX.cell 1
  have x2 := BX.cell 2
  have x3 := BX.cell 3
  have x4 := BX.cell 4
  have xl := BX.lt
  go_wp2_with fail
  go_at_call 10
  refine (cA3 ⟨sa, sn, sG, a1, n1, d1, a2, n2, d2, ra, rn, rc⟩ _ (hg.call bel) I2).mono ?_
  rintro e w7 ⟨l3, m3, G3, rfl, hm3, _, b⟩
  obtain rfl : m3 = 0 := hm3.out.trans h3.out
  clear x0 x1 x2 x3 x4 xl
  replace BX := BX.keep b BX.lt
  replace I2 := I2.call b
  replace bel := belowCall bel b
  clear b
  have x0 := BX.cell 0
  have x1 := BX.cell 1
  have x2 := BX.cell 2
  have x3 := BX.cell 3
  have x4 := BX.cell 4
  have xl := BX.lt
  go_wp2_with fail
  go_at_call 10
  refine (cA4 ⟨sa, sn, sG, a1, n1, d1, a2, n2, d2, ra, rn, rc⟩ _ (hg.call bel) I2).mono ?_
  rintro e w8 ⟨l4, m4, G4, rfl, hm4, _, b⟩
  go_wp2_with fail
  go_ret
  exact ⟨rfl, belowCall bel b⟩

end Go.Proofs.YtcjdpilmhlfmfaaGreatDoor

/-
  'at' of the laws: a number brought within bounds; it touches no memory.
-/
namespace Go.Proofs.YtcjdpilmhlfmfaaGreatDoor
open Go.RowKit

/-- 'at': a number brought within bounds. -/
theorem at_any (k n : Int) (w : World) (hn : 1 ≤ n) (hn2 : n ≤ 1152921504606846976) :
    Calls Tryz.prog 17 #[.int .i64 k, .int .i64 n] w fun e w' => e = .returned (.int .i64 (k % n)) ∧ w = w' := by
  go_enter Tryz.func17, Tryz.ntmps17
  go_wp2
  · have h : k.tmod n < 0 := by assumption
    go_ret
    have e := tmod_up' hn h
    have b1 := Int.emod_nonneg k (show n ≠ 0 by omega)
    have b2 := Int.emod_lt_of_pos k (show 0 < n by omega)
    exact ⟨ret_int (by rw [e]; unfold wrap64; omega), rfl⟩
  · have h : 0 ≤ k.tmod n := by assumption
    go_ret
    exact ⟨ret_int (tmod_up hn h), rfl⟩

end Go.Proofs.YtcjdpilmhlfmfaaGreatDoor

/-
  StoryGrows: what its closure does at each moment; the walk.
-/
namespace Go.Proofs.YtcjdpilmhlfmfaaGreatDoor
open Go.RowKit
open Go.Lib (byteCells)
set_option linter.unusedVariables false

/-- The closure's boxes. -/
structure GI (b1 b2 b3 b4 b5 v s : Nat) (W : World) (x : Wd) : Prop where
  ex : ∃ (nn : Nat) (sn : Bool) (a : Option Addr) (n G : Nat), Blk W b1 [.int .i64 (nn : Int)] 3 ∧ Blk W b2 [.int .i64 (v : Int)] 3 ∧ Blk W b3 [.int .i64 (s : Int)] 3 ∧ Blk W b4 [.bool sn] 4 ∧ Blk W b5 [.slice a n G] 34 ∧ nn ≤ verN x ∧ (sn = true → v ≤ verN x ∧ Hid (n = (atL x v s).length) ∧ SlP W a G (atL x v s))

theorem Gq.set {Q : Nat → Prop} {w : World} {g : Nat} (hq : Q g) (i : Nat) (u : Value) : Gq Q w (w.setCell ⟨g, i, none⟩ u) :=
  have k := grownSet (grownRefl w (some g)) i u
  ⟨k.os, k.tape, k.output, k.size, fun j hj h1 => k.block j hj (fun e => h1 (by obtain rfl := Option.some.inj e; exact hq))⟩

set_option maxHeartbeats 8000000 in
set_option maxRecDepth 100000 in
theorem grows_step (b1 b2 b3 b4 b5 v s : Nat) (Q : Nat → Prop) (hq1 : Q b1) (hq4 : Q b4) (hq5 : Q b5) (h12 : b1 ≠ b2) (h13 : b1 ≠ b3) (h14 : b1 ≠ b4) (h15 : b1 ≠ b5) (h24 : b2 ≠ b4) (h25 : b2 ≠ b5) (h34 : b3 ≠ b4) (h35 : b3 ≠ b5) (h45 : b4 ≠ b5) (hs : s < 4)
    (W0 : World) (hg : Gl W0) (hQ : ∀ q, Q q → W0.heap.size ≤ q) (x z : Wd) (p : Pw) (V : World) (Jx : JW x) (Jz : JW z) (hM : ∃ M, recL z.d = recL x.d ++ M) (bel : Below W0.heap.size W0 V) (I : IsW V p z) (inv : GI b1 b2 b3 b4 b5 v s V x) :
    Calls Tryz.prog 19 #[p.val z.up, .pointer (some ⟨b1, 0, none⟩), .pointer (some ⟨b2, 0, none⟩), .pointer (some ⟨b3, 0, none⟩), .pointer (some ⟨b4, 0, none⟩), .pointer (some ⟨b5, 0, none⟩)] V fun e V' => e = .returned (.bool true) ∧ GI b1 b2 b3 b4 b5 v s V' z ∧ IsW V' p z ∧ Gq Q V V' := by
  obtain ⟨nn, sn', a, n, G, B1, B2, B3, B4, B5, hnn, hseen⟩ := inv.ex
  obtain ⟨M, hM⟩ := hM
  have hvx : verN x ≤ verN z := by unfold verN; rw [hM, List.length_append]; omega
  have cV := fun W g i => c_versions (x := z) (p := p) (w := W) Jz g i
  have cA := fun hv W g i => c_at (x := z) (p := p) (w := W) v s Jz hv hs g i
  have hseen2 : sn' = true → v ≤ verN z ∧ Hid (n = (atL z v s).length) ∧ SlP V a G (atL z v s) := by
    intro h
    obtain ⟨q1, q2, q3⟩ := hseen h
    rw [at_grow Jx Jz hM q1 hs]
    exact ⟨by omega, q2, q3⟩
  clear hseen hM inv
  have hmn : nn ≤ verN z := by omega
  obtain ⟨m, hm⟩ : ∃ m, m = verN z := ⟨_, rfl⟩
  rw [← hm] at cV cA hseen2 hmn
  have hAl : (atL z v s).length ≤ 4611686018427387904 := Nat.le_trans (atL_few _ _ _) (by decide)
  obtain ⟨P, hP⟩ : ∃ P, P = atL z v s := ⟨_, rfl⟩
  rw [← hP] at cA hseen2 hAl
  have hmI : ¬ (m : Int) < (nn : Int) := by omega
  have hwz := hide Jz.1
  have hGI : ∀ (V' : World) (nn' : Nat) (sn : Bool) (a : Option Addr) (n G : Nat), Blk V' b1 [.int .i64 (nn' : Int)] 3 → Blk V' b2 [.int .i64 (v : Int)] 3 → Blk V' b3 [.int .i64 (s : Int)] 3 → Blk V' b4 [.bool sn] 4 → Blk V' b5 [.slice a n G] 34 → nn' ≤ m → (sn = true → v ≤ m ∧ Hid (n = P.length) ∧ SlP V' a G P) → GI b1 b2 b3 b4 b5 v s V' z := by
    intro V' nn' sn a n G k1 k2 k3 k4 k5 k6 k7
    rw [hm] at k6 k7
    rw [hP] at k7
    exact ⟨nn', sn, a, n, G, k1, k2, k3, k4, k5, k6, k7⟩
  clear hm hP hnn hvx Jx Jz
  obtain ⟨U, hU⟩ : ∃ U, U = z.up := ⟨_, rfl⟩
  rw [← hU] at cV cA ⊢
  replace hU := hide hU
  obtain ⟨sa, sn, sG, a1, n1, c1, a2, n2, c2, ra, rn, rc⟩ := p
  simp only [Pw.val] at *
  have BX := Blk.laid V [.slice sa sn sG, .slice a1 n1 c1, .slice a2 n2 c2, .bool U, .slice ra rn rc] 30 _ rfl
  have b0 := newB (Below.refl V.heap.size V) (.cells #[.slice sa sn sG, .slice a1 n1 c1, .slice a2 n2 c2, .bool U, .slice ra rn rc] 30)
  have gq : Gq Q V _ := Gq.below b0
  have nX : ∀ q, q < V.heap.size → V.heap.size ≠ q := fun q h e => by omega
  have n1X := nX b1 B1.lt
  have n4X := nX b4 B4.lt
  have n5X := nX b5 B5.lt
  clear nX
  replace B1 := B1.keep b0 B1.lt
  replace B2 := B2.keep b0 B2.lt
  replace B3 := B3.keep b0 B3.lt
  replace B4 := B4.keep b0 B4.lt
  replace B5 := B5.keep b0 B5.lt
  replace I := I.call b0
  replace hseen2 := fun h => (hseen2 h).imp_right (fun q => And.imp_right (fun (k : SlP V a G P) => k.keep b0 (Nat.le_refl _)) q)
  clear b0
  go_enter Tryz.func19, Tryz.ntmps19
  go_upto_region 1 with fail
  generalize World.alloc V _ = w1 at *
  have x0 := BX.cell 0
  have x1 := BX.cell 1
  have x2 := BX.cell 2
  have x3 := BX.cell 3
  have x4 := BX.cell 4
  have xl := BX.lt
  have y1 := B1.cell 0
  have l1 := B1.lt
  have y2 := B2.cell 0
  have l2 := B2.lt
  have y3 := B3.cell 0
  have l3 := B3.lt
  have y4 := B4.cell 0
  have l4 := B4.lt
  have y5 := B5.cell 0
  have l5 := B5.lt
  go_wp2_with fail
  go_at_call 9
  refine (cV _ (hg.call (bel.trans (gq.from hQ bel.size))) I).mono ?_
  rintro e w2 ⟨rfl, b⟩
  clear x0 x1 x2 x3 x4 xl y1 l1 y2 l2 y3 l3 y4 l4 y5 l5
  replace BX := BX.keep b BX.lt
  replace B1 := B1.keep b B1.lt
  replace B2 := B2.keep b B2.lt
  replace B3 := B3.keep b B3.lt
  replace B4 := B4.keep b B4.lt
  replace B5 := B5.keep b B5.lt
  replace I := I.call b
  replace gq := gq.trans (Gq.below b)
  replace hseen2 := fun h => (hseen2 h).imp_right (fun q => And.imp_right (fun (k : SlP _ a G P) => k.keep b (Nat.le_refl _)) q)
  clear b
  have x0 := BX.cell 0
  have x1 := BX.cell 1
  have x2 := BX.cell 2
  have x3 := BX.cell 3
  have x4 := BX.cell 4
  have xl := BX.lt
  have y1 := B1.cell 0
  have l1 := B1.lt
  have y2 := B2.cell 0
  have l2 := B2.lt
  have y3 := B3.cell 0
  have l3 := B3.lt
  have y4 := B4.cell 0
  have l4 := B4.lt
  have y5 := B5.cell 0
  have l5 := B5.lt
  have f1 := B1.free 0
  have gr := grownSet (grownRefl w2 (some b1)) 0 (.int .i64 (m : Int))
  have I9 := I.one hwz.out B1 (by simp) gr
  have S9 : sn' = true → v ≤ m ∧ Hid (n = P.length) ∧ SlP (w2.setCell ⟨b1, 0, none⟩ (.int .i64 (m : Int))) a G P := fun h => ⟨(hseen2 h).1, (hseen2 h).2.1, slP_one (hseen2 h).2.2 B1 gr⟩
  have q1 := B1.set 0 (.int .i64 (m : Int))
  simp only [List.set_cons_zero] at q1
  have q2 := B2.other (g' := b1) 0 (.int .i64 (m : Int)) (by omega)
  have q3 := B3.other (g' := b1) 0 (.int .i64 (m : Int)) (by omega)
  have q4 := B4.other (g' := b1) 0 (.int .i64 (m : Int)) (by omega)
  have q5 := B5.other (g' := b1) 0 (.int .i64 (m : Int)) (by omega)
  have qX := BX.other (g' := b1) 0 (.int .i64 (m : Int)) (by omega)
  have gq9 := gq.trans (Gq.set hq1 0 (.int .i64 (m : Int)))
  replace q1 := hide q1
  replace q2 := hide q2
  replace q3 := hide q3
  replace q4 := hide q4
  replace q5 := hide q5
  replace qX := hide qX
  replace gq9 := hide gq9
  replace I9 := hide I9
  replace S9 := hide S9
  clear gr hseen2 I gq
  go_upto_region 5 with fail
  clear x0 x1 x2 x3 x4 xl y1 l1 y2 l2 y3 l3 y4 l4 y5 l5 f1
  clear B1 B2 B3 B4 B5 BX
  have B1 := q1.out
  have B2 := q2.out
  have B3 := q3.out
  have B4 := q4.out
  have B5 := q5.out
  have BX := qX.out
  have gq := gq9.out
  have I := I9.out
  have hseen2 := S9.out
  clear q1 q2 q3 q4 q5 qX gq9 I9 S9
  generalize World.setCell w2 _ _ = w3 at *
  have x0 := BX.cell 0
  have x1 := BX.cell 1
  have x2 := BX.cell 2
  have x3 := BX.cell 3
  have x4 := BX.cell 4
  have xl := BX.lt
  have y1 := B1.cell 0
  have l1 := B1.lt
  have y2 := B2.cell 0
  have l2 := B2.lt
  have y3 := B3.cell 0
  have l3 := B3.lt
  have y4 := B4.cell 0
  have l4 := B4.lt
  have y5 := B5.cell 0
  have l5 := B5.lt
  by_cases hmv : m < v
  · have hmvI : (m : Int) < (v : Int) := by omega
    go_wp2_with fail
    go_ret
    exact ⟨rfl, hGI w3 m sn' a n G B1 B2 B3 B4 B5 (Nat.le_refl _) (fun h => absurd (hseen2 h).1 (by omega)), I, gq⟩
  · have hmvI : ¬ (m : Int) < (v : Int) := by omega
    have hvm : v ≤ m := by omega
    go_wp2_with fail
    go_at_call 10
    refine (cA hvm _ (hg.call (bel.trans (gq.from hQ bel.size))) I).mono ?_
    rintro e w4 ⟨aN, nN, GN, rfl, hnN, SN, b⟩
    clear x0 x1 x2 x3 x4 xl y1 l1 y2 l2 y3 l3 y4 l4 y5 l5
    replace BX := BX.keep b BX.lt
    replace B1 := B1.keep b B1.lt
    replace B2 := B2.keep b B2.lt
    replace B3 := B3.keep b B3.lt
    replace B4 := B4.keep b B4.lt
    replace B5 := B5.keep b B5.lt
    replace I := I.call b
    replace gq := gq.trans (Gq.below b)
    replace hseen2 := fun h => (hseen2 h).imp_right (fun q => And.imp_right (fun (k : SlP _ a G P) => k.keep b (Nat.le_refl _)) q)
    clear b
    have x0 := BX.cell 0
    have x1 := BX.cell 1
    have x2 := BX.cell 2
    have x3 := BX.cell 3
    have x4 := BX.cell 4
    have xl := BX.lt
    have y1 := B1.cell 0
    have l1 := B1.lt
    have y2 := B2.cell 0
    have l2 := B2.lt
    have y3 := B3.cell 0
    have l3 := B3.lt
    have y4 := B4.cell 0
    have l4 := B4.lt
    have y5 := B5.cell 0
    have l5 := B5.lt
    have f4 := B4.free 0
    have f5 := B5.free 0
    cases sn' with
    | false =>
      clear hseen2
      have gr5 := grownSet (grownRefl w4 (some b5)) 0 (.slice aN nN GN)
      have I8 := I.one hwz.out B5 (by simp) gr5
      have S8 := slP_one SN B5 gr5
      have p4 := B4.other (g' := b5) 0 (.slice aN nN GN) (by omega)
      have gr4 := grownSet (grownRefl (w4.setCell ⟨b5, 0, none⟩ (.slice aN nN GN)) (some b4)) 0 (.bool true)
      have I9 := I8.one hwz.out p4 (by simp) gr4
      have S9 := slP_one S8 p4 gr4
      have q1 := (B1.other (g' := b5) 0 (.slice aN nN GN) (by omega)).other (g' := b4) 0 (.bool true) (by omega)
      have q2 := (B2.other (g' := b5) 0 (.slice aN nN GN) (by omega)).other (g' := b4) 0 (.bool true) (by omega)
      have q3 := (B3.other (g' := b5) 0 (.slice aN nN GN) (by omega)).other (g' := b4) 0 (.bool true) (by omega)
      have q5 := (B5.set 0 (.slice aN nN GN)).other (g' := b4) 0 (.bool true) (by omega)
      have q4 := p4.set 0 (.bool true)
      simp only [List.set_cons_zero] at q4 q5
      have gq9 := (gq.trans (Gq.set hq5 0 (.slice aN nN GN))).trans (Gq.set hq4 0 (.bool true))
      have fin := hide (And.intro (hGI _ m true aN nN GN q1 q2 q3 q4 q5 (Nat.le_refl _) (fun _ => ⟨hvm, hnN, S9⟩)) (And.intro I9 gq9))
      clear gr5 I8 S8 p4 gr4 I9 S9 q1 q2 q3 q4 q5 gq9 SN I gq B1 B2 B3 B4 B5 BX
      go_wp2_with fail
      go_ret
      exact ⟨rfl, fin.out⟩
    | true =>
      obtain ⟨_, hnA, SA⟩ := hseen2 rfl
      go_wp2_with fail
      go_at_call 16
      refine (c_eqP hAl SN SA hnN hnA).mono ?_
      rintro e w5 ⟨rfl, b⟩
      replace SN := SN.keep b (Nat.le_refl _)
      clear hseen2 SA hnA
      clear x0 x1 x2 x3 x4 xl y1 l1 y2 l2 y3 l3 y4 l4 y5 l5 f4 f5
      replace BX := BX.keep b BX.lt
      replace B1 := B1.keep b B1.lt
      replace B2 := B2.keep b B2.lt
      replace B3 := B3.keep b B3.lt
      replace B4 := B4.keep b B4.lt
      replace B5 := B5.keep b B5.lt
      replace I := I.call b
      replace gq := gq.trans (Gq.below b)
      clear b
      have x0 := BX.cell 0
      have x1 := BX.cell 1
      have x2 := BX.cell 2
      have x3 := BX.cell 3
      have x4 := BX.cell 4
      have xl := BX.lt
      have y1 := B1.cell 0
      have l1 := B1.lt
      have y2 := B2.cell 0
      have l2 := B2.lt
      have y3 := B3.cell 0
      have l3 := B3.lt
      have y4 := B4.cell 0
      have l4 := B4.lt
      have y5 := B5.cell 0
      have l5 := B5.lt
      have f4 := B4.free 0
      have f5 := B5.free 0
      have gr5 := grownSet (grownRefl w5 (some b5)) 0 (.slice aN nN GN)
      have I8 := I.one hwz.out B5 (by simp) gr5
      have S8 := slP_one SN B5 gr5
      have p4 := B4.other (g' := b5) 0 (.slice aN nN GN) (by omega)
      have gr4 := grownSet (grownRefl (w5.setCell ⟨b5, 0, none⟩ (.slice aN nN GN)) (some b4)) 0 (.bool true)
      have I9 := I8.one hwz.out p4 (by simp) gr4
      have S9 := slP_one S8 p4 gr4
      have q1 := (B1.other (g' := b5) 0 (.slice aN nN GN) (by omega)).other (g' := b4) 0 (.bool true) (by omega)
      have q2 := (B2.other (g' := b5) 0 (.slice aN nN GN) (by omega)).other (g' := b4) 0 (.bool true) (by omega)
      have q3 := (B3.other (g' := b5) 0 (.slice aN nN GN) (by omega)).other (g' := b4) 0 (.bool true) (by omega)
      have q5 := (B5.set 0 (.slice aN nN GN)).other (g' := b4) 0 (.bool true) (by omega)
      have q4 := p4.set 0 (.bool true)
      simp only [List.set_cons_zero] at q4 q5
      have gq9 := (gq.trans (Gq.set hq5 0 (.slice aN nN GN))).trans (Gq.set hq4 0 (.bool true))
      have fin := hide (And.intro (hGI _ m true aN nN GN q1 q2 q3 q4 q5 (Nat.le_refl _) (fun _ => ⟨hvm, hnN, S9⟩)) (And.intro I9 gq9))
      clear gr5 I8 S8 p4 gr4 I9 S9 q1 q2 q3 q4 q5 gq9 SN I gq B1 B2 B3 B4 B5 BX
      go_wp2_with fail
      go_ret
      exact ⟨rfl, fin.out⟩

end Go.Proofs.YtcjdpilmhlfmfaaGreatDoor

/-
  The walk of StoryGrows.
-/
namespace Go.Proofs.YtcjdpilmhlfmfaaGreatDoor
open Go.RowKit
open Go.Lib (byteCells)
set_option linter.unusedVariables false

theorem k_at' {k : Int} (n : Nat) (h0 : 0 < n) (hn : n ≤ 1000) : ∃ m : Nat, m < n ∧ ∀ V, Calls Tryz.prog 17 #[.int .i64 k, .int .i64 (n : Int)] V fun e w' => e = .returned (.int .i64 (m : Int)) ∧ V = w' := by
  have h1 := Int.emod_nonneg k (show (n : Int) ≠ 0 by omega)
  have h2 := Int.emod_lt_of_pos k (show 0 < (n : Int) by omega)
  refine ⟨(k % (n : Int)).toNat, by omega, fun V => ?_⟩
  rw [Int.toNat_of_nonneg h1]
  exact at_any k n V (by omega) (by omega)

theorem slP_offW {w w' : World} {a : Option Addr} {cap g : Nat} {l : List Pt} {a1 a2 a3 a4 : Option Addr} {n1 n2 n3 n4 c1 c2 c3 c4 : Nat} {u : Bool} {t : TypeId} (S : SlP w a cap l) (B : Blk w g [.slice a1 n1 c1, .slice a2 n2 c2, .slice a3 n3 c3, .bool u, .slice a4 n4 c4] t) (hg : w.grownBy w' (some g)) : SlP w' a cap l := by
  cases l with
  | nil => exact ⟨.inl rfl, S.le, S.max, S.nil⟩
  | cons b r => exact ⟨S.row.off hg (S.row.offKind B (i := 0) (v := .int .i64 b.1) rfl (by simp)), S.le, S.max, S.nil⟩

set_option maxHeartbeats 8000000 in
set_option maxRecDepth 100000 in
theorem grows_walk (W : World) (hg : Gl W) (l : List Lrc) (la : Option Addr) (lc ln : Nat) (S : SlRec W la lc l) (hl : ln = l.length) (v0 : Int) (_ : (Lit.int .i64 v0).wf = true) (s0 : Int) (_ : (Lit.int .i64 s0).wf = true) :
    Calls Tryz.prog 4 #[.slice la ln lc, .int .i64 v0, .int .i64 s0] W fun e w' => e = .returned (.bool true) ∧ Below W.heap.size W w' := by
  obtain ⟨s, hs, cS⟩ := k_at' (k := s0) 4 (by decide) (by decide)
  obtain ⟨v, hv, cV⟩ := k_at' (k := v0) 20 (by decide) (by decide)
  have BV := (Blk.laid W [.int .i64 v0] 3 _ rfl).alc (.cells #[.int .i64 s0] 3)
  have BS := Blk.laid (W.alloc (.cells #[.int .i64 v0] 3)) [.int .i64 s0] 3 (W.heap.size + 1) (by simp)
  have bel := newB (newB (Below.refl W.heap.size W) (.cells #[.int .i64 v0] 3)) (.cells #[.int .i64 s0] 3)
  obtain ⟨bS, hbS⟩ : ∃ bS, bS = W.heap.size + 1 := ⟨_, rfl⟩
  rw [← hbS] at BS
  have BV' := BV
  have hWV : W.heap.size ≤ W.heap.size := Nat.le_refl _
  have hWS : W.heap.size ≤ bS := by omega
  have hVS : W.heap.size ≠ bS := by omega
  clear BV
  replace hl := hide hl
  go_enter Tryz.func4, Tryz.ntmps4
  go_upto_region 1 with fail
  rw [← hbS]
  generalize World.alloc (World.alloc W _) _ = w1 at *
  clear hbS
  have kS : ∀ V, Below w1.heap.size w1 V → Calls Tryz.prog 17 #[.int .i64 s0, .int .i64 4] V fun e w' => e = .returned (.int .i64 (s : Int)) ∧ w'.cell? ⟨W.heap.size, 0, none⟩ = some (.int .i64 v0) ∧ w'.cell? ⟨bS, 0, none⟩ = some (.int .i64 s0) ∧ Below w1.heap.size w1 w' := by
    intro V hV
    refine (cS V).mono ?_
    rintro e w' ⟨rfl, rfl⟩
    exact ⟨rfl, (BV'.keep hV BV'.lt).cell 0, (BS.keep hV BS.lt).cell 0, hV⟩
  have kV : ∀ V, Below w1.heap.size w1 V → Calls Tryz.prog 17 #[.int .i64 v0, .int .i64 20] V fun e w' => e = .returned (.int .i64 (v : Int)) ∧ Blk w' W.heap.size [.int .i64 v0] 3 ∧ Blk w' bS [.int .i64 s0] 3 ∧ Hid (Below W.heap.size W w') := by
    intro V hV
    refine (cV V).mono ?_
    rintro e w' ⟨rfl, rfl⟩
    exact ⟨rfl, BV'.keep hV BV'.lt, BS.keep hV BS.lt, hide (belowCall bel hV)⟩
  have x0 : w1.cell? ⟨W.heap.size, 0, none⟩ = some (.int .i64 v0) := BV'.cell 0
  have y0 : w1.cell? ⟨bS, 0, none⟩ = some (.int .i64 s0) := BS.cell 0
  have xl := BV'.lt
  have yl := BS.lt
  have k00 : Below w1.heap.size w1 w1 := Below.refl _ _
  have k01 := belowDrew k00
  have k02 := belowDrew k01
  replace BV' := hide BV'
  replace BS := hide BS
  replace bel := hide bel
  go_cut [6] from 10 to 13 (fun s6 wx => s6 = .bool false ∧ Hid (Blk wx W.heap.size [.int .i64 (v : Int)] 3 ∧ Blk wx bS [.int .i64 (s : Int)] 3 ∧ Below W.heap.size W wx))
  case first =>
    go_region_with
      (first
        | (have zq := zA; go_at_call 17; refine (kV _ (by first | exact zq | exact belowDrew zq | exact belowDrew (belowDrew zq))).mono ?_; rintro e wB ⟨rfl, RV, RS, zB⟩; have x0 := RV.cell 0; have y0 := RS.cell 0; have xf := RV.free 0; have yf := RS.free 0; have xl := RV.lt; have yl := RS.lt)
        | (go_at_call 17; refine (kS _ (by first | exact k00 | exact k01 | exact k02)).mono ?_; rintro e wA ⟨rfl, m1, m2, zA⟩))
    all_goals (
      go_wp2_with fail
      go_meet
      case rel =>
        have q1 := (RV.other (g' := bS) 0 (.int .i64 (s : Int)) (by omega)).set 0 (.int .i64 (v : Int))
        have q2 := (RS.set 0 (.int .i64 (s : Int))).other (g' := W.heap.size) 0 (.int .i64 (v : Int)) (by omega)
        simp only [List.set_cons_zero] at q1 q2
        exact ⟨rfl, hide ⟨q1, q2, (zB.out.setCell (p := ⟨bS, 0, none⟩) hWS _).setCell (p := ⟨W.heap.size, 0, none⟩) hWV _⟩⟩)
  case rest =>
    obtain ⟨rfl, hc⟩ := hcut
    obtain ⟨RV, RS, bel9⟩ := hc.out
    clear hc kS kV x0 y0 xl yl k00 k01 k02 BV' BS bel
    rename World => w2
    have lV := RV.lt
    have lS := RS.lt
    -- the closure's boxes
    have A1 := Blk.laid w2 [.int .i64 0] 3 _ rfl
    have e1 := newB (Below.refl w2.heap.size w2) (.cells #[.int .i64 0] 3)
    have A5 := Blk.laid (w2.alloc (.cells #[.int .i64 0] 3)) [.slice none 0 0] 34 (w2.heap.size + 1) (by simp)
    have e5 := newB e1 (.cells #[.slice none 0 0] 34)
    have A4 := Blk.laid ((w2.alloc (.cells #[.int .i64 0] 3)).alloc (.cells #[.slice none 0 0] 34)) [.bool false] 4 (w2.heap.size + 1 + 1) (by simp)
    have e4 := newB e5 (.cells #[.bool false] 4)
    replace A1 := (A1.alc (.cells #[.slice none 0 0] 34)).alc (.cells #[.bool false] 4)
    replace A5 := A5.alc (.cells #[.bool false] 4)
    replace RV := RV.keep e4 RV.lt
    replace RS := RS.keep e4 RS.lt
    have bel := belowCall bel9 e4
    have hw2 := bel9.size
    clear bel9 e1 e5 e4
    obtain ⟨b4, hb4⟩ : ∃ b, b = w2.heap.size + 1 + 1 := ⟨_, rfl⟩
    obtain ⟨b5, hb5⟩ : ∃ b, b = w2.heap.size + 1 := ⟨_, rfl⟩
    rw [← hb4] at A4
    rw [← hb5] at A5
    go_upto_region 5 with fail
    rw [← hb4, ← hb5]
    generalize hb1 : w2.heap.size = b1 at *
    generalize World.alloc (World.alloc (World.alloc w2 _) _) _ = w3 at *
    have d14 : b1 ≠ b4 := by omega
    have d15 : b1 ≠ b5 := by omega
    have d45 : b4 ≠ b5 := by omega
    have dV1 : W.heap.size ≠ b1 := by omega
    have dV4 : W.heap.size ≠ b4 := by omega
    have dV5 : W.heap.size ≠ b5 := by omega
    have dS1 : bS ≠ b1 := by omega
    have dS4 : bS ≠ b4 := by omega
    have dS5 : bS ≠ b5 := by omega
    have g1 : W.heap.size ≤ b1 := by omega
    have g4 : W.heap.size ≤ b4 := by omega
    have g5 : W.heap.size ≤ b5 := by omega
    clear hb1 hb4 hb5
    go_wp2_with fail
    go_at_call 12
    refine (told_any _ (hg.call bel)).mono ?_
    rintro e w4 ⟨rfl, b⟩
    replace A1 := A1.keep b A1.lt
    replace A4 := A4.keep b A4.lt
    replace A5 := A5.keep b A5.lt
    replace RV := RV.keep b RV.lt
    replace RS := RS.keep b RS.lt
    replace bel := belowCall bel b
    clear b
    have i1 := A1.lt
    have i4 := A4.lt
    have i5 := A5.lt
    go_wp2_with fail
    go_at_call 18
    refine (played_StoryGrows b1 W.heap.size bS b4 b5 (fun q => q = b1 ∨ q = b4 ∨ q = b5) (GI b1 W.heap.size bS b4 b5 v s) W w4 hg bel l la lc ln S hl.out (fun q h => by rcases h with rfl | rfl | rfl <;> omega)
      (fun V V' x k hsz bb' => ?_) (fun V V' x g a1 a2 a3 a4 n1 n2 n3 n4 c1 c2 c3 c4 u k hgW BB gr => ?_) ⟨0, false, none, 0, 0, A1, RV, RS, A4, A5, Nat.zero_le _, fun h => by cases h⟩
      (fun x z p V Jx Jz hM bb hsz I inv => grows_step b1 W.heap.size bS b4 b5 v s _ (.inl rfl) (.inr (.inl rfl)) (.inr (.inr rfl)) (by omega) (by omega) (by omega) (by omega) (by omega) (by omega) (by omega) (by omega) (by omega) hs W hg (fun q h => by rcases h with rfl | rfl | rfl <;> omega) x z p V Jx Jz hM bb I inv)).mono ?_
    · obtain ⟨nn, sn, a, n, G, k1, k2, k3, k4, k5, k6, k7⟩ := k.ex
      have hm : ∀ {q : Nat} {cs : List Value} {t : TypeId}, Blk V q cs t → Blk V' q cs t := fun B => B.keep bb' B.lt
      exact ⟨nn, sn, a, n, G, hm k1, hm k2, hm k3, hm k4, hm k5, k6, fun h => ⟨(k7 h).1, (k7 h).2.1, (k7 h).2.2.keep bb' (Nat.le_refl _)⟩⟩
    · obtain ⟨nn, sn, a, n, G, k1, k2, k3, k4, k5, k6, k7⟩ := k.ex
      have hm : ∀ {q : Nat} {cs : List Value} {t : TypeId}, q < w4.heap.size → Blk V q cs t → Blk V' q cs t := fun hq B => (gr.block _ B.lt (fun e => by have := Option.some.inj e; omega)).trans B
      have lv := RV.lt
      have ls := RS.lt
      exact ⟨nn, sn, a, n, G, hm i1 k1, hm lv k2, hm ls k3, hm i4 k4, hm i5 k5, k6, fun h => ⟨(k7 h).1, (k7 h).2.1, slP_offW (k7 h).2.2 BB gr⟩⟩
    · rintro e w5 ⟨rfl, b⟩
      go_wp2_with fail
      go_ret
      exact ⟨rfl, b⟩

end Go.Proofs.YtcjdpilmhlfmfaaGreatDoor

/-
  Proved: for any list of happenings, any number, any number, StoryGrows returns true and leaves its arguments as they were: versions only grow, and what was there at one stays so, whenever the power goes. Conditions: the listed variables of Go's library start as the program's text lays them (tied by the card).
-/
namespace Go.Proofs.YtcjdpilmhlfmfaaGreatDoor.storyGrows
open Go.ChangeShapes Go.WideShapes Go.ChangeAt Go.RowKit Go.ChangeMaps
set_option linter.unusedVariables false

def laidL : List (String × DataW Unit) := Rows.storyGrowsRow.laid

set_option maxRecDepth 100000 in
theorem lifted (os : Os) (started : os.Started) (H : Type) (enc : TypeId × Value → H) :
    ReturnsInHanded {} Tryz.checked os 4 .any (fun w args => (Rows.storyGrowsSpec.pre enc Tryz.prog Tryz.f4 [] false w args ∧ laidMetH Tryz.prog laidL w) ∧ sizedMet enc Tryz.prog Tryz.f4 (OpenSpec.ofChange Rows.storyGrowsSpec) false w args)
      (Rows.storyGrowsSpec.post enc Tryz.prog Tryz.f4 false true false false) := by
  refine returns_both (C := Tryz.checked) (X := fun w _ => laidMetH Tryz.prog laidL w) (fun _ _ _ hh h => h.of_heap hh) own started (by kernel_rfl) Tryz.func4
    (ChangeSpec.witness_shaped (enc := enc) (C := Tryz.checked) (os := os) (X := fun w _ => laidMetH Tryz.prog laidL w) false (World.laidAll Tryz.prog os laidL) #[.slice none 0 0, .int .i64 0, .int .i64 0] 8 (World.laidAll_os _ _ _)
      (World.shaped_of_ZipB (by kernel_rfl) (by kernel_rfl)) (by kernel_rfl) (by kernel_rfl) (by kernel_rfl)
      (by rw [MakeChecks.laidMetH_plain _ _ _ (by kernel_rfl)]; exact laidMet_laidAll _ (by kernel_rfl) (by kernel_rfl))) ?_
  intro W base args ds gs before hval0 hW hsz0 hL hsh
  have hsz : (DataW.weightsEach Tryz.prog (Tryz.f4.params.toList ++ Rows.storyGrowsSpec.plain.varTypes Tryz.prog) (ds ++ gs)).all (· ≤ reachBytes) = true := hsz0
  have hval : ∀ (j : Nat) t v, Tryz.f4.params[j]? = some t → args[j]? = some v → Value.okWide Tryz.prog W .any base t v := hval0
  have hW' := hW
  obtain ⟨p, q, hA0, hV, rfl, hfz, hnd⟩ := hW
  have hA : DataW.TrodAll enc Tryz.prog W 0 (fun _ => true) true Tryz.f4.params.toList args.toList ds p := hA0
  rw [Tryz.params4] at hA hval hsz
  obtain ⟨v0, vs0, d0, ds0, p0, q0, hargs, rfl, rfl, h0, r0⟩ := trodAll_cons hA
  obtain ⟨v1, vs1, d1, ds1, p1, q1, rfl, rfl, rfl, h1, r1⟩ := trodAll_cons r0
  obtain ⟨v2, vs2, d2, ds2, p2, q2, rfl, rfl, rfl, h2, r2⟩ := trodAll_cons r1
  obtain ⟨rfl, rfl, rfl⟩ := trodAll_nil r2
  obtain rfl : args = #[v0, v1, v2] := by cases args; simp_all
  obtain ⟨rfl, rfl⟩ := trodVars_none hV
  have k0 := h0
  have lt0 : ∀ x ∈ p0, x.block < W.heap.size := by obtain ⟨m, hm⟩ := k0; exact DataW.trod_lt m _ _ _ hm
  obtain ⟨a0, len0, cap0, rfl⟩ := okWide_slice Tryz.underlying52 (hval 0 52 v0 rfl rfl)
  obtain ⟨l0, hl0, s0, _⟩ := open_haps h0 (rec_light (j := 0) hsz rfl rfl)
  obtain ⟨a1, rfl, rfl, rfl, w1⟩ := open_int Tryz.underlying3 (hval 1 3 v1 rfl rfl) h1
  obtain ⟨a2, rfl, rfl, rfl, w2⟩ := open_int Tryz.underlying3 (hval 2 3 v2 rfl rfl) h2
  rw [MakeChecks.laidMetH_plain _ _ _ (by kernel_rfl)] at hL
  have g := glob_of hL hsh
  refine (grows_walk W g l0 a0 cap0 len0 s0 hl0.symm a1 w1 a2 w2).mono fun e W' ⟨he, bel⟩ => ?_
  subst he
  exact ⟨_, rfl, _, _, _, [], _, [], hW', trodAll_mk1 (shut_bool Tryz.underlying4 _), (trodAll_cons_mk (Below.trod laidOut (by kernel_rfl) (of_decide_eq_true (by kernel_rfl)) k0 bel lt0) (trodAll_cons_mk (shut_int Tryz.underlying3 w1) (trodAll_cons_mk (shut_int Tryz.underlying3 w2) trodAll_mk0))), rfl, bel.frame _, fun h => by cases h⟩

theorem row_holds : Rows.StoryGrowsSaid :=
  OpenClaim.holds_of_wide 4 Tryz.f4 rfl rfl rfl rfl rfl rfl rfl ⟨rfl, rfl, rfl, rfl, rfl⟩ rfl rfl rfl rfl rfl (by kernel_rfl) Tryz.func4 (by kernel_rfl)
    (of_decide_eq_true (by kernel_rfl)) (by unfold Func.isWrapper; first | (rw [if_pos (by decide +kernel)]; kernel_rfl) | (rw [if_neg (by decide +kernel)]; exact ⟨rfl, rfl⟩))
    (fun os started H enc _ => lifted os started H enc)
end Go.Proofs.YtcjdpilmhlfmfaaGreatDoor.storyGrows
