/-
  slices.Grow of a nil slice and slices.Concat of two, at error numbers: the new row, in new memory.
-/
import Derived.Lib.AppendZeros
import Derived.Test.YtjjfgmcgonkicaaGreatDoorRows
import Derived.Test.YtjjfgmcgonkicaaGreatDoorCards
import Derived.Test.YtjjfgmcgonkicaaGreatDoorTie
import Derived.ProofKit
import Derived.ChangeMaps5
import Derived.LaidMore
import Derived.Stop.Joined
import Derived.SevenTiedAt
import Derived.Test.YtjjfgmcgonkicaaGreatDoorP39
import Derived.Test.YtjjfgmcgonkicaaGreatDoorP05
import Derived.Test.YtjjfgmcgonkicaaGreatDoorP43
import Derived.Test.YtjjfgmcgonkicaaGreatDoorP31
import Derived.Test.YtjjfgmcgonkicaaGreatDoorP40
import Derived.Test.YtjjfgmcgonkicaaGreatDoorP01
import Derived.Test.YtjjfgmcgonkicaaGreatDoorP35
namespace Go.Proofs.YtjjfgmcgonkicaaGreatDoor
open Go.RowKit

theorem grow_noneE (w : World) :
    Calls Tryz.prog 69 #[.slice none 0 0, .int .i64 0] w fun e w' => e = .returned (.slice none 0 0) ∧ w = w' := by
  go_enter Tryz.func69, Tryz.ntmps69
  go_wp2
  go_ret
  exact ⟨rfl, rfl⟩

theorem zeroCells_listE (z : Value) (n : Nat) : (Builtin.zeroCells #[z] n) = (List.replicate n z).toArray := by
  unfold Builtin.zeroCells
  apply Array.ext
  · simp
  · intro i h1 h2
    simp [Nat.mod_one]

set_option maxHeartbeats 1000000 in
set_option maxRecDepth 100000 in
theorem grow_someE (n : Nat) (w : World) (h0 : 0 < n) (hn : n ≤ 1000000) :
    Calls Tryz.prog 69 #[.slice none 0 0, .int .i64 n] w fun e w' => ∃ G, e = .returned (.slice (some ⟨w.heap.size, 0, none⟩) 0 G) ∧ n ≤ G ∧ G ≤ maxLen ∧ Blk w' w.heap.size (List.replicate G (.int .i64 0)) 34 ∧ Below w.heap.size w w' := by
  obtain ⟨i0, hi, hz0, hz1, hz2⟩ := info_parts infoErr
  have hrz := fun ty => Lib.run_append_nil_zeros (P := Tryz.prog) w 69 3 ty 34 i0 (.int .i64 0) .i64 .i64 Tryz.underlying69 Tryz.underlying3 hi hz0 n h0 (by omega) (by omega) (by rw [hz2]; omega)
  have hG1 : n ≤ grownCap w n 0 34 := grownCap_ge w _ _ _
  have hG2 : grownCap w n 0 34 ≤ maxLen := grownCap_le_maxLen w n 0 _ (by unfold maxLen; omega)
  generalize grownCap w n 0 34 = G at *
  have hG3 := hG2
  unfold maxLen at hG3
  go_enter Tryz.func69, Tryz.ntmps69
  go_wp2_with (at_builtin; refine Lib.wpList_append_run _ rfl _ _ _ _ rfl _ _ rfl rfl _ _ (hrz _) ?_)
  go_ret
  refine ⟨G, rfl, hG1, hG2, ?_, ?_⟩
  · have e : Builtin.zeroCells #[Value.int .i64 0] n ++ Builtin.zeroCells #[Value.int .i64 0] (G - n) = (List.replicate G (Value.int .i64 0)).toArray := by
      rw [zeroCells_listE, zeroCells_listE, List.append_toArray, List.replicate_append_replicate]
      congr 2
      omega
    have h := Blk.laid w (List.replicate G (Value.int .i64 0)) 34 _ rfl
    rw [← e] at h
    exact h
  · repeat (first | exact Below.refl _ _ | apply Below.drew | refine Below.alloc ?_ (by simp) _)

set_option maxHeartbeats 1000000 in
set_option maxRecDepth 100000 in
theorem concat_someE (B : Nat) (a1 a2 : Option Addr) (c1 c2 : Nat) (l1 l2 : List Value) (w : World) (e0 : w.cell? ⟨B, 0, none⟩ = some (.slice a1 l1.length c1)) (e1 : w.cell? ⟨B, 1, none⟩ = some (.slice a2 l2.length c2))
    (s1 : Sl w a1 c1 l1) (s2 : Sl w a2 c2 l2) (o1 : ∀ v ∈ l1, v.oneCell' = true) (o2 : ∀ v ∈ l2, v.oneCell' = true) (h0 : 0 < l1.length + l2.length) (hm : l1.length + l2.length ≤ 1000000) (hB : B < w.heap.size) :
    Calls Tryz.prog 34 #[.slice (some ⟨B, 0, none⟩) 2 2] w fun e w' => ∃ g G, e = .returned (.slice (some ⟨g, 0, none⟩) (l1.length + l2.length) G) ∧ Sl w' (some ⟨g, 0, none⟩) G (l1 ++ l2) ∧ Below w.heap.size w w' := by
  obtain ⟨i0, hi, hz0, hz1, hz2⟩ := info_parts infoErr
  go_enter Tryz.func34, Tryz.ntmps34
  go_wp2_with fail
  refine wp_loop_rounds 3 ?_
  rw [rounds_succ]
  go_wp2_with fail
  rw [rounds_succ]
  go_wp2_with fail
  rw [rounds_succ]
  go_wp2_with fail
  have hg := grow_someE (l1.length + l2.length) w h0 hm
  rw [Int.natCast_add] at hg
  refine hg.mono ?_
  rintro e w1 ⟨G, rfl, hG1, hG2, B0, bel⟩
  clear hg
  have f0 : w1.cell? ⟨B, 0, none⟩ = some (.slice a1 l1.length c1) := (bel.cell (p := ⟨B, 0, none⟩) hB).trans e0
  have f1 : w1.cell? ⟨B, 1, none⟩ = some (.slice a2 l2.length c2) := (bel.cell (p := ⟨B, 1, none⟩) hB).trans e1
  have t1 := s1.keep bel (Nat.le_refl _)
  have own0 : w1.ownsRow w.heap.size 34 1 (.slice (some ⟨w.heap.size, 0, none⟩) 0 G) 0 [] := by
    have h := ownOfBlk B0 w.heap.size (Nat.le_refl _) 0 (Nat.zero_le _) (by simpa using hG2)
    simpa using h
  have hlt := B0.lt
  clear e0 e1 B0
  have b1 : 0 + l1.length ≤ G := by omega
  have x1 := t1.src
  have y1 := t1.src0
  go_wp2_with fail
  refine wp_loop_rounds 3 ?_
  rw [rounds_succ]
  go_wp2_with (at_builtin; refine wpList_append_fits_any _ rfl (.tmp 31) (.tmp 32) 69 rfl w.heap.size 34 i0 1 Tryz.underlying69 hi hz1 w.heap.size 0 G [] rfl own0 a1 l1.length c1 l1 rfl (Nat.mul_one _).symm y1 x1 o1 b1 ?_)
  intro w2 own1 grow1
  have bel2 : Below w.heap.size w w2 := bel.grown grow1 (by omega) (fun k h => by cases h; exact Nat.le_refl _)
  have f2 : w2.cell? ⟨B, 1, none⟩ = some (.slice a2 l2.length c2) := grow1.cell f1 (by intro e; have h : B = w.heap.size := Option.some.inj e; omega)
  have t2 := s2.keep bel2 (Nat.le_refl _)
  have x2 := t2.src
  have y2 := t2.src0
  clear f0 f1 x1 y1 t1 own0 bel grow1 b1
  have b2 : l1.length + l2.length ≤ G := by omega
  go_wp2_with fail
  rw [rounds_succ]
  go_wp2_with (at_builtin; refine wpList_append_fits_any _ rfl (.tmp 31) (.tmp 32) 69 rfl w.heap.size 34 i0 1 Tryz.underlying69 hi hz1 w.heap.size l1.length G l1 rfl own1 a2 l2.length c2 l2 rfl (Nat.mul_one _).symm y2 x2 o2 b2 ?_)
  intro w3 own2 grow2
  have bel3 : Below w.heap.size w w3 := bel2.grown grow2 (bel2.size) (fun k h => by cases h; exact Nat.le_refl _)
  clear f2 x2 y2 t2 own1 bel2 grow2
  go_wp2_with fail
  rw [rounds_succ]
  go_wp2_with fail
  go_ret
  exact ⟨w.heap.size, G, rfl, (slOfOwn own2).1, bel3⟩

/-- Nothing behind a nil slice: nil. -/
theorem append_nothingE (w : World) (ty : TypeId) (ao : Option Addr) (c : Nat) :
    (Builtin.append_ #[69, 69] ty #[.slice none 0 0, .slice ao 0 c]).run Tryz.prog w = .ok (.slice none 0 0) w := by
  obtain ⟨i0, hi, hz0, hz1, hz2⟩ := info_parts infoErr
  cases ao with
  | none => simp [Builtin.append_, run_underlying Tryz.underlying69, sizeOf, typeInfo, hi, Builtin.lenOf, run_firstCells_none]
  | some a =>
    have hf := run_firstCells_some (P := Tryz.prog) w i0.size 0 a 0 c [] (by simp) (fun j v h => by simp at h)
    simp [Builtin.append_, run_underlying Tryz.underlying69, sizeOf, typeInfo, hi, Builtin.lenOf, hf]

set_option maxHeartbeats 1000000 in
set_option maxRecDepth 100000 in
theorem concat_noneE (B : Nat) (a1 a2 : Option Addr) (c1 c2 : Nat) (w : World) (e0 : w.cell? ⟨B, 0, none⟩ = some (.slice a1 0 c1)) (e1 : w.cell? ⟨B, 1, none⟩ = some (.slice a2 0 c2)) :
    Calls Tryz.prog 34 #[.slice (some ⟨B, 0, none⟩) 2 2] w fun e w' => e = .returned (.slice none 0 0) ∧ w = w' := by
  go_enter Tryz.func34, Tryz.ntmps34
  go_wp2_with fail
  refine wp_loop_rounds 3 ?_
  rw [rounds_succ]
  go_wp2_with fail
  rw [rounds_succ]
  go_wp2_with fail
  rw [rounds_succ]
  go_wp2_with (go_at_call 69; refine (grow_noneE _).mono ?_; rintro e w' ⟨rfl, rfl⟩)
  refine wp_loop_rounds 3 ?_
  rw [rounds_succ]
  go_wp2_with (at_builtin; refine Lib.wpList_append_run _ rfl _ _ _ _ rfl _ _ rfl rfl _ _ (append_nothingE _ _ _ _) ?_)
  rw [rounds_succ]
  go_wp2_with (at_builtin; refine Lib.wpList_append_run _ rfl _ _ _ _ rfl _ _ rfl rfl _ _ (append_nothingE _ _ _ _) ?_)
  rw [rounds_succ]
  go_wp2_with fail
  go_ret
  exact ⟨rfl, rfl⟩

/-- slices.Concat of two, whatever they are. -/
theorem concat_anyE (B : Nat) (a1 a2 : Option Addr) (c1 c2 : Nat) (l1 l2 : List Value) (w : World) (e0 : w.cell? ⟨B, 0, none⟩ = some (.slice a1 l1.length c1)) (e1 : w.cell? ⟨B, 1, none⟩ = some (.slice a2 l2.length c2))
    (s1 : Sl w a1 c1 l1) (s2 : Sl w a2 c2 l2) (o1 : ∀ v ∈ l1, v.oneCell' = true) (o2 : ∀ v ∈ l2, v.oneCell' = true) (hm : l1.length + l2.length ≤ 1000000) (hB : B < w.heap.size) :
    Calls Tryz.prog 34 #[.slice (some ⟨B, 0, none⟩) 2 2] w fun e w' => ∃ ao G, e = .returned (.slice ao (l1 ++ l2).length G) ∧ Sl w' ao G (l1 ++ l2) ∧ Below w.heap.size w w' := by
  rw [List.length_append]
  by_cases h0 : 0 < l1.length + l2.length
  · refine (concat_someE B a1 a2 c1 c2 l1 l2 w e0 e1 s1 s2 o1 o2 h0 hm hB).mono ?_
    rintro e w' ⟨g, G, he, hs, hb⟩
    exact ⟨_, G, he, hs, hb⟩
  · obtain rfl : l1 = [] := List.eq_nil_of_length_eq_zero (by omega)
    obtain rfl : l2 = [] := List.eq_nil_of_length_eq_zero (by omega)
    refine (concat_noneE B a1 a2 c1 c2 w e0 e1).mono ?_
    rintro e w' ⟨he, rfl⟩
    exact ⟨none, 0, he, Sl.ofNil _, Below.refl _ _⟩

end Go.Proofs.YtjjfgmcgonkicaaGreatDoor

/-
  The walk of WorldParts.
-/
namespace Go.Proofs.YtjjfgmcgonkicaaGreatDoor
open Go.RowKit
open Go.Lib (byteCells)

theorem SlRec.part {w : World} {a : Option Addr} {cap : Nat} {l : List Lrc} (h : SlRec w a cap l) (p : Nat) (hp : p ≤ l.length) : SlRec w (if cap = p then a else Option.map (fun x => x.add (p * 4)) a) (cap - p) (l.drop p) := by
  have r := h.row.part Lrc.four p l.length hp (Nat.le_refl _)
  rw [List.take_length] at r
  exact ⟨r, fun x hx => h.ent x (List.mem_of_mem_drop hx)⟩

theorem SlRec.front {w : World} {a : Option Addr} {cap : Nat} {l : List Lrc} (h : SlRec w a cap l) (p : Nat) : SlRec w a cap (l.take p) :=
  ⟨h.row.front Lrc.four p, fun x hx => h.ent x (List.mem_of_mem_take hx)⟩

theorem sameWd_self (x : Wd) : sameWd x x = true := by
  unfold sameWd
  rw [sameSh_self]
  simp

theorem runs_two (x : Wd) (L : List Hp) (M : Nat) : runW x L = ((runW (runW x (L.take M)).1 (L.drop M)).1, (runW x (L.take M)).2 ++ (runW (runW x (L.take M)).1 (L.drop M)).2) := by
  rw [← runW_append, List.take_append_drop]

theorem run_len : ∀ (l : List Hp) (x : Wd), (runW x l).2.length = l.length
  | [], _ => rfl
  | y :: l, x => by
    rw [runW_cons]
    split
    · simp [run_len l]
    · simp [run_len l]

theorem one_ints (l : List Int) : ∀ v ∈ l.map (Value.int .i64), v.oneCell' = true := by
  intro v hv
  obtain ⟨x, _, rfl⟩ := List.mem_map.1 hv
  rfl

theorem run_many {x : Wd} {l : List Lrc} {p : Pw} {la : Option Addr} {ln lc : Nat} {w : World} (h : wdE x = 0) (hm : 100 < l.length) (hln : ln = l.length) (hg : Gl w) (I : IsW w p x) (SL : SlRec w la lc l) :
    Calls Tryz.prog 32 #[p.val x.up, .slice la ln lc] w (AnsRun w wd0 [] 2) := by
  have c := run_ok x l p la ln lc w hg I h SL (hide hln)
  rw [if_pos hm] at c
  exact c

theorem run_few {x : Wd} {l : List Lrc} {p : Pw} {la : Option Addr} {ln lc : Nat} {w : World} (h : wdE x = 0) (hm : l.length ≤ 100) (hln : ln = l.length) (hg : Gl w) (I : IsW w p x) (SL : SlRec w la lc l) :
    Calls Tryz.prog 32 #[p.val x.up, .slice la ln lc] w (AnsRun w (runW x (l.map (fun r => hpOf r.r))).1 (runW x (l.map (fun r => hpOf r.r))).2 0) := by
  have c := run_ok x l p la ln lc w hg I h SL (hide hln)
  rw [if_neg (by omega)] at c
  exact c

theorem k_concatE {g n1 n2 c1 c2 : Nat} {a1 a2 : Option Addr} {w : World} (A B : List Int) (e0 : w.cell? ⟨g, 0, none⟩ = some (.slice a1 n1 c1)) (e1 : w.cell? ⟨g, 1, none⟩ = some (.slice a2 n2 c2)) (s1 : Sl w a1 c1 (A.map (Value.int .i64))) (s2 : Sl w a2 c2 (B.map (Value.int .i64))) (h1 : Hid (n1 = A.length)) (h2 : Hid (n2 = B.length)) (hm : A.length + B.length ≤ 1000) (hB : g < w.heap.size) :
    Calls Tryz.prog 34 #[.slice (some ⟨g, 0, none⟩) 2 2] w fun e w' => ∃ ao n G, e = .returned (.slice ao n G) ∧ Hid (n = (A ++ B).length) ∧ Sl w' ao G ((A ++ B).map (Value.int .i64)) ∧ Below w.heap.size w w' := by
  have q1 : n1 = (A.map (Value.int .i64)).length := by rw [List.length_map]; exact h1.out
  have q2 : n2 = (B.map (Value.int .i64)).length := by rw [List.length_map]; exact h2.out
  rw [q1] at e0
  rw [q2] at e1
  refine (concat_anyE g a1 a2 c1 c2 _ _ w e0 e1 s1 s2 (one_ints A) (one_ints B) (by rw [List.length_map, List.length_map]; omega) hB).mono ?_
  rintro e w' ⟨ao, G, rfl, s, b⟩
  rw [← List.map_append] at s ⊢
  exact ⟨ao, _, G, rfl, hide (List.length_map _), s, b⟩

theorem k_eqE {a1 a2 : Option Addr} {c1 c2 n m : Nat} {l : List Int} {w : World} (hl : l.length ≤ 1000) (r1 : Sl w a1 c1 (l.map (Value.int .i64))) (r2 : Sl w a2 c2 (l.map (Value.int .i64))) (hn : Hid (n = l.length)) (hm : Hid (m = l.length)) :
    Calls Tryz.prog 33 #[.slice a1 n c1, .slice a2 m c2] w fun e w' => e = .returned (.bool true) ∧ Below w.heap.size w w' := by
  obtain rfl := hn.out
  obtain rfl := hm.out
  refine (equalErrno a1 a2 c1 c2 l l w r1.row r2.row (by omega) (by omega)).mono ?_
  rintro e w' ⟨rfl, q, rfl⟩
  exact ⟨by simp, belowDrewN (Below.refl _ _) q⟩

/-- What a region that runs a script leaves: a box with the world, what was said, no error. -/
def RanAt (v : World) (Y : Wd) (A : List Int) (s1 s2 s3 : Value) (wx : World) : Prop :=
  ∃ (g : Nat) (q : Pw) (sa : Option Addr) (na Ga : Nat), s1 = .pointer (some ⟨g, 0, none⟩) ∧ s2 = .slice sa na Ga ∧ s3 = .int .i64 0 ∧ Blk wx g (q.cells Y.up) 30 ∧ IsW wx q Y ∧ Hid (na = A.length) ∧ Sl wx sa Ga (A.map (Value.int .i64)) ∧ Below v.heap.size v wx

theorem ran1 {v w' : World} {Y : Wd} {A : List Int} {a0 a1 a2 a3 sa : Option Addr} {n0 n1 n2 n3 G0 G1 G2 G3 na Ga : Nat} (I : IsW w' ⟨a0, n0, G0, a1, n1, G1, a2, n2, G2, a3, n3, G3⟩ Y) (hn : Hid (na = A.length)) (T : Sl w' sa Ga (A.map (Value.int .i64))) (b : Below v.heap.size v w') :
    RanAt v Y A (.pointer (some ⟨w'.heap.size, 0, none⟩)) (.slice sa na Ga) (.int .i64 0) (w'.alloc (.cells #[.slice a0 n0 G0, .slice a1 n1 G1, .slice a2 n2 G2, .bool Y.up, .slice a3 n3 G3] 30)) :=
  ⟨_, ⟨a0, n0, G0, a1, n1, G1, a2, n2, G2, a3, n3, G3⟩, sa, na, Ga, rfl, rfl, rfl, Blk.laid w' [.slice a0 n0 G0, .slice a1 n1 G1, .slice a2 n2 G2, .bool Y.up, .slice a3 n3 G3] _ _ rfl, I.alloc _, hn, T.alloc _, newB b _⟩

theorem ran2 {v w' : World} {Y : Wd} {A : List Int} {a0 a1 a2 a3 sa : Option Addr} {n0 n1 n2 n3 G0 G1 G2 G3 na Ga q : Nat} (hz : shelfE Y.c = 0) (I : IsW w' ⟨a0, n0, G0, a1, n1, G1, a2, n2, G2, a3, n3, G3⟩ Y) (hn : Hid (na = A.length)) (T : Sl w' sa Ga (A.map (Value.int .i64))) (b : Below v.heap.size v w') (hq : v.heap.size ≤ q)
    (R : Blk w' q [.slice none 0 0, .slice none 0 0, .slice none 0 0, .bool false, .slice none 0 0] 30) :
    RanAt v Y A (.pointer (some ⟨q, 0, none⟩)) (.slice sa na Ga) (.int .i64 0) (((((w'.setCell ⟨q, 0, none⟩ (.slice a0 n0 G0)).setCell ⟨q, 1, none⟩ (.slice a1 n1 G1)).setCell ⟨q, 2, none⟩ (.slice a2 n2 G2)).setCell ⟨q, 3, none⟩ (.bool Y.up)).setCell ⟨q, 4, none⟩ (.slice a3 n3 G3)) :=
  ⟨_, ⟨a0, n0, G0, a1, n1, G1, a2, n2, G2, a3, n3, G3⟩, sa, na, Ga, rfl, rfl, rfl, put5r R (.slice a0 n0 G0) (.slice a1 n1 G1) (.slice a2 n2 G2) (.bool Y.up) (.slice a3 n3 G3), I.boxW hz R (gbPut5 _ _ _ _ _), hn, slI_off T R (by simp) (gbPut5 _ _ _ _ _), below5r b hq _ _ _ _ _⟩

set_option maxHeartbeats 8000000 in
set_option maxRecDepth 100000 in
theorem parts_walk (W : World) (hg : Gl W) (x : Wd) (p : Pw) (I : IsW W p x) (few : p.n1 + p.n2 ≤ 9223372036854775807) (fewS : p.sn ≤ 140737488355328) (_ : p.rn ≤ 140737488355328) (l : List Lrc) (la : Option Addr) (lc ln : Nat) (S : SlRec W la lc l) (hl : ln = l.length) (k : Int) (_ : (Lit.int .i64 k).wf = true) :
    Calls Tryz.prog 9 #[p.val x.up, .slice la ln lc, .int .i64 k] W fun e w' => e = .returned (.bool true) ∧ Below W.heap.size W w' := by
  by_cases hx : wdE x = 0
  · by_cases h100 : 100 < l.length
    · have c1 := fun V g i s => run_many (x := x) (l := l) (p := p) (la := la) (ln := ln) (lc := lc) (w := V) hx h100 hl g i s
      unfold AnsRun at c1
      obtain ⟨X1, hX1⟩ : ∃ X1, X1 = wd0 := ⟨_, rfl⟩
      rw [← hX1] at c1
      clear hX1
      obtain ⟨U, hU⟩ : ∃ U, U = x.up := ⟨_, rfl⟩
      rw [← hU] at c1 ⊢
      obtain ⟨sa, sn, sG, a1, n1, c1', a2, n2, c2', ra, rn, rc⟩ := p
      simp only [Pw.val] at *
      have BX := Blk.laid W [.slice sa sn sG, .slice a1 n1 c1', .slice a2 n2 c2', .bool U, .slice ra rn rc] 30 _ rfl
      have bel := newB (Below.refl W.heap.size W) (.cells #[.slice sa sn sG, .slice a1 n1 c1', .slice a2 n2 c2', .bool U, .slice ra rn rc] 30)
      replace I := I.alloc (.cells #[.slice sa sn sG, .slice a1 n1 c1', .slice a2 n2 c2', .bool U, .slice ra rn rc] 30)
      replace S := S.call (newB (Below.refl W.heap.size W) (.cells #[.slice sa sn sG, .slice a1 n1 c1', .slice a2 n2 c2', .bool U, .slice ra rn rc] 30))
      clear few fewS hU
      try clear hl
      go_enter Tryz.func9, Tryz.ntmps9
      go_upto_region 1 with fail
      generalize World.alloc W _ = w1 at *
      have x0 := BX.cell 0
      have x1 := BX.cell 1
      have x2 := BX.cell 2
      have x3 := BX.cell 3
      have x4 := BX.cell 4
      have xl := BX.lt
      go_wp2_with fail
      go_at_call 32
      refine (c1 _ (hg.call bel) I S).mono ?_
      rintro e w2 ⟨⟨ba, bn, bG, b1, bm1, bk1, b2, bm2, bk2, br, brn, brc⟩, sq, nq, Gq, rfl, I2, hq, tq, b0⟩
      have b := newB b0 (.cells #[.slice ba bn bG, .slice b1 bm1 bk1, .slice b2 bm2 bk2, .bool X1.up, .slice br brn brc] 30)
      have BY := Blk.laid w2 [.slice ba bn bG, .slice b1 bm1 bk1, .slice b2 bm2 bk2, .bool X1.up, .slice br brn brc] 30 _ rfl
      replace I2 := I2.alloc (.cells #[.slice ba bn bG, .slice b1 bm1 bk1, .slice b2 bm2 bk2, .bool X1.up, .slice br brn brc] 30)
      clear b0
      replace tq := tq.call (newB (Below.refl _ _) (.cells #[.slice ba bn bG, .slice b1 bm1 bk1, .slice b2 bm2 bk2, .bool X1.up, .slice br brn brc] 30))
      clear x0 x1 x2 x3 x4 xl
      replace BX := BX.keep b BX.lt
      replace I := I.call b
      replace S := S.call b
      replace bel := belowCall bel b
      clear b
      have x0 := BX.cell 0
      have x1 := BX.cell 1
      have x2 := BX.cell 2
      have x3 := BX.cell 3
      have x4 := BX.cell 4
      have xl := BX.lt
      go_upto_region 2 with fail
      generalize w2.heap.size = gBY at *
      generalize World.alloc w2 _ = w3 at *
      have y0 := BY.cell 0
      have y1 := BY.cell 1
      have y2 := BY.cell 2
      have y3 := BY.cell 3
      have y4 := BY.cell 4
      have yl := BY.lt
      go_wp2_with fail
      go_at_call 13
      refine (watched_any _ (hg.call bel)).mono ?_
      rintro e w4 ⟨rfl, b⟩
      clear x0 x1 x2 x3 x4 xl y0 y1 y2 y3 y4 yl
      replace BX := BX.keep b BX.lt
      replace BY := BY.keep b BY.lt
      replace I := I.call b
      replace S := S.call b
      replace I2 := I2.call b
      replace tq := tq.call b
      replace bel := belowCall bel b
      clear b
      have x0 := BX.cell 0
      have x1 := BX.cell 1
      have x2 := BX.cell 2
      have x3 := BX.cell 3
      have x4 := BX.cell 4
      have xl := BX.lt
      have y0 := BY.cell 0
      have y1 := BY.cell 1
      have y2 := BY.cell 2
      have y3 := BY.cell 3
      have y4 := BY.cell 4
      have yl := BY.lt
      go_wp2_with fail
      go_at_call 13
      refine (watched_any _ (hg.call bel)).mono ?_
      rintro e w5 ⟨rfl, b⟩
      go_wp2_with fail
      go_ret
      exact ⟨rfl, belowCall bel b⟩
    · have c1 := fun V g i s => run_few (x := x) (l := l) (p := p) (la := la) (ln := ln) (lc := lc) (w := V) hx (by omega) hl g i s
      unfold AnsRun at c1
      have hln : ln ≤ 100 := by omega
      have hlc : ln ≤ lc := by rw [hl]; exact S.row.le
      have hlm : lc ≤ 9223372036854775807 := S.row.max
      obtain ⟨M, hK⟩ : ∃ M : Nat, k % ((ln : Int) + 1) = (M : Int) := ⟨(k % ((ln : Int) + 1)).toNat, (Int.toNat_of_nonneg (Int.emod_nonneg _ (by omega))).symm⟩
      have hMn : M ≤ ln := by have := Int.emod_lt_of_pos k (show 0 < (ln : Int) + 1 by omega); omega
      have cA := fun W => at_any k ((ln : Int) + 1) W (by omega) (by omega)
      rw [hK] at cA
      have hMl : M ≤ l.length := by omega
      have hM0 : (0 : Int) ≤ (M : Int) := by omega
      have hM1 : (M : Int) ≤ (lc : Int) := by omega
      have hM2 : (M : Int) ≤ (ln : Int) := by omega
      have c2 := fun V g i s => run_few (x := x) (l := l.take M) (p := p) (la := la) (ln := M) (lc := lc) (w := V) hx (by rw [List.length_take]; omega) (by rw [List.length_take]; omega) g i s
      rw [List.map_take] at c2
      unfold AnsRun at c2
      have hY := run_right ((l.map (fun r => hpOf r.r)).take M) x hx
      have c3 := fun p V g i s => run_few (x := (runW x ((l.map (fun r => hpOf r.r)).take M)).1) (l := l.drop M) (p := p) (la := (if lc = M then la else Option.map (fun x => x.add (M * 4)) la)) (ln := ln - M) (lc := lc - M) (w := V) hY (by rw [List.length_drop]; omega) (by rw [List.length_drop]; omega) g i s
      rw [List.map_drop] at c3
      unfold AnsRun at c3
      have hR := runs_two x (l.map (fun r => hpOf r.r)) M
      have r1 := run_len (l.map (fun r => hpOf r.r)) x
      have r2 := run_len ((l.map (fun r => hpOf r.r)).take M) x
      have r3 := run_len ((l.map (fun r => hpOf r.r)).drop M) (runW x ((l.map (fun r => hpOf r.r)).take M)).1
      rw [List.length_take, List.length_map] at r2
      rw [List.length_drop, List.length_map] at r3
      rw [List.length_map] at r1
      have hXr := run_right (l.map (fun r => hpOf r.r)) x hx
      rw [hR] at c1 hXr r1
      simp only at c1 hXr r1
      generalize runW x ((l.map (fun r => hpOf r.r)).take M) = A at *
      generalize runW A.1 ((l.map (fun r => hpOf r.r)).drop M) = B at *
      obtain ⟨Y, A⟩ := A
      obtain ⟨X1, B⟩ := B
      simp only at *
      have fA : A.length + B.length ≤ 100 := by omega
      obtain ⟨_, _, _, _, q5, _⟩ := wd_right hXr
      have q6 := right_len (right_shelf hXr)
      have cW := fun p q V i j => wsame_any X1 X1 p q V i j (by rw [q6]; decide) (by rw [q5]; decide) (by rw [q5]; decide)
      rw [sameWd_self] at cW
      have hYr := hide (right_shelf hY)
      have hXs := hide (right_shelf hXr)
      clear hR r1 r2 r3 hXr hY q5 q6 h100 hx hK hl
      by_cases hcM : lc = M
      · have hcM2 := hcM.symm
        rw [if_pos hcM] at c3
        have S3 := fun V (s : SlRec V la lc l) => s.part M hMl
        rw [if_pos hcM] at S3
        clear hcM
        subst hcM2
        have h0 : ln - M = 0 := by omega
        rw [Nat.sub_self, h0] at c3
        rw [Nat.sub_self] at S3
        clear h0
        obtain ⟨U, hU⟩ : ∃ U, U = x.up := ⟨_, rfl⟩
        rw [← hU] at c1 c2 ⊢
        obtain ⟨sa, sn, sG, a1, n1, c1', a2, n2, c2', ra, rn, rc⟩ := p
        simp only [Pw.val] at *
        have BX := Blk.laid W [.slice sa sn sG, .slice a1 n1 c1', .slice a2 n2 c2', .bool U, .slice ra rn rc] 30 _ rfl
        have bel := newB (Below.refl W.heap.size W) (.cells #[.slice sa sn sG, .slice a1 n1 c1', .slice a2 n2 c2', .bool U, .slice ra rn rc] 30)
        replace I := I.alloc (.cells #[.slice sa sn sG, .slice a1 n1 c1', .slice a2 n2 c2', .bool U, .slice ra rn rc] 30)
        replace S := S.call (newB (Below.refl W.heap.size W) (.cells #[.slice sa sn sG, .slice a1 n1 c1', .slice a2 n2 c2', .bool U, .slice ra rn rc] 30))
        clear few fewS hU
        try clear hl
        go_enter Tryz.func9, Tryz.ntmps9
        go_upto_region 1 with fail
        generalize World.alloc W _ = w1 at *
        have x0 := BX.cell 0
        have x1 := BX.cell 1
        have x2 := BX.cell 2
        have x3 := BX.cell 3
        have x4 := BX.cell 4
        have xl := BX.lt
        go_wp2_with fail
        go_at_call 32
        refine (c1 _ (hg.call bel) I S).mono ?_
        rintro e w2 ⟨⟨ba, bn, bG, b1, bm1, bk1, b2, bm2, bk2, br, brn, brc⟩, sq, nq, Gq, rfl, I2, hq, tq, b0⟩
        have b := newB b0 (.cells #[.slice ba bn bG, .slice b1 bm1 bk1, .slice b2 bm2 bk2, .bool X1.up, .slice br brn brc] 30)
        have BY := Blk.laid w2 [.slice ba bn bG, .slice b1 bm1 bk1, .slice b2 bm2 bk2, .bool X1.up, .slice br brn brc] 30 _ rfl
        replace I2 := I2.alloc (.cells #[.slice ba bn bG, .slice b1 bm1 bk1, .slice b2 bm2 bk2, .bool X1.up, .slice br brn brc] 30)
        clear b0
        replace tq := tq.call (newB (Below.refl _ _) (.cells #[.slice ba bn bG, .slice b1 bm1 bk1, .slice b2 bm2 bk2, .bool X1.up, .slice br brn brc] 30))
        clear x0 x1 x2 x3 x4 xl
        replace BX := BX.keep b BX.lt
        replace I := I.call b
        replace S := S.call b
        replace bel := belowCall bel b
        clear b
        have x0 := BX.cell 0
        have x1 := BX.cell 1
        have x2 := BX.cell 2
        have x3 := BX.cell 3
        have x4 := BX.cell 4
        have xl := BX.lt
        go_upto_region 2 with fail
        generalize w2.heap.size = gBY at *
        generalize World.alloc w2 _ = w3 at *
        have y0 := BY.cell 0
        have y1 := BY.cell 1
        have y2 := BY.cell 2
        have y3 := BY.cell 3
        have y4 := BY.cell 4
        have yl := BY.lt
        go_wp2_with fail
        go_at_call 13
        refine (watched_any _ (hg.call bel)).mono ?_
        rintro e w4 ⟨rfl, b⟩
        clear x0 x1 x2 x3 x4 xl y0 y1 y2 y3 y4 yl
        replace BX := BX.keep b BX.lt
        replace BY := BY.keep b BY.lt
        replace I := I.call b
        replace S := S.call b
        replace I2 := I2.call b
        replace tq := tq.call b
        replace bel := belowCall bel b
        clear b
        have x0 := BX.cell 0
        have x1 := BX.cell 1
        have x2 := BX.cell 2
        have x3 := BX.cell 3
        have x4 := BX.cell 4
        have xl := BX.lt
        have y0 := BY.cell 0
        have y1 := BY.cell 1
        have y2 := BY.cell 2
        have y3 := BY.cell 3
        have y4 := BY.cell 4
        have yl := BY.lt
        go_wp2_with fail
        go_at_call 30
        refine (cA _).mono ?_
        rintro e w5 ⟨rfl, rfl⟩
        go_upto_region 5 with fail
        have cells : ∀ V', Below w4.heap.size w4 V' → V'.cell? ⟨W.heap.size, 0, none⟩ = some (.slice sa sn sG) ∧ V'.cell? ⟨W.heap.size, 1, none⟩ = some (.slice a1 n1 c1') ∧ V'.cell? ⟨W.heap.size, 2, none⟩ = some (.slice a2 n2 c2') ∧ V'.cell? ⟨W.heap.size, 3, none⟩ = some (.bool U) ∧ V'.cell? ⟨W.heap.size, 4, none⟩ = some (.slice ra rn rc) := fun V' hV => ⟨(BX.keep hV BX.lt).cell 0, (BX.keep hV BX.lt).cell 1, (BX.keep hV BX.lt).cell 2, (BX.keep hV BX.lt).cell 3, (BX.keep hV BX.lt).cell 4⟩
        have kR : ∀ V, Below w4.heap.size w4 V → Calls Tryz.prog 32 #[.agg #[.slice sa sn sG, .slice a1 n1 c1', .slice a2 n2 c2', .bool U, .slice ra rn rc], .slice la M M] V fun e w' => ∃ (a0x : Option Addr) (n0x G0x : Nat) (a1x : Option Addr) (n1x G1x : Nat) (a2x : Option Addr) (n2x G2x : Nat) (a3x : Option Addr) (n3x G3x : Nat) (sax : Option Addr) (nax Gax : Nat), e = .returned (.tuple #[.agg #[.slice a0x n0x G0x, .slice a1x n1x G1x, .slice a2x n2x G2x, .bool Y.up, .slice a3x n3x G3x], .slice sax nax Gax, .int .i64 0]) ∧
            w'.cell? ⟨W.heap.size, 0, none⟩ = some (.slice sa sn sG) ∧ w'.cell? ⟨W.heap.size, 1, none⟩ = some (.slice a1 n1 c1') ∧ w'.cell? ⟨W.heap.size, 2, none⟩ = some (.slice a2 n2 c2') ∧ w'.cell? ⟨W.heap.size, 3, none⟩ = some (.bool U) ∧ w'.cell? ⟨W.heap.size, 4, none⟩ = some (.slice ra rn rc) ∧ Hid (IsW w' ⟨a0x, n0x, G0x, a1x, n1x, G1x, a2x, n2x, G2x, a3x, n3x, G3x⟩ Y ∧ Hid (nax = A.length) ∧ Sl w' sax Gax (A.map (Value.int .i64))) ∧ Below V.heap.size V w' ∧ Below w4.heap.size w4 w' := by
          intro V hV
          refine (c2 _ (hg.call (belowCall bel hV)) (I.call hV) ((S.call hV).front M)).mono ?_
          rintro e w' ⟨⟨a0x, n0x, G0x, a1x, n1x, G1x, a2x, n2x, G2x, a3x, n3x, G3x⟩, sax, nax, Gax, rfl, i, hn, t, b⟩
          obtain ⟨q0, q1, q2, q3, q4⟩ := cells w' (belowCall hV b)
          exact ⟨a0x, n0x, G0x, a1x, n1x, G1x, a2x, n2x, G2x, a3x, n3x, G3x, sax, nax, Gax, rfl, q0, q1, q2, q3, q4, hide ⟨i, hn, t⟩, b, belowCall hV b⟩
        have k0 : Below w4.heap.size w4 w4.drew := belowDrew (Below.refl _ _)
        have nn0 : ¬ W.heap.size = w4.heap.size := Nat.ne_of_lt BX.lt
        have nn0' : ¬ w4.heap.size = W.heap.size := fun e => nn0 e.symm
        have lq := BX.lt
        have Q2 : Blk (w4.alloc (.cells #[.slice none 0 0, .slice none 0 0, .slice none 0 0, .bool false, .slice none 0 0] 30)).drew w4.heap.size [.slice none 0 0, .slice none 0 0, .slice none 0 0, .bool false, .slice none 0 0] 30 := Blk.laid w4 [.slice none 0 0, .slice none 0 0, .slice none 0 0, .bool false, .slice none 0 0] _ _ rfl
        replace BX := hide BX
        replace BY := hide BY
        replace I := hide I
        replace S := hide S
        replace I2 := hide I2
        replace tq := hide tq
        replace bel := hide bel
        replace cells := hide cells
        go_cut [10, 11, 9] from 34 to 42 (fun s10 s11 s9 wx => RanAt w4 Y A s10 s11 s9 wx)
        case first =>
          go_region_held3 (fun w' => w'.cell? ⟨W.heap.size, 0, none⟩ = some (.slice sa sn sG) ∧ w'.cell? ⟨W.heap.size, 1, none⟩ = some (.slice a1 n1 c1') ∧ w'.cell? ⟨W.heap.size, 2, none⟩ = some (.slice a2 n2 c2') ∧ w'.cell? ⟨W.heap.size, 3, none⟩ = some (.bool U) ∧ w'.cell? ⟨W.heap.size, 4, none⟩ = some (.slice ra rn rc)) (go_keep)
            (first
              | (go_at_call 32; refine (kR _ (by first | exact k0 | exact belowDrew (newB (Below.refl _ _) _))).mono ?_; rintro e w4 ⟨a0', n0', G0', a1', n1', G1', a2', n2', G2', a3', n3', G3', sa', na', Ga', rfl, q0, q1, q2, q3, q4, hA, b4, zA⟩; have gz := zA.size; have o0 : ¬ W.heap.size = w4.heap.size := by {omega}; have o0' : ¬ w4.heap.size = W.heap.size := by {omega}; (first | (have R1 := Q2.keep b4 Q2.lt; have c0 := R1.cell 0; have cf0 := R1.free 0; have c1' := R1.cell 1; have cf1 := R1.free 1; have c2' := R1.cell 2; have cf2 := R1.free 2; have c3' := R1.cell 3; have cf3 := R1.free 3; have c4' := R1.cell 4; have cf4 := R1.free 4; have cl := R1.lt) | skip)))
          all_goals (
            go_wp2_with fail
            go_meet
            case rel =>
              first
                | (have R1q := R1; exact ran2 hYr.out hA.out.1 hA.out.2.1 hA.out.2.2 zA (Nat.le_refl _) R1q)
                | exact ran1 hA.out.1 hA.out.2.1 hA.out.2.2 zA)
        case rest =>
          obtain ⟨gBZ, ⟨da, dn, dG, d1, dm1, dk1, d2, dm2, dk2, dr, drn, drc⟩, se, ne, Ge, rfl, rfl, rfl, BZ, I3, he, te, b⟩ := hcut
          simp only [Pw.cells] at BZ
          replace BX := BX.out
          replace BY := BY.out
          replace I := I.out
          replace S := S.out
          replace I2 := I2.out
          replace tq := tq.out
          replace bel := bel.out
          clear kR k0 Q2 nn0 nn0' lq cells
          clear x0 x1 x2 x3 x4 xl y0 y1 y2 y3 y4 yl
          replace BX := BX.keep b BX.lt
          replace BY := BY.keep b BY.lt
          replace I := I.call b
          replace S := S.call b
          replace I2 := I2.call b
          replace tq := tq.call b
          replace bel := belowCall bel b
          clear b
          have x0 := BX.cell 0
          have x1 := BX.cell 1
          have x2 := BX.cell 2
          have x3 := BX.cell 3
          have x4 := BX.cell 4
          have xl := BX.lt
          have y0 := BY.cell 0
          have y1 := BY.cell 1
          have y2 := BY.cell 2
          have y3 := BY.cell 3
          have y4 := BY.cell 4
          have yl := BY.lt
          have z0 := BZ.cell 0
          have z1 := BZ.cell 1
          have z2 := BZ.cell 2
          have z3 := BZ.cell 3
          have z4 := BZ.cell 4
          have zl := BZ.lt
          rename World => v5
          go_upto_region 6 with fail
          have cells : ∀ V', Below v5.heap.size v5 V' → V'.cell? ⟨gBZ, 0, none⟩ = some (.slice da dn dG) ∧ V'.cell? ⟨gBZ, 1, none⟩ = some (.slice d1 dm1 dk1) ∧ V'.cell? ⟨gBZ, 2, none⟩ = some (.slice d2 dm2 dk2) ∧ V'.cell? ⟨gBZ, 3, none⟩ = some (.bool Y.up) ∧ V'.cell? ⟨gBZ, 4, none⟩ = some (.slice dr drn drc) := fun V' hV => ⟨(BZ.keep hV BZ.lt).cell 0, (BZ.keep hV BZ.lt).cell 1, (BZ.keep hV BZ.lt).cell 2, (BZ.keep hV BZ.lt).cell 3, (BZ.keep hV BZ.lt).cell 4⟩
          have kR : ∀ V, Below v5.heap.size v5 V → Calls Tryz.prog 32 #[.agg #[.slice da dn dG, .slice d1 dm1 dk1, .slice d2 dm2 dk2, .bool Y.up, .slice dr drn drc], .slice la 0 0] V fun e w' => ∃ (a0x : Option Addr) (n0x G0x : Nat) (a1x : Option Addr) (n1x G1x : Nat) (a2x : Option Addr) (n2x G2x : Nat) (a3x : Option Addr) (n3x G3x : Nat) (sax : Option Addr) (nax Gax : Nat), e = .returned (.tuple #[.agg #[.slice a0x n0x G0x, .slice a1x n1x G1x, .slice a2x n2x G2x, .bool X1.up, .slice a3x n3x G3x], .slice sax nax Gax, .int .i64 0]) ∧
              w'.cell? ⟨gBZ, 0, none⟩ = some (.slice da dn dG) ∧ w'.cell? ⟨gBZ, 1, none⟩ = some (.slice d1 dm1 dk1) ∧ w'.cell? ⟨gBZ, 2, none⟩ = some (.slice d2 dm2 dk2) ∧ w'.cell? ⟨gBZ, 3, none⟩ = some (.bool Y.up) ∧ w'.cell? ⟨gBZ, 4, none⟩ = some (.slice dr drn drc) ∧ Hid (IsW w' ⟨a0x, n0x, G0x, a1x, n1x, G1x, a2x, n2x, G2x, a3x, n3x, G3x⟩ X1 ∧ Hid (nax = B.length) ∧ Sl w' sax Gax (B.map (Value.int .i64))) ∧ Below V.heap.size V w' ∧ Below v5.heap.size v5 w' := by
            intro V hV
            refine (c3 _ _ (hg.call (belowCall bel hV)) (I3.call hV) (S3 _ (S.call hV))).mono ?_
            rintro e w' ⟨⟨a0x, n0x, G0x, a1x, n1x, G1x, a2x, n2x, G2x, a3x, n3x, G3x⟩, sax, nax, Gax, rfl, i, hn, t, b⟩
            obtain ⟨q0, q1, q2, q3, q4⟩ := cells w' (belowCall hV b)
            exact ⟨a0x, n0x, G0x, a1x, n1x, G1x, a2x, n2x, G2x, a3x, n3x, G3x, sax, nax, Gax, rfl, q0, q1, q2, q3, q4, hide ⟨i, hn, t⟩, b, belowCall hV b⟩
          have k0 : Below v5.heap.size v5 v5.drew := belowDrew (Below.refl _ _)
          have nn0 : ¬ gBZ = v5.heap.size := Nat.ne_of_lt BZ.lt
          have nn0' : ¬ v5.heap.size = gBZ := fun e => nn0 e.symm
          have lq := BZ.lt
          have Q2 : Blk (v5.alloc (.cells #[.slice none 0 0, .slice none 0 0, .slice none 0 0, .bool false, .slice none 0 0] 30)).drew v5.heap.size [.slice none 0 0, .slice none 0 0, .slice none 0 0, .bool false, .slice none 0 0] 30 := Blk.laid v5 [.slice none 0 0, .slice none 0 0, .slice none 0 0, .bool false, .slice none 0 0] _ _ rfl
          replace BX := hide BX
          replace BY := hide BY
          replace BZ := hide BZ
          replace I := hide I
          replace S := hide S
          replace I2 := hide I2
          replace tq := hide tq
          replace I3 := hide I3
          replace te := hide te
          replace bel := hide bel
          replace cells := hide cells
          go_cut [12, 13, 14] from 43 to 51 (fun s10 s11 s9 wx => RanAt v5 X1 B s10 s11 s9 wx)
          case first =>
            go_region_held3 (fun w' => w'.cell? ⟨gBZ, 0, none⟩ = some (.slice da dn dG) ∧ w'.cell? ⟨gBZ, 1, none⟩ = some (.slice d1 dm1 dk1) ∧ w'.cell? ⟨gBZ, 2, none⟩ = some (.slice d2 dm2 dk2) ∧ w'.cell? ⟨gBZ, 3, none⟩ = some (.bool Y.up) ∧ w'.cell? ⟨gBZ, 4, none⟩ = some (.slice dr drn drc)) (go_keep)
              (first
                | (go_at_call 32; refine (kR _ (by first | exact k0 | exact belowDrew (newB (Below.refl _ _) _))).mono ?_; rintro e w4 ⟨a0', n0', G0', a1', n1', G1', a2', n2', G2', a3', n3', G3', sa', na', Ga', rfl, q0, q1, q2, q3, q4, hA, b4, zA⟩; have gz := zA.size; have o0 : ¬ gBZ = w4.heap.size := by {omega}; have o0' : ¬ w4.heap.size = gBZ := by {omega}; (first | (have R1 := Q2.keep b4 Q2.lt; have c0 := R1.cell 0; have cf0 := R1.free 0; have c1' := R1.cell 1; have cf1 := R1.free 1; have c2' := R1.cell 2; have cf2 := R1.free 2; have c3' := R1.cell 3; have cf3 := R1.free 3; have c4' := R1.cell 4; have cf4 := R1.free 4; have cl := R1.lt) | skip)))
            all_goals (
              go_wp2_with fail
              go_meet
              case rel =>
                first
                  | (have R1q := R1; exact ran2 hXs.out hA.out.1 hA.out.2.1 hA.out.2.2 zA (Nat.le_refl _) R1q)
                  | exact ran1 hA.out.1 hA.out.2.1 hA.out.2.2 zA)
          case rest =>
            obtain ⟨gBU, ⟨ha, hn, hG, h1, hm1, hk1, h2, hm2, hk2, hr, hrn, hrc⟩, sf, nf, Gf, rfl, rfl, rfl, BU, I4, hf, tf, b⟩ := hcut
            simp only [Pw.cells] at BU
            replace BX := BX.out
            replace BY := BY.out
            replace BZ := BZ.out
            replace I := I.out
            replace S := S.out
            replace I2 := I2.out
            replace tq := tq.out
            replace I3 := I3.out
            replace te := te.out
            replace bel := bel.out
            clear kR k0 Q2 nn0 nn0' lq cells
            clear x0 x1 x2 x3 x4 xl y0 y1 y2 y3 y4 yl z0 z1 z2 z3 z4 zl
            replace BX := BX.keep b BX.lt
            replace BY := BY.keep b BY.lt
            replace BZ := BZ.keep b BZ.lt
            replace I := I.call b
            replace S := S.call b
            replace I2 := I2.call b
            replace tq := tq.call b
            replace I3 := I3.call b
            replace te := te.call b
            replace bel := belowCall bel b
            clear b
            have x0 := BX.cell 0
            have x1 := BX.cell 1
            have x2 := BX.cell 2
            have x3 := BX.cell 3
            have x4 := BX.cell 4
            have xl := BX.lt
            have y0 := BY.cell 0
            have y1 := BY.cell 1
            have y2 := BY.cell 2
            have y3 := BY.cell 3
            have y4 := BY.cell 4
            have yl := BY.lt
            have z0 := BZ.cell 0
            have z1 := BZ.cell 1
            have z2 := BZ.cell 2
            have z3 := BZ.cell 3
            have z4 := BZ.cell 4
            have zl := BZ.lt
            have u0 := BU.cell 0
            have u1 := BU.cell 1
            have u2 := BU.cell 2
            have u3 := BU.cell 3
            have u4 := BU.cell 4
            have ul := BU.lt
            rename World => v6
            go_wp2_with fail
            go_at_call 15
            refine (cW _ _ _ I2 I4).mono ?_
            rintro e w21 ⟨rfl, b⟩
            clear x0 x1 x2 x3 x4 xl y0 y1 y2 y3 y4 yl z0 z1 z2 z3 z4 zl u0 u1 u2 u3 u4 ul
            replace BX := BX.keep b BX.lt
            replace BY := BY.keep b BY.lt
            replace BZ := BZ.keep b BZ.lt
            replace BU := BU.keep b BU.lt
            replace I := I.call b
            replace S := S.call b
            replace I2 := I2.call b
            replace tq := tq.call b
            replace I3 := I3.call b
            replace te := te.call b
            replace I4 := I4.call b
            replace tf := tf.call b
            replace bel := belowCall bel b
            clear b
            have x0 := BX.cell 0
            have x1 := BX.cell 1
            have x2 := BX.cell 2
            have x3 := BX.cell 3
            have x4 := BX.cell 4
            have xl := BX.lt
            have y0 := BY.cell 0
            have y1 := BY.cell 1
            have y2 := BY.cell 2
            have y3 := BY.cell 3
            have y4 := BY.cell 4
            have yl := BY.lt
            have z0 := BZ.cell 0
            have z1 := BZ.cell 1
            have z2 := BZ.cell 2
            have z3 := BZ.cell 3
            have z4 := BZ.cell 4
            have zl := BZ.lt
            have u0 := BU.cell 0
            have u1 := BU.cell 1
            have u2 := BU.cell 2
            have u3 := BU.cell 3
            have u4 := BU.cell 4
            have ul := BU.lt
            go_wp2_with fail
            go_at_call 34
            have bn := newB (Below.refl w21.heap.size w21) (.cells #[.slice se ne Ge, .slice sf nf Gf] 69)
            have BN := Blk.laid w21 [.slice se ne Ge, .slice sf nf Gf] 69 _ rfl
            refine (k_concatE A B (BN.cell 0) (BN.cell 1) (te.call bn) (tf.call bn) he hf (by omega) BN.lt).mono ?_
            rintro e v7 ⟨aC, nC, GC, rfl, hC, tC, b6⟩
            have b := belowCall bn b6
            clear bn b6 BN
            replace tq := tq.call b
            replace bel := belowCall bel b
            clear b
            go_wp2_with fail
            go_at_call 33
            refine (k_eqE (by rw [List.length_append]; omega) tq tC hq hC).mono ?_
            rintro e v8 ⟨rfl, b⟩
            go_wp2_with fail
            go_ret
            exact ⟨rfl, belowCall bel b⟩
      · obtain ⟨ad, rfl⟩ : ∃ ad, la = some ad := by
          cases la with
          | none => exact absurd (S.row.nil rfl) (by omega)
          | some ad => exact ⟨ad, rfl⟩
        rw [if_neg hcM] at c3
        have S3 := fun V (s : SlRec V (some ad) lc l) => s.part M hMl
        rw [if_neg hcM] at S3
        simp only [Option.map_some] at c3 S3
        have hcI : ¬ ((M : Int) = (lc : Int)) := by omega
        have hcI2 : ¬ ((lc : Int) = (M : Int)) := by omega
        obtain ⟨U, hU⟩ : ∃ U, U = x.up := ⟨_, rfl⟩
        rw [← hU] at c1 c2 ⊢
        obtain ⟨sa, sn, sG, a1, n1, c1', a2, n2, c2', ra, rn, rc⟩ := p
        simp only [Pw.val] at *
        have BX := Blk.laid W [.slice sa sn sG, .slice a1 n1 c1', .slice a2 n2 c2', .bool U, .slice ra rn rc] 30 _ rfl
        have bel := newB (Below.refl W.heap.size W) (.cells #[.slice sa sn sG, .slice a1 n1 c1', .slice a2 n2 c2', .bool U, .slice ra rn rc] 30)
        replace I := I.alloc (.cells #[.slice sa sn sG, .slice a1 n1 c1', .slice a2 n2 c2', .bool U, .slice ra rn rc] 30)
        replace S := S.call (newB (Below.refl W.heap.size W) (.cells #[.slice sa sn sG, .slice a1 n1 c1', .slice a2 n2 c2', .bool U, .slice ra rn rc] 30))
        clear few fewS hU
        try clear hl
        go_enter Tryz.func9, Tryz.ntmps9
        go_upto_region 1 with fail
        generalize World.alloc W _ = w1 at *
        have x0 := BX.cell 0
        have x1 := BX.cell 1
        have x2 := BX.cell 2
        have x3 := BX.cell 3
        have x4 := BX.cell 4
        have xl := BX.lt
        go_wp2_with fail
        go_at_call 32
        refine (c1 _ (hg.call bel) I S).mono ?_
        rintro e w2 ⟨⟨ba, bn, bG, b1, bm1, bk1, b2, bm2, bk2, br, brn, brc⟩, sq, nq, Gq, rfl, I2, hq, tq, b0⟩
        have b := newB b0 (.cells #[.slice ba bn bG, .slice b1 bm1 bk1, .slice b2 bm2 bk2, .bool X1.up, .slice br brn brc] 30)
        have BY := Blk.laid w2 [.slice ba bn bG, .slice b1 bm1 bk1, .slice b2 bm2 bk2, .bool X1.up, .slice br brn brc] 30 _ rfl
        replace I2 := I2.alloc (.cells #[.slice ba bn bG, .slice b1 bm1 bk1, .slice b2 bm2 bk2, .bool X1.up, .slice br brn brc] 30)
        clear b0
        replace tq := tq.call (newB (Below.refl _ _) (.cells #[.slice ba bn bG, .slice b1 bm1 bk1, .slice b2 bm2 bk2, .bool X1.up, .slice br brn brc] 30))
        clear x0 x1 x2 x3 x4 xl
        replace BX := BX.keep b BX.lt
        replace I := I.call b
        replace S := S.call b
        replace bel := belowCall bel b
        clear b
        have x0 := BX.cell 0
        have x1 := BX.cell 1
        have x2 := BX.cell 2
        have x3 := BX.cell 3
        have x4 := BX.cell 4
        have xl := BX.lt
        go_upto_region 2 with fail
        generalize w2.heap.size = gBY at *
        generalize World.alloc w2 _ = w3 at *
        have y0 := BY.cell 0
        have y1 := BY.cell 1
        have y2 := BY.cell 2
        have y3 := BY.cell 3
        have y4 := BY.cell 4
        have yl := BY.lt
        go_wp2_with fail
        go_at_call 13
        refine (watched_any _ (hg.call bel)).mono ?_
        rintro e w4 ⟨rfl, b⟩
        clear x0 x1 x2 x3 x4 xl y0 y1 y2 y3 y4 yl
        replace BX := BX.keep b BX.lt
        replace BY := BY.keep b BY.lt
        replace I := I.call b
        replace S := S.call b
        replace I2 := I2.call b
        replace tq := tq.call b
        replace bel := belowCall bel b
        clear b
        have x0 := BX.cell 0
        have x1 := BX.cell 1
        have x2 := BX.cell 2
        have x3 := BX.cell 3
        have x4 := BX.cell 4
        have xl := BX.lt
        have y0 := BY.cell 0
        have y1 := BY.cell 1
        have y2 := BY.cell 2
        have y3 := BY.cell 3
        have y4 := BY.cell 4
        have yl := BY.lt
        go_wp2_with fail
        go_at_call 30
        refine (cA _).mono ?_
        rintro e w5 ⟨rfl, rfl⟩
        go_upto_region 5 with fail
        have cells : ∀ V', Below w4.heap.size w4 V' → V'.cell? ⟨W.heap.size, 0, none⟩ = some (.slice sa sn sG) ∧ V'.cell? ⟨W.heap.size, 1, none⟩ = some (.slice a1 n1 c1') ∧ V'.cell? ⟨W.heap.size, 2, none⟩ = some (.slice a2 n2 c2') ∧ V'.cell? ⟨W.heap.size, 3, none⟩ = some (.bool U) ∧ V'.cell? ⟨W.heap.size, 4, none⟩ = some (.slice ra rn rc) := fun V' hV => ⟨(BX.keep hV BX.lt).cell 0, (BX.keep hV BX.lt).cell 1, (BX.keep hV BX.lt).cell 2, (BX.keep hV BX.lt).cell 3, (BX.keep hV BX.lt).cell 4⟩
        have kR : ∀ V, Below w4.heap.size w4 V → Calls Tryz.prog 32 #[.agg #[.slice sa sn sG, .slice a1 n1 c1', .slice a2 n2 c2', .bool U, .slice ra rn rc], .slice (some ad) M lc] V fun e w' => ∃ (a0x : Option Addr) (n0x G0x : Nat) (a1x : Option Addr) (n1x G1x : Nat) (a2x : Option Addr) (n2x G2x : Nat) (a3x : Option Addr) (n3x G3x : Nat) (sax : Option Addr) (nax Gax : Nat), e = .returned (.tuple #[.agg #[.slice a0x n0x G0x, .slice a1x n1x G1x, .slice a2x n2x G2x, .bool Y.up, .slice a3x n3x G3x], .slice sax nax Gax, .int .i64 0]) ∧
            w'.cell? ⟨W.heap.size, 0, none⟩ = some (.slice sa sn sG) ∧ w'.cell? ⟨W.heap.size, 1, none⟩ = some (.slice a1 n1 c1') ∧ w'.cell? ⟨W.heap.size, 2, none⟩ = some (.slice a2 n2 c2') ∧ w'.cell? ⟨W.heap.size, 3, none⟩ = some (.bool U) ∧ w'.cell? ⟨W.heap.size, 4, none⟩ = some (.slice ra rn rc) ∧ Hid (IsW w' ⟨a0x, n0x, G0x, a1x, n1x, G1x, a2x, n2x, G2x, a3x, n3x, G3x⟩ Y ∧ Hid (nax = A.length) ∧ Sl w' sax Gax (A.map (Value.int .i64))) ∧ Below V.heap.size V w' ∧ Below w4.heap.size w4 w' := by
          intro V hV
          refine (c2 _ (hg.call (belowCall bel hV)) (I.call hV) ((S.call hV).front M)).mono ?_
          rintro e w' ⟨⟨a0x, n0x, G0x, a1x, n1x, G1x, a2x, n2x, G2x, a3x, n3x, G3x⟩, sax, nax, Gax, rfl, i, hn, t, b⟩
          obtain ⟨q0, q1, q2, q3, q4⟩ := cells w' (belowCall hV b)
          exact ⟨a0x, n0x, G0x, a1x, n1x, G1x, a2x, n2x, G2x, a3x, n3x, G3x, sax, nax, Gax, rfl, q0, q1, q2, q3, q4, hide ⟨i, hn, t⟩, b, belowCall hV b⟩
        have k0 : Below w4.heap.size w4 w4.drew := belowDrew (Below.refl _ _)
        have nn0 : ¬ W.heap.size = w4.heap.size := Nat.ne_of_lt BX.lt
        have nn0' : ¬ w4.heap.size = W.heap.size := fun e => nn0 e.symm
        have lq := BX.lt
        have Q2 : Blk (w4.alloc (.cells #[.slice none 0 0, .slice none 0 0, .slice none 0 0, .bool false, .slice none 0 0] 30)).drew w4.heap.size [.slice none 0 0, .slice none 0 0, .slice none 0 0, .bool false, .slice none 0 0] 30 := Blk.laid w4 [.slice none 0 0, .slice none 0 0, .slice none 0 0, .bool false, .slice none 0 0] _ _ rfl
        replace BX := hide BX
        replace BY := hide BY
        replace I := hide I
        replace S := hide S
        replace I2 := hide I2
        replace tq := hide tq
        replace bel := hide bel
        replace cells := hide cells
        go_cut [10, 11, 9] from 34 to 42 (fun s10 s11 s9 wx => RanAt w4 Y A s10 s11 s9 wx)
        case first =>
          go_region_held3 (fun w' => w'.cell? ⟨W.heap.size, 0, none⟩ = some (.slice sa sn sG) ∧ w'.cell? ⟨W.heap.size, 1, none⟩ = some (.slice a1 n1 c1') ∧ w'.cell? ⟨W.heap.size, 2, none⟩ = some (.slice a2 n2 c2') ∧ w'.cell? ⟨W.heap.size, 3, none⟩ = some (.bool U) ∧ w'.cell? ⟨W.heap.size, 4, none⟩ = some (.slice ra rn rc)) (go_keep)
            (first
              | (go_at_call 32; refine (kR _ (by first | exact k0 | exact belowDrew (newB (Below.refl _ _) _))).mono ?_; rintro e w4 ⟨a0', n0', G0', a1', n1', G1', a2', n2', G2', a3', n3', G3', sa', na', Ga', rfl, q0, q1, q2, q3, q4, hA, b4, zA⟩; have gz := zA.size; have o0 : ¬ W.heap.size = w4.heap.size := by {omega}; have o0' : ¬ w4.heap.size = W.heap.size := by {omega}; (first | (have R1 := Q2.keep b4 Q2.lt; have c0 := R1.cell 0; have cf0 := R1.free 0; have c1' := R1.cell 1; have cf1 := R1.free 1; have c2' := R1.cell 2; have cf2 := R1.free 2; have c3' := R1.cell 3; have cf3 := R1.free 3; have c4' := R1.cell 4; have cf4 := R1.free 4; have cl := R1.lt) | skip)))
          all_goals (
            go_wp2_with fail
            go_meet
            case rel =>
              first
                | (have R1q := R1; exact ran2 hYr.out hA.out.1 hA.out.2.1 hA.out.2.2 zA (Nat.le_refl _) R1q)
                | exact ran1 hA.out.1 hA.out.2.1 hA.out.2.2 zA)
        case rest =>
          obtain ⟨gBZ, ⟨da, dn, dG, d1, dm1, dk1, d2, dm2, dk2, dr, drn, drc⟩, se, ne, Ge, rfl, rfl, rfl, BZ, I3, he, te, b⟩ := hcut
          simp only [Pw.cells] at BZ
          replace BX := BX.out
          replace BY := BY.out
          replace I := I.out
          replace S := S.out
          replace I2 := I2.out
          replace tq := tq.out
          replace bel := bel.out
          clear kR k0 Q2 nn0 nn0' lq cells
          clear x0 x1 x2 x3 x4 xl y0 y1 y2 y3 y4 yl
          replace BX := BX.keep b BX.lt
          replace BY := BY.keep b BY.lt
          replace I := I.call b
          replace S := S.call b
          replace I2 := I2.call b
          replace tq := tq.call b
          replace bel := belowCall bel b
          clear b
          have x0 := BX.cell 0
          have x1 := BX.cell 1
          have x2 := BX.cell 2
          have x3 := BX.cell 3
          have x4 := BX.cell 4
          have xl := BX.lt
          have y0 := BY.cell 0
          have y1 := BY.cell 1
          have y2 := BY.cell 2
          have y3 := BY.cell 3
          have y4 := BY.cell 4
          have yl := BY.lt
          have z0 := BZ.cell 0
          have z1 := BZ.cell 1
          have z2 := BZ.cell 2
          have z3 := BZ.cell 3
          have z4 := BZ.cell 4
          have zl := BZ.lt
          rename World => v5
          go_upto_region 6 with fail
          have cells : ∀ V', Below v5.heap.size v5 V' → V'.cell? ⟨gBZ, 0, none⟩ = some (.slice da dn dG) ∧ V'.cell? ⟨gBZ, 1, none⟩ = some (.slice d1 dm1 dk1) ∧ V'.cell? ⟨gBZ, 2, none⟩ = some (.slice d2 dm2 dk2) ∧ V'.cell? ⟨gBZ, 3, none⟩ = some (.bool Y.up) ∧ V'.cell? ⟨gBZ, 4, none⟩ = some (.slice dr drn drc) := fun V' hV => ⟨(BZ.keep hV BZ.lt).cell 0, (BZ.keep hV BZ.lt).cell 1, (BZ.keep hV BZ.lt).cell 2, (BZ.keep hV BZ.lt).cell 3, (BZ.keep hV BZ.lt).cell 4⟩
          have kR : ∀ V, Below v5.heap.size v5 V → Calls Tryz.prog 32 #[.agg #[.slice da dn dG, .slice d1 dm1 dk1, .slice d2 dm2 dk2, .bool Y.up, .slice dr drn drc], .slice (some (ad.add (M * 4))) (ln - M) (lc - M)] V fun e w' => ∃ (a0x : Option Addr) (n0x G0x : Nat) (a1x : Option Addr) (n1x G1x : Nat) (a2x : Option Addr) (n2x G2x : Nat) (a3x : Option Addr) (n3x G3x : Nat) (sax : Option Addr) (nax Gax : Nat), e = .returned (.tuple #[.agg #[.slice a0x n0x G0x, .slice a1x n1x G1x, .slice a2x n2x G2x, .bool X1.up, .slice a3x n3x G3x], .slice sax nax Gax, .int .i64 0]) ∧
              w'.cell? ⟨gBZ, 0, none⟩ = some (.slice da dn dG) ∧ w'.cell? ⟨gBZ, 1, none⟩ = some (.slice d1 dm1 dk1) ∧ w'.cell? ⟨gBZ, 2, none⟩ = some (.slice d2 dm2 dk2) ∧ w'.cell? ⟨gBZ, 3, none⟩ = some (.bool Y.up) ∧ w'.cell? ⟨gBZ, 4, none⟩ = some (.slice dr drn drc) ∧ Hid (IsW w' ⟨a0x, n0x, G0x, a1x, n1x, G1x, a2x, n2x, G2x, a3x, n3x, G3x⟩ X1 ∧ Hid (nax = B.length) ∧ Sl w' sax Gax (B.map (Value.int .i64))) ∧ Below V.heap.size V w' ∧ Below v5.heap.size v5 w' := by
            intro V hV
            refine (c3 _ _ (hg.call (belowCall bel hV)) (I3.call hV) (S3 _ (S.call hV))).mono ?_
            rintro e w' ⟨⟨a0x, n0x, G0x, a1x, n1x, G1x, a2x, n2x, G2x, a3x, n3x, G3x⟩, sax, nax, Gax, rfl, i, hn, t, b⟩
            obtain ⟨q0, q1, q2, q3, q4⟩ := cells w' (belowCall hV b)
            exact ⟨a0x, n0x, G0x, a1x, n1x, G1x, a2x, n2x, G2x, a3x, n3x, G3x, sax, nax, Gax, rfl, q0, q1, q2, q3, q4, hide ⟨i, hn, t⟩, b, belowCall hV b⟩
          have k0 : Below v5.heap.size v5 v5.drew := belowDrew (Below.refl _ _)
          have nn0 : ¬ gBZ = v5.heap.size := Nat.ne_of_lt BZ.lt
          have nn0' : ¬ v5.heap.size = gBZ := fun e => nn0 e.symm
          have lq := BZ.lt
          have Q2 : Blk (v5.alloc (.cells #[.slice none 0 0, .slice none 0 0, .slice none 0 0, .bool false, .slice none 0 0] 30)).drew v5.heap.size [.slice none 0 0, .slice none 0 0, .slice none 0 0, .bool false, .slice none 0 0] 30 := Blk.laid v5 [.slice none 0 0, .slice none 0 0, .slice none 0 0, .bool false, .slice none 0 0] _ _ rfl
          replace BX := hide BX
          replace BY := hide BY
          replace BZ := hide BZ
          replace I := hide I
          replace S := hide S
          replace I2 := hide I2
          replace tq := hide tq
          replace I3 := hide I3
          replace te := hide te
          replace bel := hide bel
          replace cells := hide cells
          go_cut [12, 13, 14] from 43 to 51 (fun s10 s11 s9 wx => RanAt v5 X1 B s10 s11 s9 wx)
          case first =>
            go_region_held3 (fun w' => w'.cell? ⟨gBZ, 0, none⟩ = some (.slice da dn dG) ∧ w'.cell? ⟨gBZ, 1, none⟩ = some (.slice d1 dm1 dk1) ∧ w'.cell? ⟨gBZ, 2, none⟩ = some (.slice d2 dm2 dk2) ∧ w'.cell? ⟨gBZ, 3, none⟩ = some (.bool Y.up) ∧ w'.cell? ⟨gBZ, 4, none⟩ = some (.slice dr drn drc)) (go_keep)
              (first
                | (go_at_call 32; refine (kR _ (by first | exact k0 | exact belowDrew (newB (Below.refl _ _) _))).mono ?_; rintro e w4 ⟨a0', n0', G0', a1', n1', G1', a2', n2', G2', a3', n3', G3', sa', na', Ga', rfl, q0, q1, q2, q3, q4, hA, b4, zA⟩; have gz := zA.size; have o0 : ¬ gBZ = w4.heap.size := by {omega}; have o0' : ¬ w4.heap.size = gBZ := by {omega}; (first | (have R1 := Q2.keep b4 Q2.lt; have c0 := R1.cell 0; have cf0 := R1.free 0; have c1' := R1.cell 1; have cf1 := R1.free 1; have c2' := R1.cell 2; have cf2 := R1.free 2; have c3' := R1.cell 3; have cf3 := R1.free 3; have c4' := R1.cell 4; have cf4 := R1.free 4; have cl := R1.lt) | skip)))
            all_goals (
              go_wp2_with fail
              go_meet
              case rel =>
                first
                  | (have R1q := R1; exact ran2 hXs.out hA.out.1 hA.out.2.1 hA.out.2.2 zA (Nat.le_refl _) R1q)
                  | exact ran1 hA.out.1 hA.out.2.1 hA.out.2.2 zA)
          case rest =>
            obtain ⟨gBU, ⟨ha, hn, hG, h1, hm1, hk1, h2, hm2, hk2, hr, hrn, hrc⟩, sf, nf, Gf, rfl, rfl, rfl, BU, I4, hf, tf, b⟩ := hcut
            simp only [Pw.cells] at BU
            replace BX := BX.out
            replace BY := BY.out
            replace BZ := BZ.out
            replace I := I.out
            replace S := S.out
            replace I2 := I2.out
            replace tq := tq.out
            replace I3 := I3.out
            replace te := te.out
            replace bel := bel.out
            clear kR k0 Q2 nn0 nn0' lq cells
            clear x0 x1 x2 x3 x4 xl y0 y1 y2 y3 y4 yl z0 z1 z2 z3 z4 zl
            replace BX := BX.keep b BX.lt
            replace BY := BY.keep b BY.lt
            replace BZ := BZ.keep b BZ.lt
            replace I := I.call b
            replace S := S.call b
            replace I2 := I2.call b
            replace tq := tq.call b
            replace I3 := I3.call b
            replace te := te.call b
            replace bel := belowCall bel b
            clear b
            have x0 := BX.cell 0
            have x1 := BX.cell 1
            have x2 := BX.cell 2
            have x3 := BX.cell 3
            have x4 := BX.cell 4
            have xl := BX.lt
            have y0 := BY.cell 0
            have y1 := BY.cell 1
            have y2 := BY.cell 2
            have y3 := BY.cell 3
            have y4 := BY.cell 4
            have yl := BY.lt
            have z0 := BZ.cell 0
            have z1 := BZ.cell 1
            have z2 := BZ.cell 2
            have z3 := BZ.cell 3
            have z4 := BZ.cell 4
            have zl := BZ.lt
            have u0 := BU.cell 0
            have u1 := BU.cell 1
            have u2 := BU.cell 2
            have u3 := BU.cell 3
            have u4 := BU.cell 4
            have ul := BU.lt
            rename World => v6
            go_wp2_with fail
            go_at_call 15
            refine (cW _ _ _ I2 I4).mono ?_
            rintro e w21 ⟨rfl, b⟩
            clear x0 x1 x2 x3 x4 xl y0 y1 y2 y3 y4 yl z0 z1 z2 z3 z4 zl u0 u1 u2 u3 u4 ul
            replace BX := BX.keep b BX.lt
            replace BY := BY.keep b BY.lt
            replace BZ := BZ.keep b BZ.lt
            replace BU := BU.keep b BU.lt
            replace I := I.call b
            replace S := S.call b
            replace I2 := I2.call b
            replace tq := tq.call b
            replace I3 := I3.call b
            replace te := te.call b
            replace I4 := I4.call b
            replace tf := tf.call b
            replace bel := belowCall bel b
            clear b
            have x0 := BX.cell 0
            have x1 := BX.cell 1
            have x2 := BX.cell 2
            have x3 := BX.cell 3
            have x4 := BX.cell 4
            have xl := BX.lt
            have y0 := BY.cell 0
            have y1 := BY.cell 1
            have y2 := BY.cell 2
            have y3 := BY.cell 3
            have y4 := BY.cell 4
            have yl := BY.lt
            have z0 := BZ.cell 0
            have z1 := BZ.cell 1
            have z2 := BZ.cell 2
            have z3 := BZ.cell 3
            have z4 := BZ.cell 4
            have zl := BZ.lt
            have u0 := BU.cell 0
            have u1 := BU.cell 1
            have u2 := BU.cell 2
            have u3 := BU.cell 3
            have u4 := BU.cell 4
            have ul := BU.lt
            go_wp2_with fail
            go_at_call 34
            have bn := newB (Below.refl w21.heap.size w21) (.cells #[.slice se ne Ge, .slice sf nf Gf] 69)
            have BN := Blk.laid w21 [.slice se ne Ge, .slice sf nf Gf] 69 _ rfl
            refine (k_concatE A B (BN.cell 0) (BN.cell 1) (te.call bn) (tf.call bn) he hf (by omega) BN.lt).mono ?_
            rintro e v7 ⟨aC, nC, GC, rfl, hC, tC, b6⟩
            have b := belowCall bn b6
            clear bn b6 BN
            replace tq := tq.call b
            replace bel := belowCall bel b
            clear b
            go_wp2_with fail
            go_at_call 33
            refine (k_eqE (by rw [List.length_append]; omega) tq tC hq hC).mono ?_
            rintro e v8 ⟨rfl, b⟩
            go_wp2_with fail
            go_ret
            exact ⟨rfl, belowCall bel b⟩
  · have c1 := fun V g i (s : SlRec V la lc l) => run_bad x p la ln lc V g i few fewS hx
    unfold AnsRun at c1
    have hd : decide (wdE x = 0) = false := decide_eq_false hx
    obtain ⟨X1, hX1⟩ : ∃ X1, X1 = wd0 := ⟨_, rfl⟩
    rw [← hX1] at c1
    generalize wdE x = E at *
    clear hX1
    obtain ⟨U, hU⟩ : ∃ U, U = x.up := ⟨_, rfl⟩
    rw [← hU] at c1 ⊢
    obtain ⟨sa, sn, sG, a1, n1, c1', a2, n2, c2', ra, rn, rc⟩ := p
    simp only [Pw.val] at *
    have BX := Blk.laid W [.slice sa sn sG, .slice a1 n1 c1', .slice a2 n2 c2', .bool U, .slice ra rn rc] 30 _ rfl
    have bel := newB (Below.refl W.heap.size W) (.cells #[.slice sa sn sG, .slice a1 n1 c1', .slice a2 n2 c2', .bool U, .slice ra rn rc] 30)
    replace I := I.alloc (.cells #[.slice sa sn sG, .slice a1 n1 c1', .slice a2 n2 c2', .bool U, .slice ra rn rc] 30)
    replace S := S.call (newB (Below.refl W.heap.size W) (.cells #[.slice sa sn sG, .slice a1 n1 c1', .slice a2 n2 c2', .bool U, .slice ra rn rc] 30))
    clear few fewS hU
    try clear hl
    go_enter Tryz.func9, Tryz.ntmps9
    go_upto_region 1 with fail
    generalize World.alloc W _ = w1 at *
    have x0 := BX.cell 0
    have x1 := BX.cell 1
    have x2 := BX.cell 2
    have x3 := BX.cell 3
    have x4 := BX.cell 4
    have xl := BX.lt
    go_wp2_with fail
    go_at_call 32
    refine (c1 _ (hg.call bel) I S).mono ?_
    rintro e w2 ⟨⟨ba, bn, bG, b1, bm1, bk1, b2, bm2, bk2, br, brn, brc⟩, sq, nq, Gq, rfl, I2, hq, tq, b0⟩
    have b := newB b0 (.cells #[.slice ba bn bG, .slice b1 bm1 bk1, .slice b2 bm2 bk2, .bool X1.up, .slice br brn brc] 30)
    have BY := Blk.laid w2 [.slice ba bn bG, .slice b1 bm1 bk1, .slice b2 bm2 bk2, .bool X1.up, .slice br brn brc] 30 _ rfl
    replace I2 := I2.alloc (.cells #[.slice ba bn bG, .slice b1 bm1 bk1, .slice b2 bm2 bk2, .bool X1.up, .slice br brn brc] 30)
    clear b0
    replace tq := tq.call (newB (Below.refl _ _) (.cells #[.slice ba bn bG, .slice b1 bm1 bk1, .slice b2 bm2 bk2, .bool X1.up, .slice br brn brc] 30))
    clear x0 x1 x2 x3 x4 xl
    replace BX := BX.keep b BX.lt
    replace I := I.call b
    replace S := S.call b
    replace bel := belowCall bel b
    clear b
    have x0 := BX.cell 0
    have x1 := BX.cell 1
    have x2 := BX.cell 2
    have x3 := BX.cell 3
    have x4 := BX.cell 4
    have xl := BX.lt
    go_upto_region 2 with fail
    generalize w2.heap.size = gBY at *
    generalize World.alloc w2 _ = w3 at *
    have y0 := BY.cell 0
    have y1 := BY.cell 1
    have y2 := BY.cell 2
    have y3 := BY.cell 3
    have y4 := BY.cell 4
    have yl := BY.lt
    go_wp2_with fail
    go_at_call 13
    refine (watched_any _ (hg.call bel)).mono ?_
    rintro e w4 ⟨rfl, b⟩
    clear x0 x1 x2 x3 x4 xl y0 y1 y2 y3 y4 yl
    replace BX := BX.keep b BX.lt
    replace BY := BY.keep b BY.lt
    replace I := I.call b
    replace S := S.call b
    replace I2 := I2.call b
    replace tq := tq.call b
    replace bel := belowCall bel b
    clear b
    have x0 := BX.cell 0
    have x1 := BX.cell 1
    have x2 := BX.cell 2
    have x3 := BX.cell 3
    have x4 := BX.cell 4
    have xl := BX.lt
    have y0 := BY.cell 0
    have y1 := BY.cell 1
    have y2 := BY.cell 2
    have y3 := BY.cell 3
    have y4 := BY.cell 4
    have yl := BY.lt
    go_wp2_with fail
    go_at_call 13
    refine (watched_any _ (hg.call bel)).mono ?_
    rintro e w5 ⟨rfl, b⟩
    go_wp2_with fail
    go_ret
    exact ⟨rfl, belowCall bel b⟩

end Go.Proofs.YtjjfgmcgonkicaaGreatDoor

/-
  Proved: for any world, any list of happenings, any number, WorldParts returns true and leaves its arguments as they were: a script in two runs does what it does in one. Conditions: the listed variables of Go's library start as the program's text lays them (tied by the card).
-/
namespace Go.Proofs.YtjjfgmcgonkicaaGreatDoor.worldParts
open Go.ChangeShapes Go.WideShapes Go.ChangeAt Go.RowKit Go.ChangeMaps
set_option linter.unusedVariables false

def laidL : List (String × DataW Unit) := Rows.worldPartsRow.laid

set_option maxRecDepth 100000 in
theorem lifted (os : Os) (started : os.Started) (H : Type) (enc : TypeId × Value → H) :
    ReturnsInHanded {} Tryz.checked os 9 .any (fun w args => (Rows.worldPartsSpec.pre enc Tryz.prog Tryz.f9 [] false w args ∧ laidMetH Tryz.prog laidL w) ∧ sizedMet enc Tryz.prog Tryz.f9 (OpenSpec.ofChange Rows.worldPartsSpec) false w args)
      (Rows.worldPartsSpec.post enc Tryz.prog Tryz.f9 false true false false) := by
  refine returns_both (C := Tryz.checked) (X := fun w _ => laidMetH Tryz.prog laidL w) (fun _ _ _ hh h => h.of_heap hh) own started (by kernel_rfl) Tryz.func9
    (ChangeSpec.witness_shaped (enc := enc) (C := Tryz.checked) (os := os) (X := fun w _ => laidMetH Tryz.prog laidL w) false (World.laidAll Tryz.prog os laidL) #[.agg #[.slice none 0 0, .slice none 0 0, .slice none 0 0, .bool false, .slice none 0 0], .slice none 0 0, .int .i64 0] 8 (World.laidAll_os _ _ _)
      (World.shaped_of_ZipB (by kernel_rfl) (by kernel_rfl)) (by kernel_rfl) (by kernel_rfl) (by kernel_rfl)
      (by rw [MakeChecks.laidMetH_plain _ _ _ (by kernel_rfl)]; exact laidMet_laidAll _ (by kernel_rfl) (by kernel_rfl))) ?_
  intro W base args ds gs before hval0 hW hsz0 hL hsh
  have hsz : (DataW.weightsEach Tryz.prog (Tryz.f9.params.toList ++ Rows.worldPartsSpec.plain.varTypes Tryz.prog) (ds ++ gs)).all (· ≤ reachBytes) = true := hsz0
  have hval : ∀ (j : Nat) t v, Tryz.f9.params[j]? = some t → args[j]? = some v → Value.okWide Tryz.prog W .any base t v := hval0
  have hW' := hW
  obtain ⟨p, q, hA0, hV, rfl, hfz, hnd⟩ := hW
  have hA : DataW.TrodAll enc Tryz.prog W 0 (fun _ => true) true Tryz.f9.params.toList args.toList ds p := hA0
  rw [Tryz.params9] at hA hval hsz
  obtain ⟨v0, vs0, d0, ds0, p0, q0, hargs, rfl, rfl, h0, r0⟩ := trodAll_cons hA
  obtain ⟨v1, vs1, d1, ds1, p1, q1, rfl, rfl, rfl, h1, r1⟩ := trodAll_cons r0
  obtain ⟨v2, vs2, d2, ds2, p2, q2, rfl, rfl, rfl, h2, r2⟩ := trodAll_cons r1
  obtain ⟨rfl, rfl, rfl⟩ := trodAll_nil r2
  obtain rfl : args = #[v0, v1, v2] := by cases args; simp_all
  obtain ⟨rfl, rfl⟩ := trodVars_none hV
  have k0 := h0
  have lt0 : ∀ x ∈ p0, x.block < W.heap.size := by obtain ⟨m, hm⟩ := k0; exact DataW.trod_lt m _ _ _ hm
  obtain ⟨x0, q0, rfl, I0, few0, fewS0, fewR0⟩ := open_world (hval 0 30 v0 rfl rfl) h0 (rec_light (j := 0) hsz rfl rfl)
  have k1 := h1
  have lt1 : ∀ x ∈ p1, x.block < W.heap.size := by obtain ⟨m, hm⟩ := k1; exact DataW.trod_lt m _ _ _ hm
  obtain ⟨a1, len1, cap1, rfl⟩ := okWide_slice Tryz.underlying68 (hval 1 68 v1 rfl rfl)
  obtain ⟨l1, hl1, s1, _⟩ := open_haps h1 (rec_light (j := 1) hsz rfl rfl)
  obtain ⟨a2, rfl, rfl, rfl, w2⟩ := open_int Tryz.underlying3 (hval 2 3 v2 rfl rfl) h2
  rw [MakeChecks.laidMetH_plain _ _ _ (by kernel_rfl)] at hL
  have g := glob_of hL hsh
  refine (parts_walk W g x0 q0 I0 few0 fewS0 fewR0 l1 a1 cap1 len1 s1 hl1.symm a2 w2).mono fun e W' ⟨he, bel⟩ => ?_
  subst he
  exact ⟨_, rfl, _, _, _, [], _, [], hW', trodAll_mk1 (shut_bool Tryz.underlying4 _), (trodAll_cons_mk (Below.trod laidOut (by kernel_rfl) (of_decide_eq_true (by kernel_rfl)) k0 bel lt0) (trodAll_cons_mk (Below.trod laidOut (by kernel_rfl) (of_decide_eq_true (by kernel_rfl)) k1 bel lt1) (trodAll_cons_mk (shut_int Tryz.underlying3 w2) trodAll_mk0))), rfl, bel.frame _, fun h => by cases h⟩

theorem row_holds : Rows.WorldPartsSaid :=
  OpenClaim.holds_of_wide 9 Tryz.f9 rfl rfl rfl rfl rfl rfl rfl ⟨rfl, rfl, rfl, rfl, rfl⟩ rfl rfl rfl rfl rfl (by kernel_rfl) Tryz.func9 (by kernel_rfl)
    (of_decide_eq_true (by kernel_rfl)) (by unfold Func.isWrapper; first | (rw [if_pos (by decide +kernel)]; kernel_rfl) | (rw [if_neg (by decide +kernel)]; exact ⟨rfl, rfl⟩))
    (fun os started H enc _ => lifted os started H enc)
end Go.Proofs.YtjjfgmcgonkicaaGreatDoor.worldParts
