/-
  slices.Grow of a nil slice and slices.Concat of two, at bools: the new row, in new memory.
-/
import Derived.Test.YthfcpnelfcehfaaPut
import Derived.Lib.AppendZeros
namespace Go.Proofs.Ythfcpnelfcehfaa
open Go.RowKit

theorem grow_none (w : World) :
    Calls Try.prog 34 #[.slice none 0 0, .int .i64 0] w fun e w' => e = .returned (.slice none 0 0) ∧ w = w' := by
  go_enter Try.func34, Try.ntmps34
  go_wp2
  go_ret
  exact ⟨rfl, rfl⟩

theorem zeroCells_list (z : Value) (n : Nat) : (Builtin.zeroCells #[z] n) = (List.replicate n z).toArray := by
  unfold Builtin.zeroCells
  apply Array.ext
  · simp
  · intro i h1 h2
    simp [Nat.mod_one]

set_option maxHeartbeats 1000000 in
set_option maxRecDepth 100000 in
theorem grow_some (n : Nat) (w : World) (h0 : 0 < n) (hn : n ≤ 140737488355328) :
    Calls Try.prog 34 #[.slice none 0 0, .int .i64 n] w fun e w' => ∃ G, e = .returned (.slice (some ⟨w.heap.size, 0, none⟩) 0 G) ∧ n ≤ G ∧ G ≤ maxLen ∧ Blk w' w.heap.size (List.replicate G (.bool false)) 4 ∧ Below w.heap.size w w' := by
  obtain ⟨i0, hi, hz0, hz1, hz2⟩ := info_parts infoBool
  have hrz := fun ty => Lib.run_append_nil_zeros (P := Try.prog) w 27 3 ty 4 i0 (.bool false) .i64 .i64 Try.underlying27 Try.underlying3 hi hz0 n h0 (by omega) (by omega) (by rw [hz2]; omega)
  have hG1 : n ≤ grownCap w n 0 4 := grownCap_ge w _ _ _
  have hG2 : grownCap w n 0 4 ≤ maxLen := grownCap_le_maxLen w n 0 _ (by unfold maxLen; omega)
  generalize grownCap w n 0 4 = G at *
  have hG3 := hG2
  unfold maxLen at hG3
  go_enter Try.func34, Try.ntmps34
  go_wp2_with (at_builtin; refine Lib.wpList_append_run _ rfl _ _ _ _ rfl _ _ rfl rfl _ _ (hrz _) ?_)
  go_ret
  refine ⟨G, rfl, hG1, hG2, ?_, ?_⟩
  · have e : Builtin.zeroCells #[Value.bool false] n ++ Builtin.zeroCells #[Value.bool false] (G - n) = (List.replicate G (Value.bool false)).toArray := by
      rw [zeroCells_list, zeroCells_list, List.append_toArray, List.replicate_append_replicate]
      congr 2
      omega
    have h := Blk.laid w (List.replicate G (Value.bool false)) 4 _ rfl
    rw [← e] at h
    exact h
  · repeat (first | exact Below.refl _ _ | apply Below.drew | refine Below.alloc ?_ (by simp) _)

set_option maxHeartbeats 1000000 in
set_option maxRecDepth 100000 in
theorem concat_some (B : Nat) (a1 a2 : Option Addr) (c1 c2 : Nat) (l1 l2 : List Value) (w : World) (e0 : w.cell? ⟨B, 0, none⟩ = some (.slice a1 l1.length c1)) (e1 : w.cell? ⟨B, 1, none⟩ = some (.slice a2 l2.length c2))
    (s1 : Sl w a1 c1 l1) (s2 : Sl w a2 c2 l2) (o1 : ∀ v ∈ l1, v.oneCell' = true) (o2 : ∀ v ∈ l2, v.oneCell' = true) (h0 : 0 < l1.length + l2.length) (hm : l1.length + l2.length ≤ 140737488355328) (hB : B < w.heap.size) :
    Calls Try.prog 17 #[.slice (some ⟨B, 0, none⟩) 2 2] w fun e w' => ∃ g G, e = .returned (.slice (some ⟨g, 0, none⟩) (l1.length + l2.length) G) ∧ Sl w' (some ⟨g, 0, none⟩) G (l1 ++ l2) ∧ Below w.heap.size w w' := by
  obtain ⟨i0, hi, hz0, hz1, hz2⟩ := info_parts infoBool
  go_enter Try.func17, Try.ntmps17
  go_wp2_with fail
  refine wp_loop_rounds 3 ?_
  rw [rounds_succ]
  go_wp2_with fail
  rw [rounds_succ]
  go_wp2_with fail
  rw [rounds_succ]
  go_wp2_with fail
  have hg := grow_some (l1.length + l2.length) w h0 hm
  rw [Int.natCast_add] at hg
  refine hg.mono ?_
  rintro e w1 ⟨G, rfl, hG1, hG2, B0, bel⟩
  clear hg
  have f0 : w1.cell? ⟨B, 0, none⟩ = some (.slice a1 l1.length c1) := (bel.cell (p := ⟨B, 0, none⟩) hB).trans e0
  have f1 : w1.cell? ⟨B, 1, none⟩ = some (.slice a2 l2.length c2) := (bel.cell (p := ⟨B, 1, none⟩) hB).trans e1
  have t1 := s1.keep bel (Nat.le_refl _)
  have own0 : w1.ownsRow w.heap.size 4 1 (.slice (some ⟨w.heap.size, 0, none⟩) 0 G) 0 [] := by
    have h := ownOfBlk B0 w.heap.size (Nat.le_refl _) 0 (Nat.zero_le _) (by simpa using hG2)
    simpa using h
  have hlt := B0.lt
  clear e0 e1 B0
  have b1 : 0 + l1.length ≤ G := by omega
  have x1 := t1.src
  have y1 := t1.src0
  go_wp2_with fail
  refine wp_loop_rounds 3 ?_
  rw [rounds_succ]
  go_wp2_with (at_builtin; refine wpList_append_fits_any _ rfl (.tmp 31) (.tmp 32) 27 rfl w.heap.size 4 i0 1 Try.underlying27 hi hz1 w.heap.size 0 G [] rfl own0 a1 l1.length c1 l1 rfl (Nat.mul_one _).symm y1 x1 o1 b1 ?_)
  intro w2 own1 grow1
  have bel2 : Below w.heap.size w w2 := bel.grown grow1 (by omega) (fun k h => by cases h; exact Nat.le_refl _)
  have f2 : w2.cell? ⟨B, 1, none⟩ = some (.slice a2 l2.length c2) := grow1.cell f1 (by intro e; have h : B = w.heap.size := Option.some.inj e; omega)
  have t2 := s2.keep bel2 (Nat.le_refl _)
  have x2 := t2.src
  have y2 := t2.src0
  clear f0 f1 x1 y1 t1 own0 bel grow1 b1
  have b2 : l1.length + l2.length ≤ G := by omega
  go_wp2_with fail
  rw [rounds_succ]
  go_wp2_with (at_builtin; refine wpList_append_fits_any _ rfl (.tmp 31) (.tmp 32) 27 rfl w.heap.size 4 i0 1 Try.underlying27 hi hz1 w.heap.size l1.length G l1 rfl own1 a2 l2.length c2 l2 rfl (Nat.mul_one _).symm y2 x2 o2 b2 ?_)
  intro w3 own2 grow2
  have bel3 : Below w.heap.size w w3 := bel2.grown grow2 (bel2.size) (fun k h => by cases h; exact Nat.le_refl _)
  clear f2 x2 y2 t2 own1 bel2 grow2
  go_wp2_with fail
  rw [rounds_succ]
  go_wp2_with fail
  go_ret
  exact ⟨w.heap.size, G, rfl, (slOfOwn own2).1, bel3⟩

/-- Nothing behind a nil slice: nil. -/
theorem append_nothing (w : World) (ty : TypeId) (ao : Option Addr) (c : Nat) :
    (Builtin.append_ #[27, 27] ty #[.slice none 0 0, .slice ao 0 c]).run Try.prog w = .ok (.slice none 0 0) w := by
  obtain ⟨i0, hi, hz0, hz1, hz2⟩ := info_parts infoBool
  cases ao with
  | none => simp [Builtin.append_, run_underlying Try.underlying27, sizeOf, typeInfo, hi, Builtin.lenOf, run_firstCells_none]
  | some a =>
    have hf := run_firstCells_some (P := Try.prog) w i0.size 0 a 0 c [] (by simp) (fun j v h => by simp at h)
    simp [Builtin.append_, run_underlying Try.underlying27, sizeOf, typeInfo, hi, Builtin.lenOf, hf]

set_option maxHeartbeats 1000000 in
set_option maxRecDepth 100000 in
theorem concat_none (B : Nat) (a1 a2 : Option Addr) (c1 c2 : Nat) (w : World) (e0 : w.cell? ⟨B, 0, none⟩ = some (.slice a1 0 c1)) (e1 : w.cell? ⟨B, 1, none⟩ = some (.slice a2 0 c2)) :
    Calls Try.prog 17 #[.slice (some ⟨B, 0, none⟩) 2 2] w fun e w' => e = .returned (.slice none 0 0) ∧ w = w' := by
  go_enter Try.func17, Try.ntmps17
  go_wp2_with fail
  refine wp_loop_rounds 3 ?_
  rw [rounds_succ]
  go_wp2_with fail
  rw [rounds_succ]
  go_wp2_with fail
  rw [rounds_succ]
  go_wp2_with (go_at_call 34; refine (grow_none _).mono ?_; rintro e w' ⟨rfl, rfl⟩)
  refine wp_loop_rounds 3 ?_
  rw [rounds_succ]
  go_wp2_with (at_builtin; refine Lib.wpList_append_run _ rfl _ _ _ _ rfl _ _ rfl rfl _ _ (append_nothing _ _ _ _) ?_)
  rw [rounds_succ]
  go_wp2_with (at_builtin; refine Lib.wpList_append_run _ rfl _ _ _ _ rfl _ _ rfl rfl _ _ (append_nothing _ _ _ _) ?_)
  rw [rounds_succ]
  go_wp2_with fail
  go_ret
  exact ⟨rfl, rfl⟩

/-- slices.Concat of two, whatever they are. -/
theorem concat_any (B : Nat) (a1 a2 : Option Addr) (c1 c2 : Nat) (l1 l2 : List Value) (w : World) (e0 : w.cell? ⟨B, 0, none⟩ = some (.slice a1 l1.length c1)) (e1 : w.cell? ⟨B, 1, none⟩ = some (.slice a2 l2.length c2))
    (s1 : Sl w a1 c1 l1) (s2 : Sl w a2 c2 l2) (o1 : ∀ v ∈ l1, v.oneCell' = true) (o2 : ∀ v ∈ l2, v.oneCell' = true) (hm : l1.length + l2.length ≤ 140737488355328) (hB : B < w.heap.size) :
    Calls Try.prog 17 #[.slice (some ⟨B, 0, none⟩) 2 2] w fun e w' => ∃ ao G, e = .returned (.slice ao (l1 ++ l2).length G) ∧ Sl w' ao G (l1 ++ l2) ∧ Below w.heap.size w w' := by
  rw [List.length_append]
  by_cases h0 : 0 < l1.length + l2.length
  · refine (concat_some B a1 a2 c1 c2 l1 l2 w e0 e1 s1 s2 o1 o2 h0 hm hB).mono ?_
    rintro e w' ⟨g, G, he, hs, hb⟩
    exact ⟨_, G, he, hs, hb⟩
  · obtain rfl : l1 = [] := List.eq_nil_of_length_eq_zero (by omega)
    obtain rfl : l2 = [] := List.eq_nil_of_length_eq_zero (by omega)
    refine (concat_none B a1 a2 c1 c2 w e0 e1).mono ?_
    rintro e w' ⟨he, rfl⟩
    exact ⟨none, 0, he, Sl.ofNil _, Below.refl _ _⟩

end Go.Proofs.Ythfcpnelfcehfaa
