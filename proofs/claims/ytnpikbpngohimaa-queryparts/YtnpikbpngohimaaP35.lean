/-
  QueryParts, what plain lists owe: a range in two parts, a width twice as great, three numbers in order.
-/
import Derived.Test.YtnpikbpngohimaaSort
import Derived.Sort.OwnSortedInts
import Derived.Lib.SliceRun
import Derived.Lib.AppendZeros
import Derived.Deep.RegionLaw
import Derived.Test.YtnpikbpngohimaaHQBuckets
import Derived.Test.YtnpikbpngohimaaP04
import Derived.Test.YtnpikbpngohimaaP01
import Derived.Test.YtnpikbpngohimaaP06
namespace Go.Proofs.Ytnpikbpngohimaa

theorem rng_two (f m t : Int) (h1 : f ≤ m) (h2 : m ≤ t) : ∀ (l : List Pt), Rises l → rngL l f m ++ rngL l m t = rngL l f t
  | [], _ => rfl
  | p :: r, hr => by
    obtain ⟨hp, hr'⟩ := List.pairwise_cons.1 hr
    have ih := rng_two f m t h1 h2 r hr'
    unfold rngL inR at ih ⊢
    simp only [List.filter_cons]
    by_cases a1 : f ≤ p.1 ∧ p.1 < m
    · rw [decide_eq_true a1, decide_eq_false (by omega : ¬ (m ≤ p.1 ∧ p.1 < t)), decide_eq_true (by omega : f ≤ p.1 ∧ p.1 < t)]
      simpa using ih
    · by_cases a2 : m ≤ p.1 ∧ p.1 < t
      · rw [decide_eq_false a1, decide_eq_true a2, decide_eq_true (by omega : f ≤ p.1 ∧ p.1 < t)]
        have e : r.filter (fun q => decide (f ≤ q.1 ∧ q.1 < m)) = [] := by
          rw [List.filter_eq_nil_iff]
          intro q hq
          have := hp q hq
          simp
          omega
        rw [e] at ih ⊢
        simpa using ih
      · rw [decide_eq_false a1, decide_eq_false a2, decide_eq_false (by omega : ¬ (f ≤ p.1 ∧ p.1 < t))]
        simpa using ih

theorem cut_twice {f t w : Int} (h : cutE f t w = 0) (hw : 2 * w ≤ 100001) : cutE f t (2 * w) = 0 := by
  obtain ⟨z1, z2, z3, z4, z5, z6⟩ := cutE_zero h
  unfold cutE
  rw [if_pos ⟨z1, z2, z3, by omega, hw⟩, if_neg]
  intro h2
  have a1 : t - f + w - 1 < 201 * w := Int.lt_mul_of_ediv_lt (by omega) (by omega)
  have a2 : (t - f + 2 * w - 1) / (2 * w) < 201 := Int.ediv_lt_of_lt_mul (by omega) (by omega)
  omega

theorem sort_three (a b c : Int) : ∃ x y z, [a, b, c].mergeSort (fun x y => decide (x ≤ y)) = [x, y, z] ∧ x ≤ y ∧ y ≤ z ∧ (x = a ∨ x = b ∨ x = c) ∧ (y = a ∨ y = b ∨ y = c) ∧ (z = a ∨ z = b ∨ z = c) := by
  have hs := List.pairwise_mergeSort (le := fun x y : Int => decide (x ≤ y)) (fun a b c h1 h2 => by simp at *; omega) (fun a b => by simp; omega) [a, b, c]
  have hl := List.length_mergeSort (le := fun x y : Int => decide (x ≤ y)) [a, b, c]
  have hm := fun x => List.mem_mergeSort (le := fun x y : Int => decide (x ≤ y)) (l := [a, b, c]) (a := x)
  generalize [a, b, c].mergeSort (fun x y => decide (x ≤ y)) = L at *
  match L, hl with
  | [x, y, z], _ =>
    have m1 := (hm x).1 (by simp)
    have m2 := (hm y).1 (by simp)
    have m3 := (hm z).1 (by simp)
    simp at hs m1 m2 m3
    exact ⟨x, y, z, rfl, by omega, by omega, m1, m2, m3⟩

end Go.Proofs.Ytnpikbpngohimaa

/-
  slices.Sort of three numbers in a block of the call's own. (The text <Seat>Sort is the shelf's contract in plain words: NOTES.md says how it is laid.)
-/
namespace Go.Proofs.Ytnpikbpngohimaa
open Go.Sort

theorem sort_any (g : Nat) (a b c : Int) (w : World) (B : Blk w g [.int .i64 a, .int .i64 b, .int .i64 c] 3) :
    Calls Try.prog 36 #[.slice (some ⟨g, 0, none⟩) 3 3] w fun e w' => ∃ x y z, e = .returned (.tuple #[]) ∧ Blk w' g [.int .i64 x, .int .i64 y, .int .i64 z] 3 ∧ x ≤ y ∧ y ≤ z ∧ (x = a ∨ x = b ∨ x = c) ∧ (y = a ∨ y = b ∨ y = c) ∧ (z = a ∨ z = b ∨ z = c) ∧ w.grownBy w' (some g) := by
  have hB : w.heap[g]? = some (.cells #[.int .i64 a, .int .i64 b, .int .i64 c] 3 (0, 0)) := B
  have p := Try.slices_Sort_int g 0 3 [a, b, c] w (holds_of_blockI (ss := [a, b, c]) hB rfl) B.lt (by simp)
  refine p.mono ?_
  rintro e w' ⟨rfl, n, os, rfl⟩
  obtain ⟨x, y, z, h, h1, h2, h3, h4, h5⟩ := sort_three a b c
  rw [h]
  refine ⟨x, y, z, rfl, ?_, h1, h2, h3, h4, h5, grownBy_sortedI _⟩
  exact heap_sortedI _ hB

end Go.Proofs.Ytnpikbpngohimaa

/-
  slices.Concat of two slices of points, not both of them empty: the new row, in new memory.
-/
namespace Go.Proofs.Ytnpikbpngohimaa
open Go.RowKit

theorem infoCP : (Try.prog.info? 44).map (fun i => (i.zero, i.size, i.bytes)) = some (some (.agg #[.int .i64 0, .int .i64 0]), 2, 16) := by kernel_rfl

set_option maxHeartbeats 400000 in
set_option maxRecDepth 100000 in
theorem growP (n : Nat) (w : World) (h0 : 0 < n) (hn : n * 16 ≤ 140737488355328) :
    Calls Try.prog 80 #[.slice none 0 0, .int .i64 n] w fun e w' => ∃ G, e = .returned (.slice (some ⟨w.heap.size, 0, none⟩) 0 G) ∧ n ≤ G ∧ G ≤ maxLen ∧ w'.ownsRow w.heap.size 44 2 (.slice (some ⟨w.heap.size, 0, none⟩) 0 G) 0 [] ∧ Below w.heap.size w w' := by
  obtain ⟨i0, hi, hz0, hz1, hz2⟩ := info_parts infoCP
  have hrz := fun ty => Lib.run_append_nil_zeros (P := Try.prog) w 26 3 ty 44 i0 (.agg #[.int .i64 0, .int .i64 0]) .i64 .i64 Try.underlying26 Try.underlying3 hi hz0 n h0 (by omega) (by omega) (by rw [hz2]; omega)
  have hG1 : n ≤ grownCap w n 0 44 := grownCap_ge w _ _ _
  have hG2 : grownCap w n 0 44 ≤ maxLen := grownCap_le_maxLen w n 0 _ (by unfold maxLen; omega)
  generalize grownCap w n 0 44 = G at *
  have hG3 := hG2
  unfold maxLen at hG3
  go_enter Try.func80, Try.ntmps80
  go_wp2_with (at_builtin; refine Lib.wpList_append_run _ rfl _ _ _ _ rfl _ _ rfl rfl _ _ (hrz _) ?_)
  go_ret
  refine ⟨G, rfl, hG1, hG2, ?_, ?_⟩
  · refine ⟨rfl, .inr ⟨w.heap.size, G, _, rfl, Nat.le_refl _, heap_alloc_new _ _, Nat.zero_le _, hG2, ?_, by simp⟩⟩
    rw [Array.size_append, size_zeroCells, size_zeroCells]
    show n * 2 + (G - n) * 2 = G * 2
    omega
  · repeat (first | exact Below.refl _ _ | apply Below.drew | refine Below.alloc ?_ (by simp) _)

theorem Row.srcP {w : World} {ao : Option Addr} {cs : List Value} (h : Row w ao cs) : ∀ ad, ao = some ad → ∀ j u, cs[j]? = some u → w.cell? (ad.add j) = some u := by
  intro ad had j u hu
  obtain ⟨b, off, e, _, hc⟩ := h.at (by intro e; rw [e] at hu; simp at hu)
  rw [e] at had
  obtain rfl := Option.some.inj had
  rw [Addr.add_lit]
  exact hc j u hu

set_option maxHeartbeats 1000000 in
set_option maxRecDepth 100000 in
theorem concatP (B : Nat) (a1 a2 : Option Addr) (c1 c2 n1 n2 : Nat) (C1 C2 : List Value) (w : World) (e0 : w.cell? ⟨B, 0, none⟩ = some (.slice a1 n1 c1)) (e1 : w.cell? ⟨B, 1, none⟩ = some (.slice a2 n2 c2))
    (s1 : Row w a1 C1) (s2 : Row w a2 C2) (h1 : C1.length = n1 * 2) (h2 : C2.length = n2 * 2) (y1 : a1 = none → n1 = 0 ∧ c1 = 0) (y2 : a2 = none → n2 = 0 ∧ c2 = 0)
    (o1 : ∀ v ∈ C1, v.oneCell' = true) (o2 : ∀ v ∈ C2, v.oneCell' = true) (h0 : 0 < n1 + n2) (hm : (n1 + n2) * 16 ≤ 140737488355328) (hB : B < w.heap.size) :
    Calls Try.prog 37 #[.slice (some ⟨B, 0, none⟩) 2 2] w fun e w' => ∃ g G, e = .returned (.slice (some ⟨g, 0, none⟩) (n1 + n2) G) ∧ w'.ownsRow w.heap.size 44 2 (.slice (some ⟨g, 0, none⟩) (n1 + n2) G) (n1 + n2) (C1 ++ C2) ∧ Below w.heap.size w w' := by
  obtain ⟨i0, hi, hz0, hz1, hz2⟩ := info_parts infoCP
  replace h1 := hide h1
  replace h2 := hide h2
  go_enter Try.func37, Try.ntmps37
  go_wp2_with fail
  refine wp_loop_rounds 3 ?_
  rw [rounds_succ]
  go_wp2_with fail
  rw [rounds_succ]
  go_wp2_with fail
  rw [rounds_succ]
  go_wp2_with fail
  have hg := growP (n1 + n2) w h0 hm
  rw [Int.natCast_add] at hg
  refine hg.mono ?_
  rintro e w1 ⟨G, rfl, hG1, hG2, own0, bel⟩
  clear hg
  have f0 : w1.cell? ⟨B, 0, none⟩ = some (.slice a1 n1 c1) := (bel.cell (p := ⟨B, 0, none⟩) hB).trans e0
  have f1 : w1.cell? ⟨B, 1, none⟩ = some (.slice a2 n2 c2) := (bel.cell (p := ⟨B, 1, none⟩) hB).trans e1
  have t1 := (s1.keep bel (Nat.le_refl _)).srcP
  have hlt := (own0.lt w.heap.size rfl).2
  clear e0 e1
  have b1 : 0 + n1 ≤ G := by omega
  go_wp2_with fail
  refine wp_loop_rounds 3 ?_
  rw [rounds_succ]
  go_wp2_with (at_builtin; refine wpList_append_fits_any _ rfl (.tmp 31) (.tmp 32) 26 rfl w.heap.size 44 i0 2 Try.underlying26 hi hz1 w.heap.size 0 G [] rfl own0 a1 n1 c1 C1 rfl h1.out y1 t1 o1 b1 ?_)
  intro w2 own1 grow1
  have bel2 : Below w.heap.size w w2 := bel.grown grow1 (by omega) (fun k h => by cases h; exact Nat.le_refl _)
  have f3 : w2.cell? ⟨B, 1, none⟩ = some (.slice a2 n2 c2) := grow1.cell f1 (by intro e; have h : B = w.heap.size := Option.some.inj e; omega)
  have t2 := (s2.keep bel2 (Nat.le_refl _)).srcP
  clear f0 f1 t1 own0 bel grow1 b1
  have b2 : n1 + n2 ≤ G := by omega
  go_wp2_with fail
  rw [rounds_succ]
  go_wp2_with (at_builtin; refine wpList_append_fits_any _ rfl (.tmp 31) (.tmp 32) 26 rfl w.heap.size 44 i0 2 Try.underlying26 hi hz1 w.heap.size n1 G C1 rfl own1 a2 n2 c2 C2 rfl h2.out y2 t2 o2 b2 ?_)
  intro w3 own2 grow2
  have bel3 : Below w.heap.size w w3 := bel2.grown grow2 (bel2.size) (fun k h => by cases h; exact Nat.le_refl _)
  go_wp2_with fail
  rw [rounds_succ]
  go_wp2_with fail
  go_ret
  exact ⟨w.heap.size, G, rfl, own2, bel3⟩

end Go.Proofs.Ytnpikbpngohimaa

/-
  slices.Concat of two slices of points, whatever they are.
-/
namespace Go.Proofs.Ytnpikbpngohimaa
open Go.RowKit

set_option maxRecDepth 100000 in
theorem growP_none (w : World) :
    Calls Try.prog 80 #[.slice none 0 0, .int .i64 0] w fun e w' => e = .returned (.slice none 0 0) ∧ w = w' := by
  go_enter Try.func80, Try.ntmps80
  go_wp2
  go_ret
  exact ⟨rfl, rfl⟩

theorem append_nothingP (w : World) (ty : TypeId) (ao : Option Addr) (c : Nat) :
    (Builtin.append_ #[26, 26] ty #[.slice none 0 0, .slice ao 0 c]).run Try.prog w = .ok (.slice none 0 0) w := by
  obtain ⟨i0, hi, hz0, hz1, hz2⟩ := info_parts infoCP
  cases ao with
  | none => simp [Builtin.append_, run_underlying Try.underlying26, sizeOf, typeInfo, hi, Builtin.lenOf, run_firstCells_none]
  | some a =>
    have hf := run_firstCells_some (P := Try.prog) w i0.size 0 a 0 c [] (by simp) (fun j v h => by simp at h)
    simp [Builtin.append_, run_underlying Try.underlying26, sizeOf, typeInfo, hi, Builtin.lenOf, hf]

set_option maxHeartbeats 1000000 in
set_option maxRecDepth 100000 in
theorem concatP_none (B : Nat) (a1 a2 : Option Addr) (c1 c2 : Nat) (w : World) (e0 : w.cell? ⟨B, 0, none⟩ = some (.slice a1 0 c1)) (e1 : w.cell? ⟨B, 1, none⟩ = some (.slice a2 0 c2)) :
    Calls Try.prog 37 #[.slice (some ⟨B, 0, none⟩) 2 2] w fun e w' => e = .returned (.slice none 0 0) ∧ w = w' := by
  go_enter Try.func37, Try.ntmps37
  go_wp2_with fail
  refine wp_loop_rounds 3 ?_
  rw [rounds_succ]
  go_wp2_with fail
  rw [rounds_succ]
  go_wp2_with fail
  rw [rounds_succ]
  go_wp2_with (go_at_call 80; refine (growP_none _).mono ?_; rintro e w' ⟨rfl, rfl⟩)
  refine wp_loop_rounds 3 ?_
  rw [rounds_succ]
  go_wp2_with (at_builtin; refine Lib.wpList_append_run _ rfl _ _ _ _ rfl _ _ rfl rfl _ _ (append_nothingP _ _ _ _) ?_)
  rw [rounds_succ]
  go_wp2_with (at_builtin; refine Lib.wpList_append_run _ rfl _ _ _ _ rfl _ _ rfl rfl _ _ (append_nothingP _ _ _ _) ?_)
  rw [rounds_succ]
  go_wp2_with fail
  go_ret
  exact ⟨rfl, rfl⟩

/-- Whatever they are. -/
theorem concatPt (B : Nat) (a1 a2 : Option Addr) (c1 c2 n1 n2 : Nat) (l1 l2 : List Pt) (w : World) (hn1 : n1 = l1.length) (hn2 : n2 = l2.length) (e0 : w.cell? ⟨B, 0, none⟩ = some (.slice a1 n1 c1)) (e1 : w.cell? ⟨B, 1, none⟩ = some (.slice a2 n2 c2))
    (s1 : SlP w a1 c1 l1) (s2 : SlP w a2 c2 l2) (hm : (n1 + n2) * 16 ≤ 140737488355328) (hB : B < w.heap.size) :
    Calls Try.prog 37 #[.slice (some ⟨B, 0, none⟩) 2 2] w fun e w' => ∃ ao G, e = .returned (.slice ao (n1 + n2) G) ∧ SlP w' ao G (l1 ++ l2) ∧ Below w.heap.size w w' := by
  by_cases h0 : n1 + n2 = 0
  · obtain rfl : n1 = 0 := by omega
    obtain rfl : n2 = 0 := by omega
    obtain rfl := List.length_eq_zero_iff.1 hn1.symm
    obtain rfl := List.length_eq_zero_iff.1 hn2.symm
    refine (concatP_none B a1 a2 c1 c2 w e0 e1).mono ?_
    rintro e w' ⟨rfl, rfl⟩
    exact ⟨none, 0, rfl, SlP.ofNil _, Below.refl _ _⟩
  · refine (concatP B a1 a2 c1 c2 n1 n2 (cellsP l1) (cellsP l2) w e0 e1 s1.row s2.row (by rw [cellsP_length, hn1]) (by rw [cellsP_length, hn2]) (fun h => ⟨by have := s1.le; have := s1.nil h; omega, s1.nil h⟩) (fun h => ⟨by have := s2.le; have := s2.nil h; omega, s2.nil h⟩) (cellsP_one l1) (cellsP_one l2) (by omega) hm hB).mono ?_
    rintro e w' ⟨g, G, rfl, own, bel⟩
    refine ⟨_, G, rfl, ?_, bel⟩
    rw [← cellsP_append] at own
    obtain ⟨a3, G3, e3, s3, _, _⟩ := SlP.ofOwn own
    simp only [Value.slice.injEq, true_and] at e3
    obtain ⟨rfl, rfl⟩ := e3
    exact s3

end Go.Proofs.Ytnpikbpngohimaa

/-
  QueryParts, what plain lists owe, further: where buckets start, how many points they have, what their sums are together; and stores into a row of the call's own.
-/
namespace Go.Proofs.Ytnpikbpngohimaa
open Go.RowKit

theorem emod_twice {d w : Int} (hw : 1 ≤ w) : d % (2 * w) = d % w + (d - d % w) % (2 * w) := by
  have h1 := Int.emod_nonneg d (show w ≠ 0 by omega)
  have h1' := Int.emod_lt_of_pos d (show 0 < w by omega)
  have h2 := Int.emod_add_mul_ediv d w
  have h3 := Int.emod_add_mul_ediv (d / w) 2
  have h4 := Int.emod_nonneg (d / w) (show (2 : Int) ≠ 0 by omega)
  have h5 := Int.emod_lt_of_pos (d / w) (show (0 : Int) < 2 by omega)
  generalize d / w / 2 = k at *
  generalize hb : d / w % 2 = b at *
  generalize d / w = q at *
  generalize d % w = r at *
  have e1 : w * q = w * b + 2 * w * k := by rw [← h3, Int.mul_add, ← Int.mul_assoc, Int.mul_comm w 2]
  have hb' : b = 0 ∨ b = 1 := by omega
  have e2 : d = (r + w * b) + 2 * w * k := by omega
  have e3 : d - r = w * b + 2 * w * k := by omega
  rw [e3, e2, Int.add_mul_emod_self_left, Int.add_mul_emod_self_left]
  rcases hb' with rfl | rfl
  · simp only [Int.mul_zero, Int.add_zero]
    rw [Int.emod_eq_of_lt (by omega) (by omega)]; simp
  · simp only [Int.mul_one]
    rw [Int.emod_eq_of_lt (by omega) (by omega), Int.emod_eq_of_lt (by omega) (by omega)]
theorem start_st {f w x : Int} (hw : 1 ≤ w) (h : f ≤ x) : f ≤ x - (x - f) % w ∧ x - (x - f) % w ≤ x ∧ (x - (x - f) % w - f) % w = 0 := by
  have h1 := Int.emod_nonneg (x - f) (show w ≠ 0 by omega)
  have h2 := Int.emod_add_mul_ediv (x - f) w
  have h3 : 0 ≤ (x - f) / w := Int.ediv_nonneg (by omega) (by omega)
  have h4 : 0 ≤ w * ((x - f) / w) := Int.mul_nonneg (by omega) h3
  refine ⟨by omega, by omega, ?_⟩
  rw [show x - (x - f) % w - f = w * ((x - f) / w) by omega]
  exact Int.mul_emod_right _ _
theorem start_mo {f w x y : Int} (hw : 1 ≤ w) (h : x ≤ y) : x - (x - f) % w ≤ y - (y - f) % w := by
  have h2 := Int.emod_add_mul_ediv (x - f) w
  have h3 := Int.emod_add_mul_ediv (y - f) w
  have h4 : (x - f) / w ≤ (y - f) / w := Int.ediv_le_ediv (by omega) (by omega)
  have h5 : w * ((x - f) / w) ≤ w * ((y - f) / w) := Int.mul_le_mul_of_nonneg_left h4 (by omega)
  omega

theorem start_twice {f w : Int} (hw : 1 ≤ w) (p : Pt) : startOf f (2 * w) p = startOf f w p - (startOf f w p - f) % (2 * w) := by
  unfold startOf
  have h := emod_twice (d := p.1 - f) hw
  rw [show p.1 - (p.1 - f) % w - f = p.1 - f - (p.1 - f) % w by omega]
  omega

theorem buckets_rise {l : List Pt} (hl : Rises l) (f t w : Int) (hw : 1 ≤ w) (h40 : l.length ≤ 40) :
    (∀ (k : Nat) (x : Bu), (runs (startOf f w) (rngL l f t))[k]? = some x → 1 ≤ x.m.n ∧ f ≤ x.s ∧ x.s < t ∧ (x.s - f) % w = 0) ∧
    (∀ (k : Nat) (x y : Bu), (runs (startOf f w) (rngL l f t))[k]? = some x → (runs (startOf f w) (rngL l f t))[k + 1]? = some y → x.s < y.s) := by
  have hp : (rngL l f t).Pairwise (fun p q => startOf f w p ≤ startOf f w q) := (rng_rises hl f t).imp (fun h => start_mo hw (Int.le_of_lt h))
  obtain ⟨h1, h2⟩ := runs_rises (startOf f w) _ _ (Nat.le_refl _) hp
  constructor
  · intro k x hx
    obtain ⟨⟨p, pm, e⟩, P, hP, hPl, em, _⟩ := h2 x (List.mem_of_getElem? hx)
    obtain ⟨_, q1, q2⟩ := rng_mem pm
    have hs := start_st (f := f) (x := p.1) hw q1
    have hl' := rng_len l f t
    have e' : x.s = p.1 - (p.1 - f) % w := e
    rw [← e'] at hs
    refine ⟨?_, hs.1, by omega, hs.2.2⟩
    rw [em, sumS_n P (by omega)]
    have := List.length_pos_iff.2 hP
    omega
  · intro k x y hx hy
    obtain ⟨a1, rfl⟩ := List.getElem?_eq_some_iff.1 hx
    obtain ⟨a2, rfl⟩ := List.getElem?_eq_some_iff.1 hy
    exact List.pairwise_iff_getElem.1 h1 k (k + 1) a1 a2 (Nat.lt_succ_self _)

theorem buckets_sum (l : List Pt) (f t w : Int) (h40 : l.length ≤ 40) : (runs (startOf f w) (rngL l f t)).foldl (fun a x => joinS a x.m) sm0 = sumS (rngL l f t) := by
  have hl' := rng_len l f t
  have := runs_sum (startOf f w) _ (rngL l f t) [] (Nat.le_refl _) (by simp; omega)
  rw [List.nil_append] at this
  exact this

theorem buckets_wide (l : List Pt) (f t w : Int) (hw : 1 ≤ w) (h40 : l.length ≤ 40) : (runs (startOf f w) (rngL l f t)).foldl (jn (fun s => s - (s - f) % (2 * w))) [] = runs (startOf f (2 * w)) (rngL l f t) := by
  have hl' := rng_len l f t
  exact runs_wide0 _ _ _ _ (by omega) (fun p _ => start_twice hw p)

/-- Stores into a row of the call's own. -/
theorem own_cell {w : World} {base : Nat} {e : TypeId} {size n g cap : Nat} {xs : List Value} (h : w.ownsRow base e size (.slice (some ⟨g, 0, none⟩) n cap) n xs) (i : Nat) (v : Value) (hv : xs[i]? = some v) : w.cell? ⟨g, i, none⟩ = some v ∧ w.frozen? ⟨g, i, none⟩ = false := by
  obtain ⟨h1, ⟨h2, _⟩ | ⟨g', cap', cur, e1, _, hh, _, _, hs, ht⟩⟩ := h
  · cases h2
  · simp only [Value.slice.injEq, Option.some.injEq, Addr.mk.injEq, and_true, true_and] at e1
    obtain ⟨rfl, rfl⟩ := e1
    have hi : i < xs.length := (List.getElem?_eq_some_iff.1 hv).1
    have hc : cur.toList[i]? = some v := by
      rw [← ht, List.getElem?_take] at hv
      split at hv
      · exact hv
      · cases hv
    constructor
    · simp only [World.cell?, hh]
      simpa using hc
    · simp [World.frozen?, hh]

theorem own_set {w : World} {base : Nat} {e : TypeId} {size n g cap : Nat} {xs : List Value} (h : w.ownsRow base e size (.slice (some ⟨g, 0, none⟩) n cap) n xs) (i : Nat) (u : Value) : (w.setCell ⟨g, i, none⟩ u).ownsRow base e size (.slice (some ⟨g, 0, none⟩) n cap) n (xs.set i u) := by
  obtain ⟨h1, ⟨h2, _⟩ | ⟨g', cap', cur, e1, hb, hh, hn, hm, hs, ht⟩⟩ := h
  · cases h2
  · simp only [Value.slice.injEq, Option.some.injEq, Addr.mk.injEq, and_true, true_and] at e1
    obtain ⟨rfl, rfl⟩ := e1
    refine ⟨by rw [List.length_set, h1], .inr ⟨g, cap, cur.setIfInBounds i u, rfl, hb, ?_, hn, hm, by simpa using hs, ?_⟩⟩
    · have hlt := lt_of_block hh
      have h' : w.heap[g] = .cells cur e (0, 0) := by simpa [Array.getElem?_eq_getElem hlt] using hh
      show (w.heap.modify g _)[g]? = _
      rw [Array.getElem?_eq_getElem (by simpa using hlt), Array.getElem_modify_self, h']
      rfl
    · rw [Array.toList_setIfInBounds, ← ht, List.take_set]

theorem own_some {w : World} {base : Nat} {e : TypeId} {size n G : Nat} {a : Option Addr} {xs : List Value} (h : w.ownsRow base e size (.slice a n G) n xs) (hn : n ≠ 0) : ∃ g, a = some ⟨g, 0, none⟩ ∧ base ≤ g := by
  obtain ⟨h1, ⟨h2, h3⟩ | ⟨g, cap', cur, e1, hb, _⟩⟩ := h
  · exact absurd h3 hn
  · simp only [Value.slice.injEq, true_and] at e1
    exact ⟨g, e1.1, hb⟩

/-- The last bucket's sum written anew. -/
theorem own_last {w : World} {base n g cap m : Nat} {e : TypeId} {O' : List Bu} {b : Bu} (h : w.ownsRow base e 5 (.slice (some ⟨g, 0, none⟩) n cap) n ((O' ++ [b]).flatMap bc)) (hm : m = O'.length) (u0 u1 u2 u3 : Int) :
    ((((w.setCell ⟨g, m * 5 + 1, none⟩ (.int .i64 u0)).setCell ⟨g, m * 5 + 1 + 1, none⟩ (.int .i64 u1)).setCell ⟨g, m * 5 + 1 + 2, none⟩ (.int .i64 u2)).setCell ⟨g, m * 5 + 1 + 3, none⟩ (.int .i64 u3)).ownsRow base e 5 (.slice (some ⟨g, 0, none⟩) n cap) n ((O' ++ [(⟨b.s, ⟨u0, u1, u2, u3⟩⟩ : Bu)]).flatMap bc) := by
  have h4 := own_set (own_set (own_set (own_set h (m * 5 + 1) (.int .i64 u0)) (m * 5 + 1 + 1) (.int .i64 u1)) (m * 5 + 1 + 2) (.int .i64 u2)) (m * 5 + 1 + 3) (.int .i64 u3)
  have hl : (O'.flatMap bc).length = m * 5 := by rw [flat_length bc_five, hm]
  have e1 : ((((((O' ++ [b]).flatMap bc).set (m * 5 + 1) (.int .i64 u0)).set (m * 5 + 1 + 1) (.int .i64 u1)).set (m * 5 + 1 + 2) (.int .i64 u2)).set (m * 5 + 1 + 3) (.int .i64 u3)) = (O' ++ [(⟨b.s, ⟨u0, u1, u2, u3⟩⟩ : Bu)]).flatMap bc := by
    rw [List.flatMap_append, List.flatMap_append, List.set_append_right _ _ (by omega), List.set_append_right _ _ (by omega), List.set_append_right _ _ (by omega), List.set_append_right _ _ (by omega), hl, show m * 5 + 1 - m * 5 = 1 by omega, show m * 5 + 1 + 1 - m * 5 = 2 by omega, show m * 5 + 1 + 2 - m * 5 = 3 by omega, show m * 5 + 1 + 3 - m * 5 = 4 by omega]
    rfl
  rw [e1] at h4
  exact h4

theorem last_cell {w : World} {base n g cap m : Nat} {e : TypeId} {O' : List Bu} {b : Bu} (h : w.ownsRow base e 5 (.slice (some ⟨g, 0, none⟩) n cap) n ((O' ++ [b]).flatMap bc)) (hm : m = O'.length) (j : Nat) (v : Value) (hv : (bc b)[j]? = some v) :
    w.cell? ⟨g, m * 5 + j, none⟩ = some v ∧ w.frozen? ⟨g, m * 5 + j, none⟩ = false := by
  have hj : j < 5 := (List.getElem?_eq_some_iff.1 hv).1
  refine own_cell h (m * 5 + j) v ?_
  rw [flat_get bc_five (O' ++ [b]) m j b (by rw [hm]; simp) hj]
  exact hv

end Go.Proofs.Ytnpikbpngohimaa

/-
  A call of a Go function as one step of a region that draws its order, by its contract. No function of the program is named.
-/
namespace Go.Proofs.Ytnpikbpngohimaa
open Go.RowKit

theorem step_go_call {P : Program} {ops : Array Oper} {o : Oper} {a : Act} {w : World} {K : Act → World → Prop} {Q : Exit → Act → World → Prop} {E : Prop}
    (hg : o.guard = none) (f : FuncId) (s : Operand) (t : TypeId) (hop : o.op = .call { callee := .value (.func f), args := #[s], argTypes := #[t] })
    (v : Value) (hv : a.eval s = v) (hf : Sem.run P (callFunc f #[v]) w = .ok (.enter f #[v]) w) {R : Ending → World → Prop} (c : Calls P f #[v] w R) (hr : ∀ e w', R e w' → ∃ u, e = .returned u) (h : ∀ u w', R (.returned u) w' → K (a.put o.dst u) w') :
    if Region.wanted o (yielded ops a.tmps) = true then Oper.wp P o a w K Q else E := by
  have hw : Region.wanted o (yielded ops a.tmps) = true := by simp [Region.wanted, hg]
  rw [if_pos hw]
  unfold Oper.wp
  have e1 : (execOp a.eval o).run P w = .ok (.enter f #[v]) w := by
    have e0 : a.eval (.func f) = .func (.func f) #[] #[] := rfl
    simp [execOp, hop, resolve, invoke, e0, hv, Deferred.ofValue, hf]
  rw [e1, Oper.upon_enter]
  refine c.mono ?_
  intro e w' he
  obtain ⟨u, rfl⟩ := hr e w' he
  exact h u w' he

theorem step_go_call2 {P : Program} {ops : Array Oper} {o : Oper} {a : Act} {w : World} {K : Act → World → Prop} {Q : Exit → Act → World → Prop} {E : Prop}
    (hg : o.guard = none) (f : FuncId) (s s' : Operand) (t t' : TypeId) (hop : o.op = .call { callee := .value (.func f), args := #[s, s'], argTypes := #[t, t'] })
    (v v' : Value) (hv : a.eval s = v) (hv' : a.eval s' = v') (hf : Sem.run P (callFunc f #[v, v']) w = .ok (.enter f #[v, v']) w) {R : Ending → World → Prop} (c : Calls P f #[v, v'] w R) (hr : ∀ e w', R e w' → ∃ u, e = .returned u) (h : ∀ u w', R (.returned u) w' → K (a.put o.dst u) w') :
    if Region.wanted o (yielded ops a.tmps) = true then Oper.wp P o a w K Q else E := by
  have hw : Region.wanted o (yielded ops a.tmps) = true := by simp [Region.wanted, hg]
  rw [if_pos hw]
  unfold Oper.wp
  have e1 : (execOp a.eval o).run P w = .ok (.enter f #[v, v']) w := by
    have e0 : a.eval (.func f) = .func (.func f) #[] #[] := rfl
    simp [execOp, hop, resolve, invoke, e0, hv, hv', Deferred.ofValue, hf]
  rw [e1, Oper.upon_enter]
  refine c.mono ?_
  intro e w' he
  obtain ⟨u, rfl⟩ := hr e w' he
  exact h u w' he

end Go.Proofs.Ytnpikbpngohimaa
