/-
  slices.Equal at entries; note.Same, and the reference's SameRec: whether two records are alike.
-/
import Derived.Test.YthoclnjfbigdiaaDoorNCheck
import Derived.Deep.RegionHeld3
namespace Go.Proofs.YthoclnjfbigdiaaDoor
open Go.RowKit

set_option maxHeartbeats 1000000 in
set_option maxRecDepth 100000 in
theorem equalE (a1 a2 : Option Addr) (c1 c2 n1 n2 : Nat) (l m : List Nt) (w : World) (r1 : SlW ec w a1 c1 l) (r2 : SlW ec w a2 c2 m) (hn1 : n1 = l.length) (hn2 : n2 = m.length) :
    Calls Tryd.prog 34 #[.slice a1 n1 c1, .slice a2 n2 c2] w fun e w' => e = .returned (.bool (decide (l = m))) ∧ Below w.heap.size w w' := by
  have hl : n1 ≤ 9223372036854775807 := by have := r1.le; have := r1.max; omega
  by_cases hnm : n1 = n2
  · subst hnm
    obtain ⟨E, hE⟩ : ∃ E, E = decide (l = m) := ⟨_, rfl⟩
    rw [← hE]
    replace hE := hide hE
    replace hn1 := hide hn1
    replace hn2 := hide hn2
    go_enter Tryd.func34, Tryd.ntmps34
    go_wp2_with fail
    go_loopw [13] (fun i wr => ∃ (k q : Nat), k ≤ n1 ∧ i = .int .i64 k ∧ wr = w.drewN q ∧ Hid (l.take k = m.take k)) (fun i _ => n1 - (intOf i).toNat)
    case atStart => exact ⟨0, 0, Nat.zero_le _, rfl, rfl, hide (by simp)⟩
    case round =>
      obtain ⟨k, q, hk, rfl, rfl, hA⟩ := hrel
      by_cases hlt : k < n1
      · have hk1 : k < l.length := by rw [← hn1.out]; exact hlt
        have hk2 : k < m.length := by rw [← hn2.out]; exact hlt
        obtain ⟨b1, o1, rfl, -⟩ := r1.where ec_three (by decide) (by intro h; subst h; simp at hk1)
        obtain ⟨b2, o2, rfl, -⟩ := r2.where ec_three (by decide) (by intro h; subst h; simp at hk2)
        obtain ⟨x, hx⟩ : ∃ x, l[k]? = some x := ⟨_, List.getElem?_eq_getElem hk1⟩
        obtain ⟨y, hy⟩ : ∃ y, m[k]? = some y := ⟨_, List.getElem?_eq_getElem hk2⟩
        have s1 := r1.drewN q
        have s2 := r2.drewN q
        have d0 := s1.cell ec_three k 0 x _ hx rfl
        have d1 := s1.cell ec_three k 1 x _ hx rfl
        have d2 := s1.cell ec_three k 2 x _ hx rfl
        have e0 := s2.cell ec_three k 0 y _ hy rfl
        have e1 := s2.cell ec_three k 1 y _ hy rfl
        have e2 := s2.cell ec_three k 2 y _ hy rfl
        simp only [Nat.add_zero] at d0 e0
        have hyes : x = y → Hid (l.take (k + 1) = m.take (k + 1)) := by
          intro h
          rw [List.take_add_one, List.take_add_one, hA.out, hx, hy, h]
          exact hide rfl
        have hno : x ≠ y → E = false := by
          intro h
          rw [hE.out]
          refine decide_eq_false (fun e => h ?_)
          rw [e, hy] at hx
          exact (Option.some.inj hx).symm
        obtain ⟨x0, x1, x2⟩ := x
        obtain ⟨y0, y1, y2⟩ := y
        simp only at *
        clear s1 s2 r1 r2 hk1 hk2 hx hy
        generalize hwq : w.drewN q = wq at *
        replace hwq := hide hwq
        by_cases h0 : x0 = y0
        · by_cases h1 : x1 = y1
          · by_cases h2 : x2 = y2
            · subst h0
              subst h1
              subst h2
              have hY := hyes rfl
              clear hno hyes
              go_wp2_with fail
              go_region
              all_goals go_wp2
              all_goals go_roundw
              case rel => exact ⟨k + 1, q + 1, by omega, by go_num, by rw [← hwq.out]; rfl, hY⟩
              case measure => simp [intOf]; omega
            · obtain rfl := hno (by intro e; simp at e; exact h2 e.2.2)
              subst h0
              subst h1
              clear hyes
              go_wp2_with fail
              go_region
              all_goals go_wp2
              all_goals go_ret
              exact ⟨rfl, by rw [← hwq.out]; exact belowDrewN (Below.refl _ _) (q + 1)⟩
          · obtain rfl := hno (by intro e; simp at e; exact h1 e.2.1)
            subst h0
            clear hyes
            go_wp2_with fail
            go_region
            all_goals go_wp2
            all_goals go_ret
            exact ⟨rfl, by rw [← hwq.out]; exact belowDrewN (Below.refl _ _) (q + 1)⟩
        · obtain rfl := hno (by intro e; simp at e; exact h0 e.1)
          clear hyes
          go_wp2_with fail
          go_region
          all_goals go_wp2
          all_goals go_ret
          exact ⟨rfl, by rw [← hwq.out]; exact belowDrewN (Below.refl _ _) (q + 1)⟩
      · obtain rfl : n1 = k := by omega
        obtain rfl : E = true := by
          rw [hE.out]
          have := hA.out
          rw [List.take_of_length_le (by rw [← hn1.out]; exact Nat.le_refl _), List.take_of_length_le (by rw [← hn2.out]; exact Nat.le_refl _)] at this
          exact decide_eq_true this
        go_wp2
        go_ret
        exact ⟨rfl, belowDrewN (Below.refl _ _) q⟩
  · rw [decide_eq_false (by intro h; subst h; exact hnm (hn1.trans hn2.symm))]
    replace hn1 := hide hn1
    replace hn2 := hide hn2
    have hnm' : ¬ (n1 : Int) = n2 := by omega
    go_enter Tryd.func34, Tryd.ntmps34
    go_wp2
    go_ret
    exact ⟨rfl, Below.refl _ _⟩

set_option maxHeartbeats 1000000 in
set_option maxRecDepth 100000 in
theorem same_is (r q : Rc) (a1 a2 : Option Addr) (c1 c2 n1 n2 : Nat) (w : World) (s1 : SlW ec w a1 c1 r.e) (s2 : SlW ec w a2 c2 q.e) (hn1 : n1 = r.e.length) (hn2 : n2 = q.e.length) :
    Calls Tryd.prog 11 #[.agg #[.int .i64 r.k, .int .i64 r.s, .int .i64 r.n, .slice a1 n1 c1], .agg #[.int .i64 q.k, .int .i64 q.s, .int .i64 q.n, .slice a2 n2 c2]] w fun e w' => e = .returned (.bool (decide (r.k = q.k ∧ r.s = q.s ∧ r.n = q.n ∧ r.e = q.e))) ∧ Below w.heap.size w w' := by
  obtain ⟨k, s, m, l⟩ := r
  obtain ⟨k', s', m', l'⟩ := q
  simp only at *
  have S1 := (s1.alloc (.cells #[.int .i64 k, .int .i64 s, .int .i64 m, .slice a1 n1 c1] 24)).alloc (.cells #[.int .i64 k', .int .i64 s', .int .i64 m', .slice a2 n2 c2] 24)
  have S2 := (s2.alloc (.cells #[.int .i64 k, .int .i64 s, .int .i64 m, .slice a1 n1 c1] 24)).alloc (.cells #[.int .i64 k', .int .i64 s', .int .i64 m', .slice a2 n2 c2] 24)
  have bel := newB (newB (Below.refl w.heap.size w) (.cells #[.int .i64 k, .int .i64 s, .int .i64 m, .slice a1 n1 c1] 24)) (.cells #[.int .i64 k', .int .i64 s', .int .i64 m', .slice a2 n2 c2] 24)
  have cE := fun W h1 h2 => equalE a1 a2 c1 c2 n1 n2 l l' W h1 h2 hn1 hn2
  obtain ⟨D, hD⟩ : ∃ D, D = decide (l = l') := ⟨_, rfl⟩
  rw [← hD] at cE
  obtain ⟨R, hR⟩ : ∃ R, R = decide (k = k' ∧ s = s' ∧ m = m' ∧ l = l') := ⟨_, rfl⟩
  rw [← hR]
  replace hn1 := hide hn1
  replace hn2 := hide hn2
  by_cases h0 : k = k'
  · by_cases h1 : s = s'
    · by_cases h2 : m = m'
      · obtain rfl : R = D := by rw [hR, hD]; simp [h0, h1, h2]
        subst h0
        subst h1
        subst h2
        clear hD hR
        go_enter Tryd.func11, Tryd.ntmps11
        go_wp2_with fail
        go_at_call 34
        refine (cE _ S1 S2).mono ?_
        rintro e w2 ⟨rfl, b2⟩
        go_wp2_with fail
        go_ret
        exact ⟨by simp, belowCall bel b2⟩
      · obtain rfl : R = false := by rw [hR]; simp [h2]
        subst h0
        subst h1
        have d : decide (m = m') = false := decide_eq_false h2
        clear hD hR
        go_enter Tryd.func11, Tryd.ntmps11
        go_wp2_with fail
        go_ret
        exact ⟨rfl, bel⟩
    · obtain rfl : R = false := by rw [hR]; simp [h1]
      subst h0
      have d : decide (s = s') = false := decide_eq_false h1
      clear hD hR
      go_enter Tryd.func11, Tryd.ntmps11
      go_wp2_with fail
      go_ret
      exact ⟨rfl, bel⟩
  · obtain rfl : R = false := by rw [hR]; simp [h0]
    have d : decide (k = k') = false := decide_eq_false h0
    clear hD hR
    go_enter Tryd.func11, Tryd.ntmps11
    go_wp2_with fail
    go_ret
    exact ⟨rfl, bel⟩

set_option maxHeartbeats 1000000 in
set_option maxRecDepth 100000 in
theorem rsame_is (r q : Rc) (a1 a2 : Option Addr) (c1 c2 n1 n2 : Nat) (w : World) (s1 : SlW ec w a1 c1 r.e) (s2 : SlW ec w a2 c2 q.e) (hn1 : n1 = r.e.length) (hn2 : n2 = q.e.length) :
    Calls Tryd.prog 12 #[.agg #[.int .i64 r.k, .int .i64 r.s, .int .i64 r.n, .slice a1 n1 c1], .agg #[.int .i64 q.k, .int .i64 q.s, .int .i64 q.n, .slice a2 n2 c2]] w fun e w' => e = .returned (.bool (decide (r.k = q.k ∧ r.s = q.s ∧ r.n = q.n ∧ r.e = q.e))) ∧ Below w.heap.size w w' := by
  obtain ⟨k, s, m, l⟩ := r
  obtain ⟨k', s', m', l'⟩ := q
  simp only at *
  have S1 := (s1.alloc (.cells #[.int .i64 k, .int .i64 s, .int .i64 m, .slice a1 n1 c1] 24)).alloc (.cells #[.int .i64 k', .int .i64 s', .int .i64 m', .slice a2 n2 c2] 24)
  have S2 := (s2.alloc (.cells #[.int .i64 k, .int .i64 s, .int .i64 m, .slice a1 n1 c1] 24)).alloc (.cells #[.int .i64 k', .int .i64 s', .int .i64 m', .slice a2 n2 c2] 24)
  have bel := newB (newB (Below.refl w.heap.size w) (.cells #[.int .i64 k, .int .i64 s, .int .i64 m, .slice a1 n1 c1] 24)) (.cells #[.int .i64 k', .int .i64 s', .int .i64 m', .slice a2 n2 c2] 24)
  have cE := fun W h1 h2 => equalE a1 a2 c1 c2 n1 n2 l l' W h1 h2 hn1 hn2
  obtain ⟨D, hD⟩ : ∃ D, D = decide (l = l') := ⟨_, rfl⟩
  rw [← hD] at cE
  obtain ⟨R, hR⟩ : ∃ R, R = decide (k = k' ∧ s = s' ∧ m = m' ∧ l = l') := ⟨_, rfl⟩
  rw [← hR]
  replace hn1 := hide hn1
  replace hn2 := hide hn2
  by_cases h0 : k = k'
  · by_cases h1 : s = s'
    · by_cases h2 : m = m'
      · obtain rfl : R = D := by rw [hR, hD]; simp [h0, h1, h2]
        subst h0
        subst h1
        subst h2
        clear hD hR
        go_enter Tryd.func12, Tryd.ntmps12
        go_wp2_with fail
        go_at_call 34
        refine (cE _ S1 S2).mono ?_
        rintro e w2 ⟨rfl, b2⟩
        go_wp2_with fail
        go_ret
        exact ⟨by simp, belowCall bel b2⟩
      · obtain rfl : R = false := by rw [hR]; simp [h2]
        subst h0
        subst h1
        have d : decide (m = m') = false := decide_eq_false h2
        clear hD hR
        go_enter Tryd.func12, Tryd.ntmps12
        go_wp2_with fail
        go_ret
        exact ⟨rfl, bel⟩
    · obtain rfl : R = false := by rw [hR]; simp [h1]
      subst h0
      have d : decide (s = s') = false := decide_eq_false h1
      clear hD hR
      go_enter Tryd.func12, Tryd.ntmps12
      go_wp2_with fail
      go_ret
      exact ⟨rfl, bel⟩
  · obtain rfl : R = false := by rw [hR]; simp [h0]
    have d : decide (k = k') = false := decide_eq_false h0
    clear hD hR
    go_enter Tryd.func12, Tryd.ntmps12
    go_wp2_with fail
    go_ret
    exact ⟨rfl, bel⟩

end Go.Proofs.YthoclnjfbigdiaaDoor
