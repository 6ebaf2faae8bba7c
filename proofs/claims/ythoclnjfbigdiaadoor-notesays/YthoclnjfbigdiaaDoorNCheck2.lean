/-
  note.Check, whatever the record.
-/
import Derived.Test.YthoclnjfbigdiaaDoorNCheck
namespace Go.Proofs.YthoclnjfbigdiaaDoor
open Go.RowKit

set_option maxHeartbeats 1000000 in
set_option maxRecDepth 100000 in
theorem checkBatch_any (s m : Int) (l : List Nt) (a : Option Addr) (cap n : Nat) (w : World) (S : SlW ec w a cap l) (hn : n = l.length) :
    Calls Tryd.prog 32 #[.agg #[.int .i64 1, .int .i64 s, .int .i64 m, .slice a n cap]] w fun e w' => e = .returned (.int .i64 (if s ≠ 0 ∨ m ≠ 0 then 4 else if 10 < l.length then 2 else if l.all ntOk then 0 else 3)) ∧ Below w.heap.size w w' := by
  by_cases hs : s = 0
  · subst hs
    by_cases hm : m = 0
    · subst hm
      rw [if_neg (by simp)]
      by_cases h10 : 10 < n
      · rw [if_pos (by rw [← hn]; exact h10)]
        have h10' : (10 : Int) < n := by omega
        replace hn := hide hn
        go_enter Tryd.func32, Tryd.ntmps32
        go_wp2_with fail
        go_ret
        exact ⟨rfl, (Below.refl _ _).alloc (Nat.le_refl _) _⟩
      · rw [if_neg (by rw [← hn]; exact h10)]
        exact batchLoop l a cap n w S hn (by omega)
    · rw [if_pos (.inr hm)]
      replace hn := hide hn
      have hm' : decide (m = 0) = false := decide_eq_false hm
      go_enter Tryd.func32, Tryd.ntmps32
      go_wp2_with fail
      go_ret
      exact ⟨rfl, (Below.refl _ _).alloc (Nat.le_refl _) _⟩
  · rw [if_pos (.inl hs)]
    replace hn := hide hn
    have hs' : decide (s = 0) = false := decide_eq_false hs
    go_enter Tryd.func32, Tryd.ntmps32
    go_wp2_with fail
    go_ret
    exact ⟨rfl, (Below.refl _ _).alloc (Nat.le_refl _) _⟩

def plainE (k s m : Int) (l : List Nt) : Int := if l ≠ [] ∨ (k = 4 ∧ s ≠ 0) then 4 else if 0 ≤ s ∧ s < 4 ∧ 0 ≤ m ∧ m ≤ 100001 then 0 else 3

set_option maxHeartbeats 1000000 in
set_option maxRecDepth 100000 in
theorem plain_rest (k s m : Int) (a : Option Addr) (cap : Nat) (w : World) (hk : k ≠ 4 ∨ s = 0) :
    Calls Tryd.prog 33 #[.agg #[.int .i64 k, .int .i64 s, .int .i64 m, .slice a 0 cap]] w fun e w' => e = .returned (.int .i64 (if 0 ≤ s ∧ s < 4 ∧ 0 ≤ m ∧ m ≤ 100001 then 0 else 3)) ∧ Below w.heap.size w w' := by
  obtain ⟨E, hE⟩ : ∃ E : Int, E = if 0 ≤ s ∧ s < 4 ∧ 0 ≤ m ∧ m ≤ 100001 then 0 else 3 := ⟨_, rfl⟩
  rw [← hE]
  have c1 := fun W => isSeries_any s W
  by_cases h4 : k = 4
  · obtain rfl : s = 0 := hk.resolve_left (fun h => h h4)
    subst h4
    rw [decide_eq_true (by omega : (0 : Int) ≤ 0 ∧ (0 : Int) < 4)] at c1
    clear hk
    by_cases m0 : m < 0
    · obtain rfl : E = 3 := by rw [hE, if_neg (by omega)]
      clear hE
      have d0 : decide (m < 0) = true := decide_eq_true m0
      go_enter Tryd.func33, Tryd.ntmps33
      go_wp2_with fail
      go_at_call 55
      refine (c1 _).mono ?_
      rintro e w2 ⟨rfl, rfl⟩
      go_wp2_with fail
      go_ret
      exact ⟨rfl, (Below.refl _ _).alloc (Nat.le_refl _) _⟩
    · have d0 : decide (m < 0) = false := decide_eq_false m0
      by_cases m1 : 100001 < m
      · obtain rfl : E = 3 := by rw [hE, if_neg (by omega)]
        clear hE
        have d1 : decide ((100001 : Int) < m) = true := decide_eq_true m1
        go_enter Tryd.func33, Tryd.ntmps33
        go_wp2_with fail
        go_at_call 55
        refine (c1 _).mono ?_
        rintro e w2 ⟨rfl, rfl⟩
        go_wp2_with fail
        go_ret
        exact ⟨rfl, (Below.refl _ _).alloc (Nat.le_refl _) _⟩
      · obtain rfl : E = 0 := by rw [hE, if_pos (by omega)]
        clear hE
        have d1 : decide ((100001 : Int) < m) = false := decide_eq_false m1
        go_enter Tryd.func33, Tryd.ntmps33
        go_wp2_with fail
        go_at_call 55
        refine (c1 _).mono ?_
        rintro e w2 ⟨rfl, rfl⟩
        go_wp2_with fail
        go_ret
        exact ⟨rfl, (Below.refl _ _).alloc (Nat.le_refl _) _⟩
  · have d4 : decide (k = 4) = false := decide_eq_false h4
    clear hk
    by_cases hs : 0 ≤ s ∧ s < 4
    · rw [decide_eq_true hs] at c1
      by_cases m0 : m < 0
      · obtain rfl : E = 3 := by rw [hE, if_neg (by omega)]
        clear hE
        have d0 : decide (m < 0) = true := decide_eq_true m0
        go_enter Tryd.func33, Tryd.ntmps33
        go_wp2_with fail
        go_at_call 55
        refine (c1 _).mono ?_
        rintro e w2 ⟨rfl, rfl⟩
        go_wp2_with fail
        go_ret
        exact ⟨rfl, (Below.refl _ _).alloc (Nat.le_refl _) _⟩
      · have d0 : decide (m < 0) = false := decide_eq_false m0
        by_cases m1 : 100001 < m
        · obtain rfl : E = 3 := by rw [hE, if_neg (by omega)]
          clear hE
          have d1 : decide ((100001 : Int) < m) = true := decide_eq_true m1
          go_enter Tryd.func33, Tryd.ntmps33
          go_wp2_with fail
          go_at_call 55
          refine (c1 _).mono ?_
          rintro e w2 ⟨rfl, rfl⟩
          go_wp2_with fail
          go_ret
          exact ⟨rfl, (Below.refl _ _).alloc (Nat.le_refl _) _⟩
        · obtain rfl : E = 0 := by rw [hE, if_pos (by omega)]
          clear hE
          have d1 : decide ((100001 : Int) < m) = false := decide_eq_false m1
          go_enter Tryd.func33, Tryd.ntmps33
          go_wp2_with fail
          go_at_call 55
          refine (c1 _).mono ?_
          rintro e w2 ⟨rfl, rfl⟩
          go_wp2_with fail
          go_ret
          exact ⟨rfl, (Below.refl _ _).alloc (Nat.le_refl _) _⟩
    · rw [decide_eq_false hs] at c1
      obtain rfl : E = 3 := by rw [hE, if_neg (by omega)]
      clear hE
      go_enter Tryd.func33, Tryd.ntmps33
      go_wp2_with fail
      go_at_call 55
      refine (c1 _).mono ?_
      rintro e w2 ⟨rfl, rfl⟩
      go_wp2_with fail
      go_ret
      exact ⟨rfl, (Below.refl _ _).alloc (Nat.le_refl _) _⟩

set_option maxHeartbeats 1000000 in
set_option maxRecDepth 100000 in
theorem checkPlain_any (k s m : Int) (l : List Nt) (a : Option Addr) (cap n : Nat) (w : World) (hn : n = l.length) :
    Calls Tryd.prog 33 #[.agg #[.int .i64 k, .int .i64 s, .int .i64 m, .slice a n cap]] w fun e w' => e = .returned (.int .i64 (plainE k s m l)) ∧ Below w.heap.size w w' := by
  unfold plainE
  by_cases h0 : n = 0
  · subst h0
    obtain rfl := List.length_eq_zero_iff.1 hn.symm
    by_cases hk : k = 4 ∧ s ≠ 0
    · rw [if_pos (.inr hk)]
      obtain ⟨rfl, hs⟩ := hk
      have d1 : decide (s = 0) = false := decide_eq_false hs
      clear hn
      go_enter Tryd.func33, Tryd.ntmps33
      go_wp2_with fail
      go_ret
      exact ⟨rfl, (Below.refl _ _).alloc (Nat.le_refl _) _⟩
    · rw [if_neg (by rintro (h | h); exact h rfl; exact hk h)]
      exact plain_rest k s m a cap w (by by_cases h4 : k = 4; exact .inr (Decidable.of_not_not (fun h => hk ⟨h4, h⟩)); exact .inl h4)
  · rw [if_pos (.inl (by intro h; subst h; exact h0 hn))]
    have hp : (0 : Int) < n := by omega
    have hd : decide (0 < n) = true := decide_eq_true (by omega)
    replace hn := hide hn
    go_enter Tryd.func33, Tryd.ntmps33
    go_wp2_with fail
    go_ret
    exact ⟨rfl, (Below.refl _ _).alloc (Nat.le_refl _) _⟩

set_option maxHeartbeats 1000000 in
set_option maxRecDepth 100000 in
theorem check_is (r : Rc) (a : Option Addr) (cap n : Nat) (w : World) (S : SlW ec w a cap r.e) (hn : n = r.e.length) :
    Calls Tryd.prog 10 #[.agg #[.int .i64 r.k, .int .i64 r.s, .int .i64 r.n, .slice a n cap]] w fun e w' => e = .returned (.int .i64 (recE r)) ∧ Below w.heap.size w w' := by
  obtain ⟨k, s, m, l⟩ := r
  simp only at *
  have cp := fun W => checkPlain_any k s m l a cap n W hn
  have S1 := S.alloc (.cells #[.int .i64 k, .int .i64 s, .int .i64 m, .slice a n cap] 24)
  have bel : Below w.heap.size w (w.alloc (.cells #[.int .i64 k, .int .i64 s, .int .i64 m, .slice a n cap] 24)) := (Below.refl _ _).alloc (Nat.le_refl _) _
  by_cases h1 : k = 1
  · subst h1
    have c := fun W h => checkBatch_any s m l a cap n W h hn
    rw [show recE ⟨1, s, m, l⟩ = if s ≠ 0 ∨ m ≠ 0 then 4 else if 10 < l.length then 2 else if l.all ntOk then 0 else 3 from rfl]
    generalize (if s ≠ 0 ∨ m ≠ 0 then (4 : Int) else if 10 < l.length then 2 else if l.all ntOk then 0 else 3) = E at *
    replace hn := hide hn
    go_enter Tryd.func10, Tryd.ntmps10
    go_wp2_with fail
    go_at_call 32
    refine (c _ S1).mono ?_
    rintro e w2 ⟨rfl, b2⟩
    go_wp2_with fail
    go_ret
    exact ⟨rfl, belowCall bel b2⟩
  · have d1 : decide (k = 1) = false := decide_eq_false h1
    by_cases h2 : k = 2 ∨ k = 3 ∨ k = 4
    · rw [show recE ⟨k, s, m, l⟩ = plainE k s m l by unfold recE plainE; rw [if_neg h1, if_pos h2]]
      generalize plainE k s m l = E at *
      replace hn := hide hn
      rcases h2 with rfl | rfl | rfl
      · go_enter Tryd.func10, Tryd.ntmps10
        go_wp2_with fail
        go_at_call 33
        refine (cp _).mono ?_
        rintro e w2 ⟨rfl, b2⟩
        go_wp2_with fail
        go_ret
        exact ⟨rfl, belowCall bel b2⟩
      · go_enter Tryd.func10, Tryd.ntmps10
        go_wp2_with fail
        go_at_call 33
        refine (cp _).mono ?_
        rintro e w2 ⟨rfl, b2⟩
        go_wp2_with fail
        go_ret
        exact ⟨rfl, belowCall bel b2⟩
      · go_enter Tryd.func10, Tryd.ntmps10
        go_wp2_with fail
        go_at_call 33
        refine (cp _).mono ?_
        rintro e w2 ⟨rfl, b2⟩
        go_wp2_with fail
        go_ret
        exact ⟨rfl, belowCall bel b2⟩
    · rw [show recE ⟨k, s, m, l⟩ = 4 by unfold recE; rw [if_neg h1, if_neg h2]]
      have d2 : ¬ k = 2 := fun h => h2 (.inl h)
      have d3 : ¬ k = 3 := fun h => h2 (.inr (.inl h))
      have d4 : ¬ k = 4 := fun h => h2 (.inr (.inr h))
      replace hn := hide hn
      clear h2 d1
      go_enter Tryd.func10, Tryd.ntmps10
      go_wp2_with fail
      go_ret
      exact ⟨rfl, bel⟩

end Go.Proofs.YthoclnjfbigdiaaDoor
