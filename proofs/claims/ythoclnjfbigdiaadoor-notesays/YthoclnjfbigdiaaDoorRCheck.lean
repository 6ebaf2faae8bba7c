/-
  The reference's CheckRec: what is wrong with a record.
-/
import Derived.Test.YthoclnjfbigdiaaDoorNCheck2
import Derived.Test.YthoclnjfbigdiaaDoorRefPoint
namespace Go.Proofs.YthoclnjfbigdiaaDoor
open Go.RowKit

theorem ntOk_split (x : Nt) : ntOk x = (decide (0 ≤ x.1 ∧ x.1 ≤ 3) && ptOk (x.2.1, x.2.2)) := by
  unfold ntOk ptOk
  rw [Bool.eq_iff_iff]
  simp only [decide_eq_true_eq, Bool.and_eq_true]
  omega

set_option maxHeartbeats 1000000 in
set_option maxRecDepth 100000 in
theorem rcheck_loop (l : List Nt) (a : Option Addr) (cap n : Nat) (w : World) (S : SlW ec w a cap l) (hn : n = l.length) (few : n ≤ 10) :
    Calls Tryd.prog 27 #[.agg #[.int .i64 1, .int .i64 0, .int .i64 0, .slice a n cap]] w fun e w' => e = .returned (.int .i64 (if l.all ntOk then 0 else 3)) ∧ Below w.heap.size w w' := by
  obtain ⟨E, hE⟩ : ∃ E : Int, E = if l.all ntOk then 0 else 3 := ⟨_, rfl⟩
  rw [← hE]
  replace hE := hide hE
  replace hn := hide hn
  have bel : Below w.heap.size w (w.alloc (.cells #[.int .i64 1, .int .i64 0, .int .i64 0, .slice a n cap] 24)) := (Below.refl _ _).alloc (Nat.le_refl _) _
  have few' : ¬ (10 : Int) < n := by omega
  have c1 := fun W => in_any 1 1 4 W
  have c2 := fun W => in_any 0 0 3 W
  have c3 := fun W => in_any 0 0 100001 W
  rw [decide_eq_true (by omega)] at c1 c2 c3
  go_enter Tryd.func27, Tryd.ntmps27
  go_wp2_with fail
  go_at_call 51
  refine (c1 _).mono ?_
  rintro e w2 ⟨rfl, rfl⟩
  go_wp2_with fail
  go_at_call 51
  refine (c2 _).mono ?_
  rintro e w2 ⟨rfl, rfl⟩
  go_wp2_with fail
  go_at_call 51
  refine (c3 _).mono ?_
  rintro e w2 ⟨rfl, rfl⟩
  go_wp2_with fail
  generalize w.alloc _ = w1 at *
  go_loopw [59] (fun i wr => ∃ (k : Nat), k ≤ n ∧ i = .int .i64 k ∧ Hid ((l.take k).all ntOk = true) ∧ Below w.heap.size w wr) (fun i _ => n - (intOf i).toNat)
  case atStart => exact ⟨0, Nat.zero_le _, rfl, hide (by simp), bel⟩
  case round =>
    clear bel
    obtain ⟨k, hk, rfl, hA, bel⟩ := hrel
    by_cases hlt : k < n
    · have hkl : k < l.length := by rw [← hn.out]; exact hlt
      obtain ⟨b1, o1, rfl, hb1l⟩ := S.where ec_three (by decide) (by intro h; subst h; simp at hkl)
      obtain ⟨x, hx⟩ : ∃ x, l[k]? = some x := ⟨_, List.getElem?_eq_getElem hkl⟩
      have s1 := S.keep bel (Nat.le_refl _)
      have d0 := s1.cell ec_three k 0 x _ hx rfl
      have d1 := s1.cell ec_three k 1 x _ hx rfl
      have d2 := s1.cell ec_three k 2 x _ hx rfl
      simp only [Nat.add_zero] at d0
      have hno : ntOk x = false → E = 3 := by
        intro h
        rw [hE.out, if_neg]
        intro hall
        have := List.all_eq_true.1 hall x (List.mem_of_getElem? hx)
        rw [h] at this
        cases this
      have hyes : ntOk x = true → Hid ((l.take (k + 1)).all ntOk = true) := by
        intro h
        rw [List.take_add_one, hx, List.all_append, hA.out]
        simpa [Hid] using h
      have hsp := ntOk_split x
      obtain ⟨xs, xt, xv⟩ := x
      simp only at *
      replace hx := hide hx
      clear s1 hkl c1 c2 c3
      have BX := Blk.laid wr [.int .i64 xs, .int .i64 xt, .int .i64 xv] 59 _ rfl
      have bX := newB bel (.cells #[.int .i64 xs, .int .i64 xt, .int .i64 xv] 59)
      have c1 := fun W => in_any xs 0 3 W
      have c2 := fun W => refPoint_any xt xv W
      by_cases hs : 0 ≤ xs ∧ xs ≤ 3
      · rw [decide_eq_true hs] at c1 hsp
        rw [Bool.true_and] at hsp
        rw [← hsp] at c2
        by_cases hok : ntOk (xs, xt, xv) = true
        · rw [hok, if_neg (by decide)] at c2
          have hY := hyes hok
          clear hno hyes hok hs hsp
          go_wp2_with fail
          go_at_call 51
          refine (c1 _).mono ?_
          rintro e w2 ⟨rfl, rfl⟩
          generalize wr.alloc _ = w2 at *
          have z1 : w2.cell? ⟨wr.heap.size, 1, none⟩ = some (.int .i64 xt) := BX.cell 1
          have z2 : w2.cell? ⟨wr.heap.size, 2, none⟩ = some (.int .i64 xv) := BX.cell 2
          have lX := BX.lt
          clear c1
          go_wp2_with fail
          go_at_call 52
          refine (c2 _).mono ?_
          rintro e w3 ⟨rfl, b3⟩
          have bel3 := belowCall bX b3
          go_wp2_with fail
          go_roundw
          case rel => exact ⟨k + 1, by omega, by go_num, hY, bel3⟩
          case measure => simp [intOf]; omega
        · have hok' : ntOk (xs, xt, xv) = false := by simpa using hok
          rw [hok', if_pos rfl] at c2
          obtain rfl := hno hok'
          clear hno hyes hok hs hsp hok'
          go_wp2_with fail
          go_at_call 51
          refine (c1 _).mono ?_
          rintro e w2 ⟨rfl, rfl⟩
          generalize wr.alloc _ = w2 at *
          have z1 : w2.cell? ⟨wr.heap.size, 1, none⟩ = some (.int .i64 xt) := BX.cell 1
          have z2 : w2.cell? ⟨wr.heap.size, 2, none⟩ = some (.int .i64 xv) := BX.cell 2
          have lX := BX.lt
          clear c1
          go_wp2_with fail
          go_at_call 52
          refine (c2 _).mono ?_
          rintro e w3 ⟨rfl, b3⟩
          have bel3 := belowCall bX b3
          go_wp2_with fail
          go_ret
          exact ⟨rfl, bel3⟩
      · rw [decide_eq_false hs] at c1 hsp
        rw [Bool.false_and] at hsp
        obtain rfl := hno hsp
        clear hno hyes hs hsp c2
        go_wp2_with fail
        go_at_call 51
        refine (c1 _).mono ?_
        rintro e w2 ⟨rfl, rfl⟩
        go_wp2_with fail
        go_ret
        exact ⟨rfl, bX⟩
    · obtain rfl : n = k := by omega
      obtain rfl : E = 0 := by
        have := hA.out
        rw [List.take_of_length_le (by rw [← hn.out]; exact Nat.le_refl _)] at this
        rw [hE.out, if_pos this]
      go_wp2_with fail
      go_ret
      exact ⟨rfl, bel⟩

set_option maxHeartbeats 1000000 in
set_option maxRecDepth 100000 in
theorem rcheck_one (s m : Int) (l : List Nt) (a : Option Addr) (cap n : Nat) (w : World) (S : SlW ec w a cap l) (hn : n = l.length) :
    Calls Tryd.prog 27 #[.agg #[.int .i64 1, .int .i64 s, .int .i64 m, .slice a n cap]] w fun e w' => e = .returned (.int .i64 (if s ≠ 0 ∨ m ≠ 0 then 4 else if 10 < l.length then 2 else if l.all ntOk then 0 else 3)) ∧ Below w.heap.size w w' := by
  have c1 := fun W => in_any 1 1 4 W
  rw [decide_eq_true (by omega)] at c1
  have bel := newB (Below.refl w.heap.size w) (.cells #[.int .i64 1, .int .i64 s, .int .i64 m, .slice a n cap] 24)
  by_cases hs : s = 0
  · subst hs
    by_cases hm : m = 0
    · subst hm
      rw [if_neg (by simp)]
      by_cases h10 : 10 < n
      · rw [if_pos (by rw [← hn]; exact h10)]
        have h10' : (10 : Int) < n := by omega
        replace hn := hide hn
        go_enter Tryd.func27, Tryd.ntmps27
        go_wp2_with fail
        go_at_call 51
        refine (c1 _).mono ?_
        rintro e w2 ⟨rfl, rfl⟩
        go_wp2_with fail
        go_ret
        exact ⟨rfl, bel⟩
      · rw [if_neg (by rw [← hn]; exact h10)]
        exact rcheck_loop l a cap n w S hn (by omega)
    · rw [if_pos (.inr hm)]
      replace hn := hide hn
      have hm' : decide (m = 0) = false := decide_eq_false hm
      go_enter Tryd.func27, Tryd.ntmps27
      go_wp2_with fail
      go_at_call 51
      refine (c1 _).mono ?_
      rintro e w2 ⟨rfl, rfl⟩
      go_wp2_with fail
      go_ret
      exact ⟨rfl, bel⟩
  · rw [if_pos (.inl hs)]
    replace hn := hide hn
    have hs' : decide (s = 0) = false := decide_eq_false hs
    go_enter Tryd.func27, Tryd.ntmps27
    go_wp2_with fail
    go_at_call 51
    refine (c1 _).mono ?_
    rintro e w2 ⟨rfl, rfl⟩
    go_wp2_with fail
    go_ret
    exact ⟨rfl, bel⟩

set_option maxHeartbeats 1000000 in
set_option maxRecDepth 100000 in
theorem rcheck_2 (s m : Int) (l : List Nt) (a : Option Addr) (cap n : Nat) (w : World) (hn : n = l.length) :
    Calls Tryd.prog 27 #[.agg #[.int .i64 2, .int .i64 s, .int .i64 m, .slice a n cap]] w fun e w' => e = .returned (.int .i64 (plainE 2 s m l)) ∧ Below w.heap.size w w' := by
  have c1 := fun W => in_any 2 1 4 W
  rw [decide_eq_true (by omega)] at c1
  have c2 := fun W => in_any s 0 3 W
  have c3 := fun W => in_any m 0 100001 W
  have bel := newB (Below.refl w.heap.size w) (.cells #[.int .i64 2, .int .i64 s, .int .i64 m, .slice a n cap] 24)
  obtain ⟨E, hE⟩ : ∃ E, E = plainE 2 s m l := ⟨_, rfl⟩
  rw [← hE]
  unfold plainE at hE
  by_cases h0 : n = 0
  · subst h0
    obtain rfl := List.length_eq_zero_iff.1 hn.symm
    clear hn
    rw [if_neg (by simp)] at hE
    by_cases hs : 0 ≤ s ∧ s ≤ 3
    · rw [decide_eq_true hs] at c2
      by_cases hm : 0 ≤ m ∧ m ≤ 100001
      · rw [decide_eq_true hm] at c3
        obtain rfl : E = 0 := by rw [hE, if_pos (by omega)]
        clear hE hm hs
        go_enter Tryd.func27, Tryd.ntmps27
        go_wp2_with fail
        go_at_call 51
        refine (c1 _).mono ?_
        rintro e w2 ⟨rfl, rfl⟩
        go_wp2_with fail
        go_at_call 51
        refine (c2 _).mono ?_
        rintro e w3 ⟨rfl, rfl⟩
        go_wp2_with fail
        go_at_call 51
        refine (c3 _).mono ?_
        rintro e w4 ⟨rfl, rfl⟩
        go_wp2_with fail
        generalize w.alloc _ = w1 at *
        go_loopw [59] (fun i wr => i = .int .i64 0 ∧ wr = w1) (fun _ _ => 0)
        case atStart => exact ⟨rfl, rfl⟩
        case round =>
          obtain ⟨rfl, rfl⟩ := hrel
          go_wp2_with fail
          go_ret
          exact ⟨rfl, bel⟩
      · rw [decide_eq_false hm] at c3
        obtain rfl : E = 3 := by rw [hE, if_neg (by omega)]
        clear hE hm hs
        go_enter Tryd.func27, Tryd.ntmps27
        go_wp2_with fail
        go_at_call 51
        refine (c1 _).mono ?_
        rintro e w2 ⟨rfl, rfl⟩
        go_wp2_with fail
        go_at_call 51
        refine (c2 _).mono ?_
        rintro e w3 ⟨rfl, rfl⟩
        go_wp2_with fail
        go_at_call 51
        refine (c3 _).mono ?_
        rintro e w4 ⟨rfl, rfl⟩
        go_wp2_with fail
        go_ret
        exact ⟨rfl, bel⟩
    · rw [decide_eq_false hs] at c2
      obtain rfl : E = 3 := by rw [hE, if_neg (by omega)]
      clear hE hs
      go_enter Tryd.func27, Tryd.ntmps27
      go_wp2_with fail
      go_at_call 51
      refine (c1 _).mono ?_
      rintro e w2 ⟨rfl, rfl⟩
      go_wp2_with fail
      go_at_call 51
      refine (c2 _).mono ?_
      rintro e w3 ⟨rfl, rfl⟩
      go_wp2_with fail
      go_ret
      exact ⟨rfl, bel⟩
  · obtain rfl : E = 4 := by rw [hE, if_pos (.inl (by intro h; subst h; exact h0 hn))]
    clear hE
    have hp : (0 : Int) < n := by omega
    have hd : decide (0 < n) = true := decide_eq_true (by omega)
    replace hn := hide hn
    go_enter Tryd.func27, Tryd.ntmps27
    go_wp2_with fail
    go_at_call 51
    refine (c1 _).mono ?_
    rintro e w2 ⟨rfl, rfl⟩
    go_wp2_with fail
    go_ret
    exact ⟨rfl, bel⟩

set_option maxHeartbeats 1000000 in
set_option maxRecDepth 100000 in
theorem rcheck_3 (s m : Int) (l : List Nt) (a : Option Addr) (cap n : Nat) (w : World) (hn : n = l.length) :
    Calls Tryd.prog 27 #[.agg #[.int .i64 3, .int .i64 s, .int .i64 m, .slice a n cap]] w fun e w' => e = .returned (.int .i64 (plainE 3 s m l)) ∧ Below w.heap.size w w' := by
  have c1 := fun W => in_any 3 1 4 W
  rw [decide_eq_true (by omega)] at c1
  have c2 := fun W => in_any s 0 3 W
  have c3 := fun W => in_any m 0 100001 W
  have bel := newB (Below.refl w.heap.size w) (.cells #[.int .i64 3, .int .i64 s, .int .i64 m, .slice a n cap] 24)
  obtain ⟨E, hE⟩ : ∃ E, E = plainE 3 s m l := ⟨_, rfl⟩
  rw [← hE]
  unfold plainE at hE
  by_cases h0 : n = 0
  · subst h0
    obtain rfl := List.length_eq_zero_iff.1 hn.symm
    clear hn
    rw [if_neg (by simp)] at hE
    by_cases hs : 0 ≤ s ∧ s ≤ 3
    · rw [decide_eq_true hs] at c2
      by_cases hm : 0 ≤ m ∧ m ≤ 100001
      · rw [decide_eq_true hm] at c3
        obtain rfl : E = 0 := by rw [hE, if_pos (by omega)]
        clear hE hm hs
        go_enter Tryd.func27, Tryd.ntmps27
        go_wp2_with fail
        go_at_call 51
        refine (c1 _).mono ?_
        rintro e w2 ⟨rfl, rfl⟩
        go_wp2_with fail
        go_at_call 51
        refine (c2 _).mono ?_
        rintro e w3 ⟨rfl, rfl⟩
        go_wp2_with fail
        go_at_call 51
        refine (c3 _).mono ?_
        rintro e w4 ⟨rfl, rfl⟩
        go_wp2_with fail
        generalize w.alloc _ = w1 at *
        go_loopw [59] (fun i wr => i = .int .i64 0 ∧ wr = w1) (fun _ _ => 0)
        case atStart => exact ⟨rfl, rfl⟩
        case round =>
          obtain ⟨rfl, rfl⟩ := hrel
          go_wp2_with fail
          go_ret
          exact ⟨rfl, bel⟩
      · rw [decide_eq_false hm] at c3
        obtain rfl : E = 3 := by rw [hE, if_neg (by omega)]
        clear hE hm hs
        go_enter Tryd.func27, Tryd.ntmps27
        go_wp2_with fail
        go_at_call 51
        refine (c1 _).mono ?_
        rintro e w2 ⟨rfl, rfl⟩
        go_wp2_with fail
        go_at_call 51
        refine (c2 _).mono ?_
        rintro e w3 ⟨rfl, rfl⟩
        go_wp2_with fail
        go_at_call 51
        refine (c3 _).mono ?_
        rintro e w4 ⟨rfl, rfl⟩
        go_wp2_with fail
        go_ret
        exact ⟨rfl, bel⟩
    · rw [decide_eq_false hs] at c2
      obtain rfl : E = 3 := by rw [hE, if_neg (by omega)]
      clear hE hs
      go_enter Tryd.func27, Tryd.ntmps27
      go_wp2_with fail
      go_at_call 51
      refine (c1 _).mono ?_
      rintro e w2 ⟨rfl, rfl⟩
      go_wp2_with fail
      go_at_call 51
      refine (c2 _).mono ?_
      rintro e w3 ⟨rfl, rfl⟩
      go_wp2_with fail
      go_ret
      exact ⟨rfl, bel⟩
  · obtain rfl : E = 4 := by rw [hE, if_pos (.inl (by intro h; subst h; exact h0 hn))]
    clear hE
    have hp : (0 : Int) < n := by omega
    have hd : decide (0 < n) = true := decide_eq_true (by omega)
    replace hn := hide hn
    go_enter Tryd.func27, Tryd.ntmps27
    go_wp2_with fail
    go_at_call 51
    refine (c1 _).mono ?_
    rintro e w2 ⟨rfl, rfl⟩
    go_wp2_with fail
    go_ret
    exact ⟨rfl, bel⟩

set_option maxHeartbeats 1000000 in
set_option maxRecDepth 100000 in
theorem rcheck_4 (s m : Int) (l : List Nt) (a : Option Addr) (cap n : Nat) (w : World) (hn : n = l.length) :
    Calls Tryd.prog 27 #[.agg #[.int .i64 4, .int .i64 s, .int .i64 m, .slice a n cap]] w fun e w' => e = .returned (.int .i64 (plainE 4 s m l)) ∧ Below w.heap.size w w' := by
  have c1 := fun W => in_any 4 1 4 W
  rw [decide_eq_true (by omega)] at c1
  have c2 := fun W => in_any s 0 3 W
  have c3 := fun W => in_any m 0 100001 W
  have bel := newB (Below.refl w.heap.size w) (.cells #[.int .i64 4, .int .i64 s, .int .i64 m, .slice a n cap] 24)
  obtain ⟨E, hE⟩ : ∃ E, E = plainE 4 s m l := ⟨_, rfl⟩
  rw [← hE]
  unfold plainE at hE
  by_cases h0 : n = 0
  · subst h0
    obtain rfl := List.length_eq_zero_iff.1 hn.symm
    clear hn
    by_cases hs : s = 0
    · subst hs
      rw [decide_eq_true (by omega)] at c2
      rw [if_neg (by simp)] at hE
      by_cases hm : 0 ≤ m ∧ m ≤ 100001
      · rw [decide_eq_true hm] at c3
        obtain rfl : E = 0 := by rw [hE, if_pos (by omega)]
        clear hE hm
        go_enter Tryd.func27, Tryd.ntmps27
        go_wp2_with fail
        go_at_call 51
        refine (c1 _).mono ?_
        rintro e w2 ⟨rfl, rfl⟩
        go_wp2_with fail
        go_at_call 51
        refine (c2 _).mono ?_
        rintro e w3 ⟨rfl, rfl⟩
        go_wp2_with fail
        go_at_call 51
        refine (c3 _).mono ?_
        rintro e w4 ⟨rfl, rfl⟩
        go_wp2_with fail
        generalize w.alloc _ = w1 at *
        go_loopw [59] (fun i wr => i = .int .i64 0 ∧ wr = w1) (fun _ _ => 0)
        case atStart => exact ⟨rfl, rfl⟩
        case round =>
          obtain ⟨rfl, rfl⟩ := hrel
          go_wp2_with fail
          go_ret
          exact ⟨rfl, bel⟩
      · rw [decide_eq_false hm] at c3
        obtain rfl : E = 3 := by rw [hE, if_neg (by omega)]
        clear hE hm
        go_enter Tryd.func27, Tryd.ntmps27
        go_wp2_with fail
        go_at_call 51
        refine (c1 _).mono ?_
        rintro e w2 ⟨rfl, rfl⟩
        go_wp2_with fail
        go_at_call 51
        refine (c2 _).mono ?_
        rintro e w3 ⟨rfl, rfl⟩
        go_wp2_with fail
        go_at_call 51
        refine (c3 _).mono ?_
        rintro e w4 ⟨rfl, rfl⟩
        go_wp2_with fail
        go_ret
        exact ⟨rfl, bel⟩
    · obtain rfl : E = 4 := by rw [hE, if_pos (.inr ⟨rfl, hs⟩)]
      have hs' : decide (s = 0) = false := decide_eq_false hs
      clear hE
      go_enter Tryd.func27, Tryd.ntmps27
      go_wp2_with fail
      go_at_call 51
      refine (c1 _).mono ?_
      rintro e w2 ⟨rfl, rfl⟩
      go_wp2_with fail
      go_ret
      exact ⟨rfl, bel⟩
  · obtain rfl : E = 4 := by rw [hE, if_pos (.inl (by intro h; subst h; exact h0 hn))]
    clear hE
    have hp : (0 : Int) < n := by omega
    have hd : decide (0 < n) = true := decide_eq_true (by omega)
    replace hn := hide hn
    go_enter Tryd.func27, Tryd.ntmps27
    go_wp2_with fail
    go_at_call 51
    refine (c1 _).mono ?_
    rintro e w2 ⟨rfl, rfl⟩
    go_wp2_with fail
    go_ret
    exact ⟨rfl, bel⟩

set_option maxHeartbeats 1000000 in
set_option maxRecDepth 100000 in
theorem rcheck_is (r : Rc) (a : Option Addr) (cap n : Nat) (w : World) (S : SlW ec w a cap r.e) (hn : n = r.e.length) :
    Calls Tryd.prog 27 #[.agg #[.int .i64 r.k, .int .i64 r.s, .int .i64 r.n, .slice a n cap]] w fun e w' => e = .returned (.int .i64 (recE r)) ∧ Below w.heap.size w w' := by
  obtain ⟨k, s, m, l⟩ := r
  simp only at *
  by_cases h1 : k = 1
  · subst h1
    exact rcheck_one s m l a cap n w S hn
  by_cases h2 : k = 2 ∨ k = 3 ∨ k = 4
  · rw [show recE ⟨k, s, m, l⟩ = plainE k s m l by unfold recE plainE; rw [if_neg h1, if_pos h2]]
    rcases h2 with rfl | rfl | rfl
    · exact rcheck_2 s m l a cap n w hn
    · exact rcheck_3 s m l a cap n w hn
    · exact rcheck_4 s m l a cap n w hn
  · rw [show recE ⟨k, s, m, l⟩ = 4 by unfold recE; rw [if_neg h1, if_neg h2]]
    have c1 := fun W => in_any k 1 4 W
    rw [decide_eq_false (by omega)] at c1
    have bel := newB (Below.refl w.heap.size w) (.cells #[.int .i64 k, .int .i64 s, .int .i64 m, .slice a n cap] 24)
    clear h1 h2
    replace hn := hide hn
    go_enter Tryd.func27, Tryd.ntmps27
    go_wp2_with fail
    go_at_call 51
    refine (c1 _).mono ?_
    rintro e w2 ⟨rfl, rfl⟩
    go_wp2_with fail
    go_ret
    exact ⟨rfl, bel⟩

end Go.Proofs.YthoclnjfbigdiaaDoor
