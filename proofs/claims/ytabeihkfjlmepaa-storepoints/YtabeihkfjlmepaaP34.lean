/-
  The contracts of the reference's shelves over shelves as plain lists.
-/
import Derived.Lib.SmallJoins
import Derived.Test.YtabeihkfjlmepaaP19
import Derived.Test.YtabeihkfjlmepaaP24
import Derived.Test.YtabeihkfjlmepaaHRefSameS
import Derived.Test.YtabeihkfjlmepaaHRefPutS
import Derived.Test.YtabeihkfjlmepaaP30
import Derived.Test.YtabeihkfjlmepaaP32
import Derived.Test.YtabeihkfjlmepaaHRefDropS
import Derived.Test.YtabeihkfjlmepaaP07
import Derived.Test.YtabeihkfjlmepaaP20
import Derived.Test.YtabeihkfjlmepaaP22
import Derived.Test.YtabeihkfjlmepaaP21
namespace Go.Proofs.Ytabeihkfjlmepaa
open Go.RowKit

theorem rshCheck_is {C : List Rw} {a : Option Addr} {G : Nat} {W : World} (h : IsS W a G C) :
    Calls Try.prog 21 #[.agg #[.slice a C.length G]] W fun e w' => e = .returned (.int .i64 (shelfE C)) ∧ Below W.heap.size W w' := by
  obtain ⟨rs, rfl, s⟩ := h.ex
  rw [List.length_map]
  exact refShelf_any rs a G W s

theorem rshSame_is {C D : List Rw} {a b : Option Addr} {G H : Nat} {W : World} (h : IsS W a G C) (k : IsS W b H D) (hl : C.length ≤ 140737488355328) :
    Calls Try.prog 10 #[.agg #[.slice a C.length G], .agg #[.slice b D.length H]] W fun e w' => e = .returned (.bool (sameSh C D)) ∧ Below W.heap.size W w' := by
  obtain ⟨rs, rfl, s⟩ := h.ex
  obtain ⟨qs, rfl, t⟩ := k.ex
  rw [List.length_map] at hl
  rw [List.length_map, List.length_map]
  exact refSameS_any rs qs a b G H W s t hl

theorem rfresh_is (W : World) :
    Calls Try.prog 24 #[] W fun e w' => ∃ a' G', e = .returned (.agg #[.slice a' 4 G']) ∧ IsS w' a' G' freshL ∧ Below W.heap.size W w' := by
  refine (refFresh_any W).mono ?_
  rintro e w' ⟨a', G', rfl, s, b⟩
  exact ⟨a', G', rfl, ⟨_, rfl, s⟩, b⟩

theorem rput_is {C : List Rw} {a : Option Addr} {G : Nat} {W : World} (L : List En) (la : Option Addr) (lc : Nat) (h : IsS W a G C) (hL : SlW En.cells W la lc L) (few : L.length ≤ 140737488355328) (hR : Right C) :
    Calls Try.prog 50 #[.agg #[.slice a C.length G], .slice la L.length lc] W (Makes (bputE C L) (bputL C L) W) := by
  obtain ⟨rs, rfl, t⟩ := h.ex
  rw [List.length_map]
  exact (refPut_any rs a G L la lc W t hL few hR).mono fun e w' h => makes_of h

theorem rseal_is {C : List Rw} {a : Option Addr} {G : Nat} {W : World} (s n : Int) (h : IsS W a G C) (hR : Right C) :
    Calls Try.prog 51 #[.agg #[.slice a C.length G], .int .i64 s, .int .i64 n] W (Makes (sealE C s n) (sealL C s n) W) := by
  obtain ⟨rs, rfl, t⟩ := h.ex
  rw [List.length_map]
  exact (refSeal_any rs a G s n W t hR).mono fun e w' h => makes_of h

theorem rmerge_is {C : List Rw} {a : Option Addr} {G : Nat} {W : World} (s n : Int) (h : IsS W a G C) (hR : Right C) (hw : (Lit.int .i64 n).wf = true) :
    Calls Try.prog 52 #[.agg #[.slice a C.length G], .int .i64 s, .int .i64 n] W (Makes (mrgE C s n) (mrgL C s n) W) := by
  obtain ⟨rs, rfl, t⟩ := h.ex
  rw [List.length_map]
  exact (refMrg_any rs a G s n W t hR hw).mono fun e w' h => makes_of h

theorem rdrop_is {C : List Rw} {a : Option Addr} {G : Nat} {W : World} (n : Int) (h : IsS W a G C) (hR : Right C) :
    Calls Try.prog 53 #[.agg #[.slice a C.length G], .int .i64 n] W (Makes (dropE n) (dropL C n) W) := by
  obtain ⟨rs, rfl, t⟩ := h.ex
  rw [List.length_map]
  exact (refDrop_any rs a G n W t hR).mono fun e w' h => makes_of h

end Go.Proofs.Ytabeihkfjlmepaa

/-
  The reference's CheckRec: what is wrong with a record.
-/
namespace Go.Proofs.Ytabeihkfjlmepaa
open Go.RowKit

theorem ntOk_split (x : Nt) : ntOk x = (decide (0 ≤ x.1 ∧ x.1 ≤ 3) && ptOk (x.2.1, x.2.2)) := by
  unfold ntOk ptOk
  rw [Bool.eq_iff_iff]
  simp only [decide_eq_true_eq, Bool.and_eq_true]
  omega

set_option maxHeartbeats 1000000 in
set_option maxRecDepth 100000 in
theorem rcheck_loop (l : List Nt) (a : Option Addr) (cap n : Nat) (w : World) (S : SlW ec w a cap l) (hn : n = l.length) (few : n ≤ 10) :
    Calls Try.prog 22 #[.agg #[.int .i64 1, .int .i64 0, .int .i64 0, .slice a n cap]] w fun e w' => e = .returned (.int .i64 (if l.all ntOk then 0 else 3)) ∧ Below w.heap.size w w' := by
  obtain ⟨E, hE⟩ : ∃ E : Int, E = if l.all ntOk then 0 else 3 := ⟨_, rfl⟩
  rw [← hE]
  replace hE := hide hE
  replace hn := hide hn
  have bel : Below w.heap.size w (w.alloc (.cells #[.int .i64 1, .int .i64 0, .int .i64 0, .slice a n cap] 27)) := (Below.refl _ _).alloc (Nat.le_refl _) _
  have few' : ¬ (10 : Int) < n := by omega
  have c1 := fun W => in_any 1 1 4 W
  have c2 := fun W => in_any 0 0 3 W
  have c3 := fun W => in_any 0 0 100001 W
  rw [decide_eq_true (by omega)] at c1 c2 c3
  go_enter Try.func22, Try.ntmps22
  go_wp2_with fail
  go_at_call 48
  refine (c1 _).mono ?_
  rintro e w2 ⟨rfl, rfl⟩
  go_wp2_with fail
  go_at_call 48
  refine (c2 _).mono ?_
  rintro e w2 ⟨rfl, rfl⟩
  go_wp2_with fail
  go_at_call 48
  refine (c3 _).mono ?_
  rintro e w2 ⟨rfl, rfl⟩
  go_wp2_with fail
  generalize w.alloc _ = w1 at *
  go_loopw [59] (fun i wr => ∃ (k : Nat), k ≤ n ∧ i = .int .i64 k ∧ Hid ((l.take k).all ntOk = true) ∧ Below w.heap.size w wr) (fun i _ => n - (intOf i).toNat)
  case atStart => exact ⟨0, Nat.zero_le _, rfl, hide (by simp), bel⟩
  case round =>
    clear bel
    obtain ⟨k, hk, rfl, hA, bel⟩ := hrel
    by_cases hlt : k < n
    · have hkl : k < l.length := by rw [← hn.out]; exact hlt
      obtain ⟨b1, o1, rfl, hb1l⟩ := S.where ec_three (by decide) (by intro h; subst h; simp at hkl)
      obtain ⟨x, hx⟩ : ∃ x, l[k]? = some x := ⟨_, List.getElem?_eq_getElem hkl⟩
      have s1 := S.keep bel (Nat.le_refl _)
      have d0 := s1.cell ec_three k 0 x _ hx rfl
      have d1 := s1.cell ec_three k 1 x _ hx rfl
      have d2 := s1.cell ec_three k 2 x _ hx rfl
      simp only [Nat.add_zero] at d0
      have hno : ntOk x = false → E = 3 := by
        intro h
        rw [hE.out, if_neg]
        intro hall
        have := List.all_eq_true.1 hall x (List.mem_of_getElem? hx)
        rw [h] at this
        cases this
      have hyes : ntOk x = true → Hid ((l.take (k + 1)).all ntOk = true) := by
        intro h
        rw [List.take_add_one, hx, List.all_append, hA.out]
        simpa [Hid] using h
      have hsp := ntOk_split x
      obtain ⟨xs, xt, xv⟩ := x
      simp only at *
      replace hx := hide hx
      clear s1 hkl c1 c2 c3
      have BX := Blk.laid wr [.int .i64 xs, .int .i64 xt, .int .i64 xv] 41 _ rfl
      have bX := newB bel (.cells #[.int .i64 xs, .int .i64 xt, .int .i64 xv] 41)
      have c1 := fun W => in_any xs 0 3 W
      have c2 := fun W => refPoint_any xt xv W
      by_cases hs : 0 ≤ xs ∧ xs ≤ 3
      · rw [decide_eq_true hs] at c1 hsp
        rw [Bool.true_and] at hsp
        rw [← hsp] at c2
        by_cases hok : ntOk (xs, xt, xv) = true
        · rw [hok, if_neg (by decide)] at c2
          have hY := hyes hok
          clear hno hyes hok hs hsp
          go_wp2_with fail
          go_at_call 48
          refine (c1 _).mono ?_
          rintro e w2 ⟨rfl, rfl⟩
          generalize wr.alloc _ = w2 at *
          have z1 : w2.cell? ⟨wr.heap.size, 1, none⟩ = some (.int .i64 xt) := BX.cell 1
          have z2 : w2.cell? ⟨wr.heap.size, 2, none⟩ = some (.int .i64 xv) := BX.cell 2
          have lX := BX.lt
          clear c1
          go_wp2_with fail
          go_at_call 49
          refine (c2 _).mono ?_
          rintro e w3 ⟨rfl, b3⟩
          have bel3 := belowCall bX b3
          go_wp2_with fail
          go_roundw
          case rel => exact ⟨k + 1, by omega, by go_num, hY, bel3⟩
          case measure => simp [intOf]; omega
        · have hok' : ntOk (xs, xt, xv) = false := by simpa using hok
          rw [hok', if_pos rfl] at c2
          obtain rfl := hno hok'
          clear hno hyes hok hs hsp hok'
          go_wp2_with fail
          go_at_call 48
          refine (c1 _).mono ?_
          rintro e w2 ⟨rfl, rfl⟩
          generalize wr.alloc _ = w2 at *
          have z1 : w2.cell? ⟨wr.heap.size, 1, none⟩ = some (.int .i64 xt) := BX.cell 1
          have z2 : w2.cell? ⟨wr.heap.size, 2, none⟩ = some (.int .i64 xv) := BX.cell 2
          have lX := BX.lt
          clear c1
          go_wp2_with fail
          go_at_call 49
          refine (c2 _).mono ?_
          rintro e w3 ⟨rfl, b3⟩
          have bel3 := belowCall bX b3
          go_wp2_with fail
          go_ret
          exact ⟨rfl, bel3⟩
      · rw [decide_eq_false hs] at c1 hsp
        rw [Bool.false_and] at hsp
        obtain rfl := hno hsp
        clear hno hyes hs hsp c2
        go_wp2_with fail
        go_at_call 48
        refine (c1 _).mono ?_
        rintro e w2 ⟨rfl, rfl⟩
        go_wp2_with fail
        go_ret
        exact ⟨rfl, bX⟩
    · obtain rfl : n = k := by omega
      obtain rfl : E = 0 := by
        have := hA.out
        rw [List.take_of_length_le (by rw [← hn.out]; exact Nat.le_refl _)] at this
        rw [hE.out, if_pos this]
      go_wp2_with fail
      go_ret
      exact ⟨rfl, bel⟩

set_option maxHeartbeats 1000000 in
set_option maxRecDepth 100000 in
theorem rcheck_one (s m : Int) (l : List Nt) (a : Option Addr) (cap n : Nat) (w : World) (S : SlW ec w a cap l) (hn : n = l.length) :
    Calls Try.prog 22 #[.agg #[.int .i64 1, .int .i64 s, .int .i64 m, .slice a n cap]] w fun e w' => e = .returned (.int .i64 (if s ≠ 0 ∨ m ≠ 0 then 4 else if 10 < l.length then 2 else if l.all ntOk then 0 else 3)) ∧ Below w.heap.size w w' := by
  have c1 := fun W => in_any 1 1 4 W
  rw [decide_eq_true (by omega)] at c1
  have bel := newB (Below.refl w.heap.size w) (.cells #[.int .i64 1, .int .i64 s, .int .i64 m, .slice a n cap] 27)
  by_cases hs : s = 0
  · subst hs
    by_cases hm : m = 0
    · subst hm
      rw [if_neg (by simp)]
      by_cases h10 : 10 < n
      · rw [if_pos (by rw [← hn]; exact h10)]
        have h10' : (10 : Int) < n := by omega
        replace hn := hide hn
        go_enter Try.func22, Try.ntmps22
        go_wp2_with fail
        go_at_call 48
        refine (c1 _).mono ?_
        rintro e w2 ⟨rfl, rfl⟩
        go_wp2_with fail
        go_ret
        exact ⟨rfl, bel⟩
      · rw [if_neg (by rw [← hn]; exact h10)]
        exact rcheck_loop l a cap n w S hn (by omega)
    · rw [if_pos (.inr hm)]
      replace hn := hide hn
      have hm' : decide (m = 0) = false := decide_eq_false hm
      go_enter Try.func22, Try.ntmps22
      go_wp2_with fail
      go_at_call 48
      refine (c1 _).mono ?_
      rintro e w2 ⟨rfl, rfl⟩
      go_wp2_with fail
      go_ret
      exact ⟨rfl, bel⟩
  · rw [if_pos (.inl hs)]
    replace hn := hide hn
    have hs' : decide (s = 0) = false := decide_eq_false hs
    go_enter Try.func22, Try.ntmps22
    go_wp2_with fail
    go_at_call 48
    refine (c1 _).mono ?_
    rintro e w2 ⟨rfl, rfl⟩
    go_wp2_with fail
    go_ret
    exact ⟨rfl, bel⟩

set_option maxHeartbeats 1000000 in
set_option maxRecDepth 100000 in
theorem rcheck_2 (s m : Int) (l : List Nt) (a : Option Addr) (cap n : Nat) (w : World) (hn : n = l.length) :
    Calls Try.prog 22 #[.agg #[.int .i64 2, .int .i64 s, .int .i64 m, .slice a n cap]] w fun e w' => e = .returned (.int .i64 (plainE 2 s m l)) ∧ Below w.heap.size w w' := by
  have c1 := fun W => in_any 2 1 4 W
  rw [decide_eq_true (by omega)] at c1
  have c2 := fun W => in_any s 0 3 W
  have c3 := fun W => in_any m 0 100001 W
  have bel := newB (Below.refl w.heap.size w) (.cells #[.int .i64 2, .int .i64 s, .int .i64 m, .slice a n cap] 27)
  obtain ⟨E, hE⟩ : ∃ E, E = plainE 2 s m l := ⟨_, rfl⟩
  rw [← hE]
  unfold plainE at hE
  by_cases h0 : n = 0
  · subst h0
    obtain rfl := List.length_eq_zero_iff.1 hn.symm
    clear hn
    rw [if_neg (by simp)] at hE
    by_cases hs : 0 ≤ s ∧ s ≤ 3
    · rw [decide_eq_true hs] at c2
      by_cases hm : 0 ≤ m ∧ m ≤ 100001
      · rw [decide_eq_true hm] at c3
        obtain rfl : E = 0 := by rw [hE, if_pos (by omega)]
        clear hE hm hs
        go_enter Try.func22, Try.ntmps22
        go_wp2_with fail
        go_at_call 48
        refine (c1 _).mono ?_
        rintro e w2 ⟨rfl, rfl⟩
        go_wp2_with fail
        go_at_call 48
        refine (c2 _).mono ?_
        rintro e w3 ⟨rfl, rfl⟩
        go_wp2_with fail
        go_at_call 48
        refine (c3 _).mono ?_
        rintro e w4 ⟨rfl, rfl⟩
        go_wp2_with fail
        generalize w.alloc _ = w1 at *
        go_loopw [59] (fun i wr => i = .int .i64 0 ∧ wr = w1) (fun _ _ => 0)
        case atStart => exact ⟨rfl, rfl⟩
        case round =>
          obtain ⟨rfl, rfl⟩ := hrel
          go_wp2_with fail
          go_ret
          exact ⟨rfl, bel⟩
      · rw [decide_eq_false hm] at c3
        obtain rfl : E = 3 := by rw [hE, if_neg (by omega)]
        clear hE hm hs
        go_enter Try.func22, Try.ntmps22
        go_wp2_with fail
        go_at_call 48
        refine (c1 _).mono ?_
        rintro e w2 ⟨rfl, rfl⟩
        go_wp2_with fail
        go_at_call 48
        refine (c2 _).mono ?_
        rintro e w3 ⟨rfl, rfl⟩
        go_wp2_with fail
        go_at_call 48
        refine (c3 _).mono ?_
        rintro e w4 ⟨rfl, rfl⟩
        go_wp2_with fail
        go_ret
        exact ⟨rfl, bel⟩
    · rw [decide_eq_false hs] at c2
      obtain rfl : E = 3 := by rw [hE, if_neg (by omega)]
      clear hE hs
      go_enter Try.func22, Try.ntmps22
      go_wp2_with fail
      go_at_call 48
      refine (c1 _).mono ?_
      rintro e w2 ⟨rfl, rfl⟩
      go_wp2_with fail
      go_at_call 48
      refine (c2 _).mono ?_
      rintro e w3 ⟨rfl, rfl⟩
      go_wp2_with fail
      go_ret
      exact ⟨rfl, bel⟩
  · obtain rfl : E = 4 := by rw [hE, if_pos (.inl (by intro h; subst h; exact h0 hn))]
    clear hE
    have hp : (0 : Int) < n := by omega
    have hd : decide (0 < n) = true := decide_eq_true (by omega)
    replace hn := hide hn
    go_enter Try.func22, Try.ntmps22
    go_wp2_with fail
    go_at_call 48
    refine (c1 _).mono ?_
    rintro e w2 ⟨rfl, rfl⟩
    go_wp2_with fail
    go_ret
    exact ⟨rfl, bel⟩

set_option maxHeartbeats 1000000 in
set_option maxRecDepth 100000 in
theorem rcheck_3 (s m : Int) (l : List Nt) (a : Option Addr) (cap n : Nat) (w : World) (hn : n = l.length) :
    Calls Try.prog 22 #[.agg #[.int .i64 3, .int .i64 s, .int .i64 m, .slice a n cap]] w fun e w' => e = .returned (.int .i64 (plainE 3 s m l)) ∧ Below w.heap.size w w' := by
  have c1 := fun W => in_any 3 1 4 W
  rw [decide_eq_true (by omega)] at c1
  have c2 := fun W => in_any s 0 3 W
  have c3 := fun W => in_any m 0 100001 W
  have bel := newB (Below.refl w.heap.size w) (.cells #[.int .i64 3, .int .i64 s, .int .i64 m, .slice a n cap] 27)
  obtain ⟨E, hE⟩ : ∃ E, E = plainE 3 s m l := ⟨_, rfl⟩
  rw [← hE]
  unfold plainE at hE
  by_cases h0 : n = 0
  · subst h0
    obtain rfl := List.length_eq_zero_iff.1 hn.symm
    clear hn
    rw [if_neg (by simp)] at hE
    by_cases hs : 0 ≤ s ∧ s ≤ 3
    · rw [decide_eq_true hs] at c2
      by_cases hm : 0 ≤ m ∧ m ≤ 100001
      · rw [decide_eq_true hm] at c3
        obtain rfl : E = 0 := by rw [hE, if_pos (by omega)]
        clear hE hm hs
        go_enter Try.func22, Try.ntmps22
        go_wp2_with fail
        go_at_call 48
        refine (c1 _).mono ?_
        rintro e w2 ⟨rfl, rfl⟩
        go_wp2_with fail
        go_at_call 48
        refine (c2 _).mono ?_
        rintro e w3 ⟨rfl, rfl⟩
        go_wp2_with fail
        go_at_call 48
        refine (c3 _).mono ?_
        rintro e w4 ⟨rfl, rfl⟩
        go_wp2_with fail
        generalize w.alloc _ = w1 at *
        go_loopw [59] (fun i wr => i = .int .i64 0 ∧ wr = w1) (fun _ _ => 0)
        case atStart => exact ⟨rfl, rfl⟩
        case round =>
          obtain ⟨rfl, rfl⟩ := hrel
          go_wp2_with fail
          go_ret
          exact ⟨rfl, bel⟩
      · rw [decide_eq_false hm] at c3
        obtain rfl : E = 3 := by rw [hE, if_neg (by omega)]
        clear hE hm hs
        go_enter Try.func22, Try.ntmps22
        go_wp2_with fail
        go_at_call 48
        refine (c1 _).mono ?_
        rintro e w2 ⟨rfl, rfl⟩
        go_wp2_with fail
        go_at_call 48
        refine (c2 _).mono ?_
        rintro e w3 ⟨rfl, rfl⟩
        go_wp2_with fail
        go_at_call 48
        refine (c3 _).mono ?_
        rintro e w4 ⟨rfl, rfl⟩
        go_wp2_with fail
        go_ret
        exact ⟨rfl, bel⟩
    · rw [decide_eq_false hs] at c2
      obtain rfl : E = 3 := by rw [hE, if_neg (by omega)]
      clear hE hs
      go_enter Try.func22, Try.ntmps22
      go_wp2_with fail
      go_at_call 48
      refine (c1 _).mono ?_
      rintro e w2 ⟨rfl, rfl⟩
      go_wp2_with fail
      go_at_call 48
      refine (c2 _).mono ?_
      rintro e w3 ⟨rfl, rfl⟩
      go_wp2_with fail
      go_ret
      exact ⟨rfl, bel⟩
  · obtain rfl : E = 4 := by rw [hE, if_pos (.inl (by intro h; subst h; exact h0 hn))]
    clear hE
    have hp : (0 : Int) < n := by omega
    have hd : decide (0 < n) = true := decide_eq_true (by omega)
    replace hn := hide hn
    go_enter Try.func22, Try.ntmps22
    go_wp2_with fail
    go_at_call 48
    refine (c1 _).mono ?_
    rintro e w2 ⟨rfl, rfl⟩
    go_wp2_with fail
    go_ret
    exact ⟨rfl, bel⟩

set_option maxHeartbeats 1000000 in
set_option maxRecDepth 100000 in
theorem rcheck_4 (s m : Int) (l : List Nt) (a : Option Addr) (cap n : Nat) (w : World) (hn : n = l.length) :
    Calls Try.prog 22 #[.agg #[.int .i64 4, .int .i64 s, .int .i64 m, .slice a n cap]] w fun e w' => e = .returned (.int .i64 (plainE 4 s m l)) ∧ Below w.heap.size w w' := by
  have c1 := fun W => in_any 4 1 4 W
  rw [decide_eq_true (by omega)] at c1
  have c2 := fun W => in_any s 0 3 W
  have c3 := fun W => in_any m 0 100001 W
  have bel := newB (Below.refl w.heap.size w) (.cells #[.int .i64 4, .int .i64 s, .int .i64 m, .slice a n cap] 27)
  obtain ⟨E, hE⟩ : ∃ E, E = plainE 4 s m l := ⟨_, rfl⟩
  rw [← hE]
  unfold plainE at hE
  by_cases h0 : n = 0
  · subst h0
    obtain rfl := List.length_eq_zero_iff.1 hn.symm
    clear hn
    by_cases hs : s = 0
    · subst hs
      rw [decide_eq_true (by omega)] at c2
      rw [if_neg (by simp)] at hE
      by_cases hm : 0 ≤ m ∧ m ≤ 100001
      · rw [decide_eq_true hm] at c3
        obtain rfl : E = 0 := by rw [hE, if_pos (by omega)]
        clear hE hm
        go_enter Try.func22, Try.ntmps22
        go_wp2_with fail
        go_at_call 48
        refine (c1 _).mono ?_
        rintro e w2 ⟨rfl, rfl⟩
        go_wp2_with fail
        go_at_call 48
        refine (c2 _).mono ?_
        rintro e w3 ⟨rfl, rfl⟩
        go_wp2_with fail
        go_at_call 48
        refine (c3 _).mono ?_
        rintro e w4 ⟨rfl, rfl⟩
        go_wp2_with fail
        generalize w.alloc _ = w1 at *
        go_loopw [59] (fun i wr => i = .int .i64 0 ∧ wr = w1) (fun _ _ => 0)
        case atStart => exact ⟨rfl, rfl⟩
        case round =>
          obtain ⟨rfl, rfl⟩ := hrel
          go_wp2_with fail
          go_ret
          exact ⟨rfl, bel⟩
      · rw [decide_eq_false hm] at c3
        obtain rfl : E = 3 := by rw [hE, if_neg (by omega)]
        clear hE hm
        go_enter Try.func22, Try.ntmps22
        go_wp2_with fail
        go_at_call 48
        refine (c1 _).mono ?_
        rintro e w2 ⟨rfl, rfl⟩
        go_wp2_with fail
        go_at_call 48
        refine (c2 _).mono ?_
        rintro e w3 ⟨rfl, rfl⟩
        go_wp2_with fail
        go_at_call 48
        refine (c3 _).mono ?_
        rintro e w4 ⟨rfl, rfl⟩
        go_wp2_with fail
        go_ret
        exact ⟨rfl, bel⟩
    · obtain rfl : E = 4 := by rw [hE, if_pos (.inr ⟨rfl, hs⟩)]
      have hs' : decide (s = 0) = false := decide_eq_false hs
      clear hE
      go_enter Try.func22, Try.ntmps22
      go_wp2_with fail
      go_at_call 48
      refine (c1 _).mono ?_
      rintro e w2 ⟨rfl, rfl⟩
      go_wp2_with fail
      go_ret
      exact ⟨rfl, bel⟩
  · obtain rfl : E = 4 := by rw [hE, if_pos (.inl (by intro h; subst h; exact h0 hn))]
    clear hE
    have hp : (0 : Int) < n := by omega
    have hd : decide (0 < n) = true := decide_eq_true (by omega)
    replace hn := hide hn
    go_enter Try.func22, Try.ntmps22
    go_wp2_with fail
    go_at_call 48
    refine (c1 _).mono ?_
    rintro e w2 ⟨rfl, rfl⟩
    go_wp2_with fail
    go_ret
    exact ⟨rfl, bel⟩

set_option maxHeartbeats 1000000 in
set_option maxRecDepth 100000 in
theorem rcheck_is (r : Rc) (a : Option Addr) (cap n : Nat) (w : World) (S : SlW ec w a cap r.e) (hn : n = r.e.length) :
    Calls Try.prog 22 #[.agg #[.int .i64 r.k, .int .i64 r.s, .int .i64 r.n, .slice a n cap]] w fun e w' => e = .returned (.int .i64 (recE r)) ∧ Below w.heap.size w w' := by
  obtain ⟨k, s, m, l⟩ := r
  simp only at *
  by_cases h1 : k = 1
  · subst h1
    exact rcheck_one s m l a cap n w S hn
  by_cases h2 : k = 2 ∨ k = 3 ∨ k = 4
  · rw [show recE ⟨k, s, m, l⟩ = plainE k s m l by unfold recE plainE; rw [if_neg h1, if_pos h2]]
    rcases h2 with rfl | rfl | rfl
    · exact rcheck_2 s m l a cap n w hn
    · exact rcheck_3 s m l a cap n w hn
    · exact rcheck_4 s m l a cap n w hn
  · rw [show recE ⟨k, s, m, l⟩ = 4 by unfold recE; rw [if_neg h1, if_neg h2]]
    have c1 := fun W => in_any k 1 4 W
    rw [decide_eq_false (by omega)] at c1
    have bel := newB (Below.refl w.heap.size w) (.cells #[.int .i64 k, .int .i64 s, .int .i64 m, .slice a n cap] 27)
    clear h1 h2
    replace hn := hide hn
    go_enter Try.func22, Try.ntmps22
    go_wp2_with fail
    go_at_call 48
    refine (c1 _).mono ?_
    rintro e w2 ⟨rfl, rfl⟩
    go_wp2_with fail
    go_ret
    exact ⟨rfl, bel⟩

end Go.Proofs.Ytabeihkfjlmepaa

/-
  The reference's nexted, and Nexted: what a record makes of a shelf (written by gen/rnext.py).
-/
namespace Go.Proofs.Ytabeihkfjlmepaa
open Go.RowKit

theorem wf_small {n : Int} (h0 : 0 ≤ n) (h1 : n ≤ 100001) : (Lit.int .i64 n).wf = true := by
  have a : IntKind.i64.min ≤ n := Int.le_trans (by decide) h0
  have b : n ≤ IntKind.i64.max := Int.le_trans h1 (by decide)
  show (decide (IntKind.i64.min ≤ n) && decide (n ≤ IntKind.i64.max)) = true
  rw [decide_eq_true a, decide_eq_true b]
  rfl

theorem rec_n {r : Rc} (h : recE r = 0) (hk : r.k = 3) : 0 ≤ r.n ∧ r.n ≤ 100001 := by
  unfold recE at h
  rw [if_neg (by rw [hk]; decide), if_pos (by rw [hk]; decide)] at h
  split at h
  · cases h
  · split at h
    · rename_i h1
      exact ⟨h1.2.2.1, h1.2.2.2⟩
    · cases h

set_option maxHeartbeats 2000000 in
set_option maxRecDepth 100000 in
theorem nexted_any (C : List Rw) (r : Rc) (a a3 : Option Addr) (G c3 n3 cn dn : Nat) (w : World) (h : IsS w a G C) (s3 : SlW ec w a3 c3 r.e) (h3 : Hid (n3 = r.e.length)) (hcn : Hid (cn = C.length)) (hdn : Hid (dn = (workL C r).length)) (hz : shelfE C = 0) (hr : recE r = 0) :
    Calls Try.prog 23 #[.agg #[.slice a cn G], .agg #[.int .i64 r.k, .int .i64 r.s, .int .i64 r.n, .slice a3 n3 c3]] w (Mk (workE C r) (workL C r) dn w) := by
  have bel := newB (newB (newB (Below.refl w.heap.size w) (.cells #[.slice a cn G] 24)) (.cells #[.int .i64 r.k, .int .i64 r.s, .int .i64 r.n, .slice a3 n3 c3] 27)) (.cells #[.slice none 0 0] 24)
  have B1 := ((Blk.laid w [.slice a cn G] 24 _ rfl).alc (.cells #[.int .i64 r.k, .int .i64 r.s, .int .i64 r.n, .slice a3 n3 c3] 27)).alc (.cells #[.slice none 0 0] 24)
  have B2 := (Blk.laid (w.alloc (.cells #[.slice a cn G] 24)) [.int .i64 r.k, .int .i64 r.s, .int .i64 r.n, .slice a3 n3 c3] 27 (w.heap.size + 1) (by simp)).alc (.cells #[.slice none 0 0] 24)
  have B3 := Blk.laid ((w.alloc (.cells #[.slice a cn G] 24)).alloc (.cells #[.int .i64 r.k, .int .i64 r.s, .int .i64 r.n, .slice a3 n3 c3] 27)) [.slice none 0 0] 24 (w.heap.size + 1 + 1) (by simp)
  have S := h.keep bel (Nat.le_refl _)
  have S3 := s3.keep bel (Nat.le_refl _)
  have hR := right_of hz
  have few := few_rec hr
  have hn := rec_n hr
  have cP := fun W (h : IsS W a G C) (t : SlW ec W a3 c3 r.e) => rput_is (enL r.e) a3 c3 h (slEn t) (by rw [enL_len]; omega) hR
  have cS := fun W (h : IsS W a G C) => rseal_is r.s r.n h hR
  have cM := fun hk W (h : IsS W a G C) => rmerge_is r.s r.n h hR (wf_small (hn hk).1 (hn hk).2)
  have cD := fun W (h : IsS W a G C) => rdrop_is r.n h hR
  simp only [enL_len] at cP
  rw [← hcn.out] at cP cS cD
  simp only [← hcn.out] at cM
  rw [← h3.out] at cP
  obtain ⟨w1, w2, w3, w4⟩ := work_of C r
  have kd := kind_rec hr
  obtain ⟨K, s', m', l⟩ := r
  simp only at *
  generalize workE C ⟨K, s', m', l⟩ = E at *
  generalize workL C ⟨K, s', m', l⟩ = D at *
  clear hr hz hn hR
  rcases kd with rfl | rfl | rfl | rfl
  · obtain ⟨w5, w6⟩ := w1 rfl
    rw [← w5, ← w6] at cP
    clear w1 w2 w3 w4 w5 w6 cS cM cD
    go_enter Try.func23, Try.ntmps23
    go_upto_region 1 with fail
    generalize World.alloc (World.alloc (World.alloc w _) _) _ = wa at *
    have b10 := B1.cell 0
    have b1l := B1.lt
    have b20 := B2.cell 0
    have b21 := B2.cell 1
    have b22 := B2.cell 2
    have b23 := B2.cell 3
    have b2l := B2.lt
    go_wp2_with fail
    go_at_call 50
    refine (mk_of hdn (cP _ S S3)).mono ?_
    rintro e wd ⟨a', G', rfl, I, bb⟩
    clear b10 b1l b20 b21 b22 b23 b2l
    replace B3 := B3.keep bb B3.lt
    replace bel := belowCall bel bb
    clear bb
    have b30 := B3.cell 0
    have b3l := B3.lt
    have f0 := B3.free 0
    go_wp2_with fail
    have B9 := B3.set 0 (.slice a' dn G')
    have bel9 := bel.setCell (p := ⟨w.heap.size + 1 + 1, 0, none⟩) (Nat.le_trans (Nat.le_succ _) (Nat.le_succ _)) (.slice a' dn G')
    have I9 := IsS.boxed (I) B3 (.slice a' dn G')
    have i0 := B9.cell 0
    exact bodyPost_ret (v := .tuple #[.agg #[.slice a' dn G'], .int .i64 E]) (by simp [results, Try.results23, go_sem, i0]) rfl ⟨_, _, rfl, I9, bel9⟩
  · obtain ⟨w5, w6⟩ := w2 rfl
    rw [← w5, ← w6] at cS
    clear w1 w2 w3 w4 w5 w6 cP cM cD
    go_enter Try.func23, Try.ntmps23
    go_upto_region 1 with fail
    generalize World.alloc (World.alloc (World.alloc w _) _) _ = wa at *
    have b10 := B1.cell 0
    have b1l := B1.lt
    have b20 := B2.cell 0
    have b21 := B2.cell 1
    have b22 := B2.cell 2
    have b23 := B2.cell 3
    have b2l := B2.lt
    go_wp2_with fail
    go_at_call 51
    refine (mk_of hdn (cS _ S)).mono ?_
    rintro e wd ⟨a', G', rfl, I, bb⟩
    clear b10 b1l b20 b21 b22 b23 b2l
    replace B3 := B3.keep bb B3.lt
    replace bel := belowCall bel bb
    clear bb
    have b30 := B3.cell 0
    have b3l := B3.lt
    have f0 := B3.free 0
    go_wp2_with fail
    have B9 := B3.set 0 (.slice a' dn G')
    have bel9 := bel.setCell (p := ⟨w.heap.size + 1 + 1, 0, none⟩) (Nat.le_trans (Nat.le_succ _) (Nat.le_succ _)) (.slice a' dn G')
    have I9 := IsS.boxed (I) B3 (.slice a' dn G')
    have i0 := B9.cell 0
    exact bodyPost_ret (v := .tuple #[.agg #[.slice a' dn G'], .int .i64 E]) (by simp [results, Try.results23, go_sem, i0]) rfl ⟨_, _, rfl, I9, bel9⟩
  · obtain ⟨w5, w6⟩ := w3 rfl
    replace cM := cM rfl
    rw [← w5, ← w6] at cM
    clear w1 w2 w3 w4 w5 w6 cP cS cD
    go_enter Try.func23, Try.ntmps23
    go_upto_region 1 with fail
    generalize World.alloc (World.alloc (World.alloc w _) _) _ = wa at *
    have b10 := B1.cell 0
    have b1l := B1.lt
    have b20 := B2.cell 0
    have b21 := B2.cell 1
    have b22 := B2.cell 2
    have b23 := B2.cell 3
    have b2l := B2.lt
    go_wp2_with fail
    go_at_call 52
    refine (mk_of hdn (cM _ S)).mono ?_
    rintro e wd ⟨a', G', rfl, I, bb⟩
    clear b10 b1l b20 b21 b22 b23 b2l
    replace B3 := B3.keep bb B3.lt
    replace bel := belowCall bel bb
    clear bb
    have b30 := B3.cell 0
    have b3l := B3.lt
    have f0 := B3.free 0
    go_wp2_with fail
    have B9 := B3.set 0 (.slice a' dn G')
    have bel9 := bel.setCell (p := ⟨w.heap.size + 1 + 1, 0, none⟩) (Nat.le_trans (Nat.le_succ _) (Nat.le_succ _)) (.slice a' dn G')
    have I9 := IsS.boxed (I) B3 (.slice a' dn G')
    have i0 := B9.cell 0
    exact bodyPost_ret (v := .tuple #[.agg #[.slice a' dn G'], .int .i64 E]) (by simp [results, Try.results23, go_sem, i0]) rfl ⟨_, _, rfl, I9, bel9⟩
  · obtain ⟨w5, w6⟩ := w4 rfl
    rw [← w5, ← w6] at cD
    clear w1 w2 w3 w4 w5 w6 cP cS cM
    go_enter Try.func23, Try.ntmps23
    go_upto_region 1 with fail
    generalize World.alloc (World.alloc (World.alloc w _) _) _ = wa at *
    have b10 := B1.cell 0
    have b1l := B1.lt
    have b20 := B2.cell 0
    have b21 := B2.cell 1
    have b22 := B2.cell 2
    have b23 := B2.cell 3
    have b2l := B2.lt
    go_wp2_with fail
    go_at_call 53
    refine (mk_of hdn (cD _ S)).mono ?_
    rintro e wd ⟨a', G', rfl, I, bb⟩
    clear b10 b1l b20 b21 b22 b23 b2l
    replace B3 := B3.keep bb B3.lt
    replace bel := belowCall bel bb
    clear bb
    have b30 := B3.cell 0
    have b3l := B3.lt
    have f0 := B3.free 0
    go_wp2_with fail
    have B9 := B3.set 0 (.slice a' dn G')
    have bel9 := bel.setCell (p := ⟨w.heap.size + 1 + 1, 0, none⟩) (Nat.le_trans (Nat.le_succ _) (Nat.le_succ _)) (.slice a' dn G')
    have I9 := IsS.boxed (I) B3 (.slice a' dn G')
    have i0 := B9.cell 0
    exact bodyPost_ret (v := .tuple #[.agg #[.slice a' dn G'], .int .i64 E]) (by simp [results, Try.results23, go_sem, i0]) rfl ⟨_, _, rfl, I9, bel9⟩

set_option maxHeartbeats 2000000 in
set_option maxRecDepth 100000 in
theorem rnext_any (C : List Rw) (r : Rc) (a a3 : Option Addr) (G c3 n3 cn dn : Nat) (w : World) (h : IsS w a G C) (s3 : SlW ec w a3 c3 r.e) (h3 : Hid (n3 = r.e.length)) (hcn : Hid (cn = C.length)) (hdn : Hid (dn = (nextL C r).length)) :
    Calls Try.prog 7 #[.agg #[.slice a cn G], .agg #[.int .i64 r.k, .int .i64 r.s, .int .i64 r.n, .slice a3 n3 c3]] w (Mk (nextE C r) (nextL C r) dn w) := by
  have bel := newB (newB (newB (Below.refl w.heap.size w) (.cells #[.slice a cn G] 24)) (.cells #[.int .i64 r.k, .int .i64 r.s, .int .i64 r.n, .slice a3 n3 c3] 27)) (.cells #[.slice none 0 0] 24)
  have B1 := ((Blk.laid w [.slice a cn G] 24 _ rfl).alc (.cells #[.int .i64 r.k, .int .i64 r.s, .int .i64 r.n, .slice a3 n3 c3] 27)).alc (.cells #[.slice none 0 0] 24)
  have B2 := (Blk.laid (w.alloc (.cells #[.slice a cn G] 24)) [.int .i64 r.k, .int .i64 r.s, .int .i64 r.n, .slice a3 n3 c3] 27 (w.heap.size + 1) (by simp)).alc (.cells #[.slice none 0 0] 24)
  have B3 := Blk.laid ((w.alloc (.cells #[.slice a cn G] 24)).alloc (.cells #[.int .i64 r.k, .int .i64 r.s, .int .i64 r.n, .slice a3 n3 c3] 27)) [.slice none 0 0] 24 (w.heap.size + 1 + 1) (by simp)
  have S := h.keep bel (Nat.le_refl _)
  have S3 := s3.keep bel (Nat.le_refl _)
  have cC := fun W (h : IsS W a G C) => rshCheck_is h
  have cN := fun W (s : SlW ec W a3 c3 r.e) => rcheck_is r a3 c3 n3 W s h3.out
  rw [← hcn.out] at cC
  by_cases hz : shelfE C = 0
  · by_cases hr : recE r = 0
    · have hE : nextE C r = workE C r := by unfold nextE; rw [if_neg (by simp [hz]), if_neg (by simp [hr])]
      have hL : nextL C r = workL C r := by unfold nextL; rw [if_neg (by simp [hz]), if_neg (by simp [hr])]
      rw [hL] at hdn ⊢
      rw [hE]
      have cX := fun W h t => nexted_any C r a a3 G c3 n3 cn dn W h t h3 hcn hdn hz hr
      rw [hz] at cC
      rw [hr] at cN
      obtain ⟨K, s', m', l⟩ := r
      simp only at *
      generalize workE C ⟨K, s', m', l⟩ = E at *
      generalize workL C ⟨K, s', m', l⟩ = D at *
      clear hE hL hr hz
      go_enter Try.func7, Try.ntmps7
      go_upto_region 1 with fail
      generalize World.alloc (World.alloc (World.alloc w _) _) _ = wa at *
      have b10 := B1.cell 0
      have b1l := B1.lt
      go_wp2_with fail
      go_at_call 21
      refine (cC _ S).mono ?_
      rintro e wb ⟨rfl, bb⟩
      clear b10 b1l
      replace B1 := B1.keep bb B1.lt
      replace B2 := B2.keep bb B2.lt
      replace B3 := B3.keep bb B3.lt
      replace S := S.call bb
      replace S3 := S3.call bb
      replace bel := belowCall bel bb
      clear bb
      have b20 := B2.cell 0
      have b21 := B2.cell 1
      have b22 := B2.cell 2
      have b23 := B2.cell 3
      have b2l := B2.lt
      go_wp2_with fail
      go_at_call 22
      refine (cN _ S3).mono ?_
      rintro e wc ⟨rfl, bb⟩
      clear b20 b21 b22 b23 b2l
      replace B1 := B1.keep bb B1.lt
      replace B2 := B2.keep bb B2.lt
      replace B3 := B3.keep bb B3.lt
      replace S := S.call bb
      replace S3 := S3.call bb
      replace bel := belowCall bel bb
      clear bb
      have b10 := B1.cell 0
      have b1l := B1.lt
      have b20 := B2.cell 0
      have b21 := B2.cell 1
      have b22 := B2.cell 2
      have b23 := B2.cell 3
      have b2l := B2.lt
      go_wp2_with fail
      go_at_call 23
      refine (cX _ S S3).mono ?_
      rintro e wd ⟨a', G', rfl, I, bb⟩
      clear b10 b1l b20 b21 b22 b23 b2l
      replace B3 := B3.keep bb B3.lt
      replace bel := belowCall bel bb
      clear bb
      have b30 := B3.cell 0
      have b3l := B3.lt
      have f0 := B3.free 0
      go_wp2_with fail
      have B9 := B3.set 0 (.slice a' dn G')
      have bel9 := bel.setCell (p := ⟨w.heap.size + 1 + 1, 0, none⟩) (Nat.le_trans (Nat.le_succ _) (Nat.le_succ _)) (.slice a' dn G')
      have I9 := IsS.boxed (I) B3 (.slice a' dn G')
      have i0 := B9.cell 0
      exact bodyPost_ret (v := .tuple #[.agg #[.slice a' dn G'], .int .i64 E]) (by simp [results, Try.results7, go_sem, i0]) rfl ⟨_, _, rfl, I9, bel9⟩
    · have hE : nextE C r = recE r := by unfold nextE; rw [if_neg (by simp [hz]), if_pos hr]
      have hD : nextL C r = [] := next_bad (by rw [hE]; exact hr)
      have hzd : decide (recE r = 0) = false := decide_eq_false hr
      rw [hz] at cC
      rw [hD] at hdn ⊢
      rw [hE]
      obtain rfl : dn = 0 := hdn.out
      generalize recE r = E at *
      obtain ⟨K, s', m', l⟩ := r
      simp only at *
      clear hE hD hdn hz
      go_enter Try.func7, Try.ntmps7
      go_upto_region 1 with fail
      generalize World.alloc (World.alloc (World.alloc w _) _) _ = wa at *
      have b10 := B1.cell 0
      have b1l := B1.lt
      go_wp2_with fail
      go_at_call 21
      refine (cC _ S).mono ?_
      rintro e wb ⟨rfl, bb⟩
      clear b10 b1l
      replace B1 := B1.keep bb B1.lt
      replace B2 := B2.keep bb B2.lt
      replace B3 := B3.keep bb B3.lt
      replace S := S.call bb
      replace S3 := S3.call bb
      replace bel := belowCall bel bb
      clear bb
      have b20 := B2.cell 0
      have b21 := B2.cell 1
      have b22 := B2.cell 2
      have b23 := B2.cell 3
      have b2l := B2.lt
      go_wp2_with fail
      go_at_call 22
      refine (cN _ S3).mono ?_
      rintro e wc ⟨rfl, bb⟩
      clear b20 b21 b22 b23 b2l
      replace B1 := B1.keep bb B1.lt
      replace B2 := B2.keep bb B2.lt
      replace B3 := B3.keep bb B3.lt
      replace S := S.call bb
      replace S3 := S3.call bb
      replace bel := belowCall bel bb
      clear bb
      have b30 := B3.cell 0
      have b3l := B3.lt
      have f0 := B3.free 0
      go_wp2_with fail
      have B9 := B3.set 0 (.slice none 0 0)
      have bel9 := bel.setCell (p := ⟨w.heap.size + 1 + 1, 0, none⟩) (Nat.le_trans (Nat.le_succ _) (Nat.le_succ _)) (.slice none 0 0)
      have I9 := IsS.boxed (IsS.none _) B3 (.slice none 0 0)
      have i0 := B9.cell 0
      exact bodyPost_ret (v := .tuple #[.agg #[.slice none 0 0], .int .i64 E]) (by simp [results, Try.results7, go_sem, i0]) rfl ⟨_, _, rfl, I9, bel9⟩
  · have hE : nextE C r = shelfE C := if_pos hz
    have hD : nextL C r = [] := if_pos hz
    have hzd : decide (shelfE C = 0) = false := decide_eq_false hz
    rw [hD] at hdn ⊢
    rw [hE]
    obtain rfl : dn = 0 := hdn.out
    generalize shelfE C = E at *
    obtain ⟨K, s', m', l⟩ := r
    simp only at *
    clear hE hD hdn
    go_enter Try.func7, Try.ntmps7
    go_upto_region 1 with fail
    generalize World.alloc (World.alloc (World.alloc w _) _) _ = wa at *
    have b10 := B1.cell 0
    have b1l := B1.lt
    go_wp2_with fail
    go_at_call 21
    refine (cC _ S).mono ?_
    rintro e wb ⟨rfl, bb⟩
    clear b10 b1l
    replace B1 := B1.keep bb B1.lt
    replace B2 := B2.keep bb B2.lt
    replace B3 := B3.keep bb B3.lt
    replace S := S.call bb
    replace S3 := S3.call bb
    replace bel := belowCall bel bb
    clear bb
    have b30 := B3.cell 0
    have b3l := B3.lt
    have f0 := B3.free 0
    go_wp2_with fail
    have B9 := B3.set 0 (.slice none 0 0)
    have bel9 := bel.setCell (p := ⟨w.heap.size + 1 + 1, 0, none⟩) (Nat.le_trans (Nat.le_succ _) (Nat.le_succ _)) (.slice none 0 0)
    have I9 := IsS.boxed (IsS.none _) B3 (.slice none 0 0)
    have i0 := B9.cell 0
    exact bodyPost_ret (v := .tuple #[.agg #[.slice none 0 0], .int .i64 E]) (by simp [results, Try.results7, go_sem, i0]) rfl ⟨_, _, rfl, I9, bel9⟩

end Go.Proofs.Ytabeihkfjlmepaa

/-
  The reference's ShelfOf: what records make of a new shelf.
-/
namespace Go.Proofs.Ytabeihkfjlmepaa
open Go.RowKit

theorem next_rec {C : List Rw} {r : Rc} (hz : shelfE C = 0) : (recE r ≠ 0 → nextE C r = recE r) ∧ (recE r = 0 → nextE C r = workE C r ∧ nextL C r = workL C r) := by
  refine ⟨fun h => ?_, fun h => ⟨?_, ?_⟩⟩
  · unfold nextE; rw [if_neg (by simp [hz]), if_pos h]
  · unfold nextE; rw [if_neg (by simp [hz]), if_neg (by simp [h])]
  · unfold nextL; rw [if_neg (by simp [hz]), if_neg (by simp [h])]

set_option maxHeartbeats 2000000 in
set_option maxRecDepth 100000 in
theorem rshelfOf_any (l : List Lrc) (la : Option Addr) (n c dn : Nat) (w : World) (S : SlRec w la c l) (hn : Hid (n = l.length)) (hdn : Hid (dn = (replL (l.map (·.r))).length)) :
    Calls Try.prog 8 #[.slice la n c] w (Mk (replE (l.map (·.r))) (replL (l.map (·.r))) dn w) := by
  have hmax := S.row.max
  have hle := S.row.le
  have hnc : n ≤ c := by rw [hn.out]; exact hle
  obtain ⟨R, hR⟩ : ∃ R, R = l.map (·.r) := ⟨_, rfl⟩
  have hRl : R.length = n := by rw [hR, List.length_map, hn.out]
  rw [← hR] at hdn ⊢
  have BR := Blk.laid w [.slice none 0 0] 24 _ rfl
  have bel := newB (Below.refl w.heap.size w) (.cells #[.slice none 0 0] 24)
  by_cases hm : 60 < n
  · have hm' : (60 : Int) < n := by omega
    obtain ⟨e1, e2⟩ := repl_many (R := R) (by omega)
    rw [e2] at hdn ⊢
    rw [e1]
    obtain rfl : dn = 0 := hdn.out
    clear hdn e1 e2 hR hRl hmax hle
    go_enter Try.func8, Try.ntmps8
    go_upto_region 1 with fail
    generalize World.alloc w _ = w1 at *
    have x0 := BR.cell 0
    have f0 := BR.free 0
    have xl := BR.lt
    go_wp2_with fail
    have B9 := BR.set 0 (.slice none 0 0)
    have bel9 := bel.setCell (p := ⟨w.heap.size, 0, none⟩) (Nat.le_refl _) (.slice none 0 0)
    have I9 := (IsS.none w1).boxed BR (.slice none 0 0)
    have i0 := B9.cell 0
    exact bodyPost_ret (v := .tuple #[.agg #[.slice none 0 0], .int .i64 2]) (by simp [results, Try.results8, go_sem, i0]) rfl ⟨_, _, rfl, I9, bel9⟩
  · have hm' : ¬ (60 : Int) < n := by omega
    obtain ⟨e1, e2⟩ := repl_few (R := R) (by omega)
    rw [e2] at hdn ⊢
    rw [e1]
    have hn60 : n ≤ 60 := by omega
    have hxR : ∀ (k : Nat) (x : Lrc), l[k]? = some x → R[k]? = some x.r := by
      intro k x hx
      rw [hR, List.getElem?_map, hx]
      rfl
    clear e1 e2 hmax hle
    generalize hEE : (workAll newS R).2 = EE at *
    generalize hDD : (workAll newS R).1 = DD at *
    replace hEE := hide hEE
    replace hDD := hide hDD
    replace hR := hide hR
    replace hRl := hide hRl
    go_enter Try.func8, Try.ntmps8
    go_upto_region 1 with fail
    generalize World.alloc w _ = w1 at *
    go_wp2_with fail
    go_at_call 24
    refine (rfresh_is _).mono ?_
    rintro e w2 ⟨aN, GN, rfl, IN, b2⟩
    have BS := Blk.laid w2 [.slice aN 4 GN] 24 _ rfl
    have bq := newB b2 (.cells #[.slice aN 4 GN] 24)
    have IN2 := IN.alloc (.cells #[.slice aN 4 GN] 24)
    have lgS : w.heap.size < w2.heap.size := Nat.lt_of_lt_of_le BR.lt b2.size
    replace BR := BR.keep bq BR.lt
    replace bel := belowCall bel bq
    clear b2 bq IN
    go_upto_region 4 with fail
    generalize w2.heap.size = gS at *
    generalize World.alloc w2 _ = w3 at *
    go_wp2_with fail
    go_loopw [17] (fun i wr => ∃ (k : Nat) (aS : Option Addr) (cS : Nat) (C : List Rw), k ≤ n ∧ i = .int .i64 k ∧ Blk wr w.heap.size [.slice none 0 0] 24 ∧ Blk wr gS [.slice aS 4 cS] 24 ∧ IsS wr aS cS C ∧ Hid (workAll newS (R.take k) = (C, 0)) ∧ Below w.heap.size w wr) (fun i _ => n - (intOf i).toNat)
    case atStart => exact ⟨0, aN, GN, newS, Nat.zero_le _, rfl, BR, BS, IN2, by simp [workAll, Hid], bel⟩
    case round =>
      clear BR BS IN2 bel
      obtain ⟨k, aS, cS, C, hk, rfl, BR, BS, I, hC, bel⟩ := hrel
      have hz := work_shelf hC.out
      have h4 := hide (right_len hz)
      by_cases hlt : k < n
      · have hkl : k < l.length := by rw [← hn.out]; exact hlt
        obtain ⟨x, hx⟩ : ∃ x, l[k]? = some x := ⟨_, List.getElem?_eq_getElem hkl⟩
        obtain ⟨lb, lo, rfl, hlb⟩ := S.row.where Lrc.four (by decide) (by intro h; subst h; simp at hkl)
        have S' := S.keep bel (Nat.le_refl _)
        have d0 := S'.row.cell Lrc.four k 0 x _ hx rfl
        have d1 := S'.row.cell Lrc.four k 1 x _ hx rfl
        have d2 := S'.row.cell Lrc.four k 2 x _ hx rfl
        have d3 := S'.row.cell Lrc.four k 3 x _ hx rfl
        simp only [Nat.add_zero] at d0
        have llb := Nat.lt_of_lt_of_le hlb bel.size
        have hent := S'.ent x (List.mem_of_getElem? hx)
        obtain ⟨wz, wb⟩ := work_take hC.out (hxR k x hx)
        obtain ⟨nb, ng⟩ := next_rec (r := x.r) hz
        have cR := fun W t => rcheck_is x.r x.a x.c x.r.e.length W t rfl
        have BC := Blk.laid wr x.cells 27 _ rfl
        have bc := newB (Below.refl wr.heap.size wr) (.cells x.cells.toArray 27)
        have hent1 := hent.call bc
        have I1 := I.call bc
        replace BR := BR.keep bc BR.lt
        replace BS := BS.keep bc BS.lt
        have bel1 := bel.trans (bc.mono bel.size)
        simp only [Lrc.cells] at BC bc hent1 I1 BR BS bel1
        replace hx := hide hx
        clear S' hkl hent I bc bel
        go_upto_region 7 with fail
        generalize wr.heap.size = gC at *
        generalize World.alloc wr _ = w4 at *
        have x0 := BC.cell 0
        have x1 := BC.cell 1
        have x2 := BC.cell 2
        have x3 := BC.cell 3
        have lC := BC.lt
        go_wp2_with fail
        go_at_call 22
        refine (cR _ hent1).mono ?_
        rintro e w5 ⟨rfl, b5⟩
        clear x0 x1 x2 x3 lC cR
        replace BR := BR.keep b5 BR.lt
        replace BS := BS.keep b5 BS.lt
        replace BC := BC.keep b5 BC.lt
        replace I1 := I1.call b5
        replace hent1 := hent1.call b5
        replace bel1 := bel1.trans (b5.mono bel1.size)
        clear b5
        by_cases hr : recE x.r = 0
        · obtain ⟨nE, nL⟩ := ng hr
          obtain ⟨dk, hdk⟩ : ∃ d, Hid (d = (workL C x.r).length) := ⟨_, hide rfl⟩
          have cN := fun W h t => nexted_any C x.r aS x.a cS x.c x.r.e.length 4 dk W h t (hide rfl) (hide h4.out.symm) hdk hz hr
          rw [hr]
          rw [nE] at wz wb
          rw [nL] at wz
          have x0 := BC.cell 0
          have x1 := BC.cell 1
          have x2 := BC.cell 2
          have x3 := BC.cell 3
          have lC := BC.lt
          have y0 := BS.cell 0
          have lS := BS.lt
          go_wp2_with fail
          go_at_call 23
          refine (cN _ I1 hent1).mono ?_
          rintro e w6 ⟨a', G', rfl, I6, b6⟩
          clear x0 x1 x2 x3 lC y0 lS cN hent1 I1 BC
          have BN := Blk.laid w6 [.slice a' dk G'] 24 _ rfl
          have bq := newB b6 (.cells #[.slice a' dk G'] 24)
          have I7 := I6.alloc (.cells #[.slice a' dk G'] 24)
          replace BR := BR.keep bq BR.lt
          replace BS := BS.keep bq BS.lt
          replace bel1 := bel1.trans (bq.mono bel1.size)
          clear b6 bq I6
          go_upto_region 11 with fail
          generalize w6.heap.size = gN at *
          generalize World.alloc w6 _ = w7 at *
          by_cases hE : workE C x.r = 0
          · rw [hE]
            have hw := wz hE
            obtain rfl : dk = 4 := by rw [hdk.out]; exact right_len (work_right hz hE)
            clear wz wb nb ng nE nL
            have z0 := BN.cell 0
            have lN := BN.lt
            have y0 := BS.cell 0
            have f0 := BS.free 0
            have lS := BS.lt
            have BS6 := BS.set 0 (.slice a' 4 G')
            have BR6 : Blk (w7.setCell ⟨gS, 0, none⟩ (.slice a' 4 G')) w.heap.size [.slice none 0 0] 24 := BR.other 0 _ (by omega)
            have I8 := I7.boxed BS (.slice a' 4 G')
            have bel6 := bel1.setCell (p := ⟨gS, 0, none⟩) (Nat.le_of_lt lgS) (.slice a' 4 G')
            go_wp2_with fail
            go_roundw
            case rel => exact ⟨k + 1, a', G', workL C x.r, by omega, by go_num, BR6, BS6, I8, hide hw, bel6⟩
            case measure => simp [intOf]; omega
          · have hw := wb hE
            have hzd : decide (workE C x.r = 0) = false := decide_eq_false hE
            generalize workE C x.r = E at *
            obtain rfl : DD = [] := by rw [← hDD.out, hw]
            obtain rfl : EE = E := by rw [← hEE.out, hw]
            obtain rfl : dn = 0 := hdn.out
            clear wz wb hEE hDD hw nb ng nE nL
            have z0 := BR.cell 0
            have f0 := BR.free 0
            have lR := BR.lt
            go_wp2_with fail
            have B9 := BR.set 0 (.slice none 0 0)
            have bel9 := bel1.setCell (p := ⟨w.heap.size, 0, none⟩) (Nat.le_refl _) (.slice none 0 0)
            have I9 := (IsS.none w7).boxed BR (.slice none 0 0)
            have i0 := B9.cell 0
            exact bodyPost_ret (v := .tuple #[.agg #[.slice none 0 0], .int .i64 EE]) (by simp [results, Try.results8, go_sem, i0]) rfl ⟨_, _, rfl, I9, bel9⟩
        · have hE := nb hr
          have hw := wb (by rw [hE]; exact hr)
          have hzd : decide (recE x.r = 0) = false := decide_eq_false hr
          rw [hE] at hw
          clear wz wb ng nb
          generalize recE x.r = E at *
          obtain rfl : DD = [] := by rw [← hDD.out, hw]
          obtain rfl : EE = E := by rw [← hEE.out, hw]
          obtain rfl : dn = 0 := hdn.out
          clear hEE hDD hw hE
          have z0 := BR.cell 0
          have f0 := BR.free 0
          have lR := BR.lt
          go_wp2_with fail
          have B9 := BR.set 0 (.slice none 0 0)
          have bel9 := bel1.setCell (p := ⟨w.heap.size, 0, none⟩) (Nat.le_refl _) (.slice none 0 0)
          have I9 := (IsS.none w5).boxed BR (.slice none 0 0)
          have i0 := B9.cell 0
          exact bodyPost_ret (v := .tuple #[.agg #[.slice none 0 0], .int .i64 EE]) (by simp [results, Try.results8, go_sem, i0]) rfl ⟨_, _, rfl, I9, bel9⟩
      · obtain rfl : k = n := by omega
        have hw := hC.out
        rw [List.take_of_length_le (by rw [hRl.out]; exact Nat.le_refl _)] at hw
        obtain rfl : DD = C := by rw [← hDD.out, hw]
        obtain rfl : EE = 0 := by rw [← hEE.out, hw]
        obtain rfl : dn = 4 := hdn.out.trans h4.out
        clear hw hEE hDD
        have y0 := BS.cell 0
        have lS := BS.lt
        have z0 := BR.cell 0
        have f0 := BR.free 0
        have lR := BR.lt
        go_wp2_with fail
        have B9 := BR.set 0 (.slice aS 4 cS)
        have bel9 := bel.setCell (p := ⟨w.heap.size, 0, none⟩) (Nat.le_refl _) (.slice aS 4 cS)
        have I9 := I.boxed BR (.slice aS 4 cS)
        have i0 := B9.cell 0
        exact bodyPost_ret (v := .tuple #[.agg #[.slice aS 4 cS], .int .i64 0]) (by simp [results, Try.results8, go_sem, i0]) rfl ⟨_, _, rfl, I9, bel9⟩

end Go.Proofs.Ytabeihkfjlmepaa

/-
  StoreSays: the walk.
-/
namespace Go.Proofs.Ytabeihkfjlmepaa.storeSays
open Go.RowKit
set_option linter.unusedVariables false

/-- A shelf in a box. -/
structure BxS (W : World) (g : Nat) (a : Option Addr) (n G : Nat) (C : List Rw) : Prop where
  blk : Blk W g [.slice a n G] 24
  is : IsS W a G C

theorem BxS.call {W W' : World} {g : Nat} {a : Option Addr} {n G : Nat} {C : List Rw} (h : BxS W g a n G C) (b : Below W.heap.size W W') : BxS W' g a n G C := ⟨h.blk.keep b h.blk.lt, h.is.call b⟩

def LaidS (W : World) (D : List Rw) (dn : Nat) (E : Int) (e : Ending) (w' : World) : Prop :=
  ∃ a' G', e = .returned (.tuple #[.agg #[.slice a' dn G'], .int .i64 E]) ∧ BxS (w'.alloc (.cells #[.slice a' dn G'] 24)) w'.heap.size a' dn G' D ∧ Below W.heap.size W (w'.alloc (.cells #[.slice a' dn G'] 24))

theorem mk_laid {E : Int} {D : List Rw} {dn : Nat} {W : World} {e : Ending} {w' : World} (h : Mk E D dn W e w') : LaidS W D dn E e w' := by
  obtain ⟨a', G', he, I, b⟩ := h
  exact ⟨a', G', he, ⟨Blk.laid w' [.slice a' dn G'] _ _ rfl, I.alloc _⟩, newB b _⟩

theorem self_is {D : List Rw} {d : Nat} (hd : Hid (d = D.length)) (hl : D.length ≤ 4) {g h : Nat} {a b : Option Addr} {G H : Nat} {W : World} (x : BxS W g a d G D) (y : BxS W h b d H D) :
    Calls Try.prog 10 #[.agg #[.slice a d G], .agg #[.slice b d H]] W fun e w' => e = .returned (.bool true) ∧ Below W.heap.size W w' := by
  have c := rshSame_is x.is y.is (by omega)
  rw [sameSh_self, ← hd.out] at c
  exact c

set_option maxHeartbeats 4000000 in
set_option maxRecDepth 100000 in
theorem walk (w : World) (C : List Rw) (a : Option Addr) (G cn : Nat) (IS : IsS w a G C) (hcn : cn = C.length) (r : Rc) (a3 : Option Addr) (c3 n3 : Nat) (s3 : SlW ec w a3 c3 r.e) (h3 : n3 = r.e.length) (l : List Lrc) (la : Option Addr) (lc ln : Nat) (SL : SlRec w la lc l) (hln : ln = l.length) :
    Calls Try.prog 3 #[.agg #[.slice a cn G], .agg #[.int .i64 r.k, .int .i64 r.s, .int .i64 r.n, .slice a3 n3 c3], .slice la ln lc] w fun e w' => e = .returned (.bool true) ∧ Below w.heap.size w w' := by
  have bel := newB (newB (Below.refl w.heap.size w) (.cells #[.slice a cn G] 24)) (.cells #[.int .i64 r.k, .int .i64 r.s, .int .i64 r.n, .slice a3 n3 c3] 27)
  have BX : BxS ((w.alloc (.cells #[.slice a cn G] 24)).alloc (.cells #[.int .i64 r.k, .int .i64 r.s, .int .i64 r.n, .slice a3 n3 c3] 27)) w.heap.size a cn G C := ⟨(Blk.laid w [.slice a cn G] 24 _ rfl).alc _, IS.keep bel (Nat.le_refl _)⟩
  have BC := Blk.laid (w.alloc (.cells #[.slice a cn G] 24)) [.int .i64 r.k, .int .i64 r.s, .int .i64 r.n, .slice a3 n3 c3] 27 (w.heap.size + 1) (by simp)
  have SC := s3.keep bel (Nat.le_refl _)
  have TL := SL.keep bel (Nat.le_refl _)
  obtain ⟨d1, hd1⟩ : ∃ d, Hid (d = (nextL C r).length) := ⟨_, hide rfl⟩
  obtain ⟨d2, hd2⟩ : ∃ d, Hid (d = (replL (l.map (·.r))).length) := ⟨_, hide rfl⟩
  have cN := fun W h t => next_any C r a a3 G c3 n3 cn d1 W h t (hide h3) (hide hcn) hd1
  have rN := fun W h t => rnext_any C r a a3 G c3 n3 cn d1 W h t (hide h3) (hide hcn) hd1
  have cR := fun W S => replay_any l la ln lc d2 W S (hide hln) hd2
  have rR := fun W S => rshelfOf_any l la ln lc d2 W S (hide hln) hd2
  have l1 : (nextL C r).length ≤ 4 := next_len
  have l2 : (replL (l.map (·.r))).length ≤ 4 := repl_len
  obtain ⟨K, s', m', es⟩ := r
  simp only at *
  generalize nextE C ⟨K, s', m', es⟩ = E1 at *
  generalize nextL C ⟨K, s', m', es⟩ = D1 at *
  generalize replE (l.map (·.r)) = E2 at *
  generalize replL (l.map (·.r)) = D2 at *
  replace l1 := hide l1
  replace l2 := hide l2
  clear h3 hcn hln IS s3 SL
  go_enter Try.func3, Try.ntmps3
  go_upto_region 1 with fail
  generalize World.alloc (World.alloc w _) _ = w1 at *
  have x0 := BX.blk.cell 0
  have xl := BX.blk.lt
  have y0 := BC.cell 0
  have y1 := BC.cell 1
  have y2 := BC.cell 2
  have y3 := BC.cell 3
  have yl := BC.lt
  go_wp2_with fail
  go_at_call 5
  refine ((cN _ BX.is SC).mono fun _ _ h => mk_laid h).mono ?_
  rintro e w2 ⟨a4, G4, rfl, BA, bb⟩
  clear x0 xl y0 y1 y2 y3 yl cN
  replace BX := BX.call bb
  replace BC := BC.keep bb BC.lt
  replace SC := SC.call bb
  replace TL := TL.keep bb (Nat.le_refl _)
  replace bel := belowCall bel bb
  clear bb
  go_upto_region 2 with fail
  generalize w2.heap.size = gA at *
  generalize World.alloc w2 _ = v2 at *
  go_wp2_with fail
  go_at_call 6
  refine ((cR _ TL).mono fun _ _ h => mk_laid h).mono ?_
  rintro e w3 ⟨a5, G5, rfl, BB, bb⟩
  clear cR
  replace BX := BX.call bb
  replace BC := BC.keep bb BC.lt
  replace SC := SC.call bb
  replace TL := TL.keep bb (Nat.le_refl _)
  replace BA := BA.call bb
  replace bel := belowCall bel bb
  clear bb
  go_upto_region 3 with fail
  generalize w3.heap.size = gB at *
  generalize World.alloc w3 _ = v3 at *
  have x0 := BX.blk.cell 0
  have xl := BX.blk.lt
  have y0 := BC.cell 0
  have y1 := BC.cell 1
  have y2 := BC.cell 2
  have y3 := BC.cell 3
  have yl := BC.lt
  go_wp2_with fail
  go_at_call 7
  refine ((rN _ BX.is SC).mono fun _ _ h => mk_laid h).mono ?_
  rintro e w4 ⟨a6, G6, rfl, BP, bb⟩
  clear x0 xl y0 y1 y2 y3 yl rN
  replace TL := TL.keep bb (Nat.le_refl _)
  replace BA := BA.call bb
  replace BB := BB.call bb
  replace bel := belowCall bel bb
  clear bb BX BC SC
  go_upto_region 4 with fail
  generalize w4.heap.size = gP at *
  generalize World.alloc w4 _ = v4 at *
  go_wp2_with fail
  go_at_call 8
  refine ((rR _ TL).mono fun _ _ h => mk_laid h).mono ?_
  rintro e w5 ⟨a7, G7, rfl, BQ, bb⟩
  clear rR
  replace BA := BA.call bb
  replace BB := BB.call bb
  replace BP := BP.call bb
  replace bel := belowCall bel bb
  clear bb TL
  go_upto_region 5 with fail
  generalize w5.heap.size = gQ at *
  generalize World.alloc w5 _ = v5 at *
  go_wp2_with fail
  go_at_call 9
  refine (stored_any _).mono ?_
  rintro e w6 ⟨rfl, bb⟩
  replace BA := BA.call bb
  replace BB := BB.call bb
  replace BP := BP.call bb
  replace BQ := BQ.call bb
  replace bel := belowCall bel bb
  clear bb
  have x0 := BA.blk.cell 0
  have xl := BA.blk.lt
  have y0 := BP.blk.cell 0
  have yl := BP.blk.lt
  go_wp2_with fail
  go_at_call 10
  refine (self_is hd1 l1.out BA BP).mono ?_
  rintro e w7 ⟨rfl, bb⟩
  clear x0 xl y0 yl
  replace BB := BB.call bb
  replace BQ := BQ.call bb
  replace bel := belowCall bel bb
  clear bb BA BP
  have x0 := BB.blk.cell 0
  have xl := BB.blk.lt
  have y0 := BQ.blk.cell 0
  have yl := BQ.blk.lt
  go_wp2_with fail
  go_at_call 10
  refine (self_is hd2 l2.out BB BQ).mono ?_
  rintro e w8 ⟨rfl, bb⟩
  go_wp2_with fail
  go_ret
  exact ⟨rfl, belowCall bel bb⟩

end Go.Proofs.Ytabeihkfjlmepaa.storeSays

/-
  How an argument that is a record, by value, is opened: three numbers and a slice of entries.
-/
namespace Go.Proofs.Ytabeihkfjlmepaa
open Go.RowKit Go.ChangeShapes Go.WideShapes Go.ChangeAt Go.Joins

theorem cellsInt : Try.prog.cellsOf 3 = 1 := by kernel_rfl

theorem three_of {α : Type} {l : List α} (h : l.length = 3) : ∃ a b c, l = [a, b, c] := by
  match l, h with
  | [a, b, c], _ => exact ⟨a, b, c, rfl⟩

theorem rec_light {H : Type} {ts : List TypeId} {ds : List (DataW H)} {j : Nat} {t : TypeId} {d : DataW H} (hsz : (DataW.weightsEach Try.prog ts ds).all (· ≤ reachBytes) = true) (ht : ts[j]? = some t) (hd : ds[j]? = some d) : Light t d := by
  intro n hn
  have h := of_decide_eq_true (List.all_eq_true.1 hsz _ (DataW.weights_mem_each ht hd n hn))
  unfold reachBytes at h
  exact h

set_option maxRecDepth 100000 in
theorem open_nt {H : Type} {enc : TypeId × Value → H} {W : World} (cs : List Value) (x : DataW H × List MemPlace) (m : Nat) (hl : cs.length = 3) (h : DataW.trod enc Try.prog W 0 (fun _ => true) true m 41 cs = some x) (_ : Light 41 x.1) :
    ∃ y : Nt, cs = ec y ∧ True := by
  obtain ⟨c0, c1, c2, rfl⟩ := three_of hl
  obtain ⟨y0, y1, y2, n, rfl, _, h0, h1, h2⟩ := Go.Deep.trod_struct3 Try.underlying41 h
  simp only [cellsInt, List.drop_zero, List.drop_succ_cons, List.take_succ_cons, List.take_zero] at h0 h1 h2
  obtain ⟨a0, e0, rfl, w0⟩ := DataW.trod_int Try.underlying3 h0
  obtain ⟨a1, e1, rfl, w1⟩ := DataW.trod_int Try.underlying3 h1
  obtain ⟨a2, e2, rfl, w2⟩ := DataW.trod_int Try.underlying3 h2
  simp at e0 e1 e2
  subst e0 e1 e2
  exact ⟨(a0, a1, a2), rfl, trivial⟩

set_option maxRecDepth 100000 in
theorem cellsRec : Try.prog.cellsOf 27 = 4 := by kernel_rfl

set_option maxRecDepth 100000 in
theorem open_rec {H : Type} {enc : TypeId × Value → H} {W : World} {r : Reach} {b0 : Nat} {v : Value} {d : DataW H} {p : List MemPlace} (hv : Value.okWide Try.prog W r b0 27 v)
    (h : DataW.Trod enc Try.prog W 0 (fun _ => true) true 27 v d p) (hw : Light 27 d) :
    ∃ (q : Rc) (ao : Option Addr) (cap : Nat), v = .agg #[.int .i64 q.k, .int .i64 q.s, .int .i64 q.n, .slice ao q.e.length cap] ∧ SlW ec W ao cap q.e := by
  obtain ⟨c0, c1, c2, c3, y0, y1, y2, y3, m, rfl, rfl, rfl, h0, h1, h2, h3⟩ := open_agg4 Try.underlying27 (by kernel_rfl) cellsRec hv h
  obtain ⟨a0, e0, rfl, w0⟩ := DataW.trod_int Try.underlying3 h0
  obtain ⟨a1, e1, rfl, w1⟩ := DataW.trod_int Try.underlying3 h1
  obtain ⟨a2, e2, rfl, w2⟩ := DataW.trod_int Try.underlying3 h2
  obtain ⟨ao, n, cap, e3⟩ := slice_form Try.underlying25 h3
  simp at e0 e1 e2 e3
  subst e0 e1 e2 e3
  have hw3 : Light 25 y3.1 := by
    intro n hn
    refine hw n ?_
    simp [DataW.weights, DataW.weightsEach, Try.underlying27, hn]
  obtain ⟨l, hl, s, _, _⟩ := open_wide (ao := ao) (n := n) (cap := cap) ec (fun _ => True) Try.underlying25 (by kernel_rfl) (by decide) ec_three (fun cs x m => open_nt cs x m) (by simpa [Value.cells] using h3) hw3
  subst hl
  exact ⟨⟨a0, a1, a2, l⟩, ao, cap, rfl, s⟩

end Go.Proofs.Ytabeihkfjlmepaa
