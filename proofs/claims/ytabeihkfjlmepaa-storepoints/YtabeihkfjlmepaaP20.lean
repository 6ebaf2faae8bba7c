/-
  Records as texts, as plain lists. No program is named.
-/
import Derived.Lib.ItoaNum
import Derived.Lib.ItoaLen
import Derived.Lib.AtoiAll
import Derived.Test.YtabeihkfjlmepaaP01
import Derived.Test.YtabeihkfjlmepaaP19
import Derived.Test.YtabeihkfjlmepaaP05
import Derived.Test.YtabeihkfjlmepaaP02
import Derived.Test.YtabeihkfjlmepaaP04
namespace Go.Proofs.Ytabeihkfjlmepaa

/-- An entry: series, time, value. -/
abbrev Nt := Int × Int × Int

/-- A record. -/
structure Rc where
  k : Int
  s : Int
  n : Int
  e : List Nt

def ntOk (x : Nt) : Bool := decide (0 ≤ x.1 ∧ x.1 < 4 ∧ 0 ≤ x.2.1 ∧ x.2.1 ≤ 100000 ∧ -1000000 ≤ x.2.2 ∧ x.2.2 ≤ 1000000)

def recE (r : Rc) : Int :=
  if r.k = 1 then (if r.s ≠ 0 ∨ r.n ≠ 0 then 4 else if 10 < r.e.length then 2 else if r.e.all ntOk then 0 else 3)
  else if r.k = 2 ∨ r.k = 3 ∨ r.k = 4 then (if r.e ≠ [] ∨ (r.k = 4 ∧ r.s ≠ 0) then 4 else if 0 ≤ r.s ∧ r.s < 4 ∧ 0 ≤ r.n ∧ r.n ≤ 100001 then 0 else 3)
  else 4

def wBatch : List UInt8 := [98, 97, 116, 99, 104]
def wSeal : List UInt8 := [115, 101, 97, 108]
def wMerge : List UInt8 := [109, 101, 114, 103, 101]
def wDrop : List UInt8 := [100, 114, 111, 112]

/-- Numbers, a blank ahead of each. -/
def numsT (l : List Int) : List UInt8 := l.flatMap (fun n => 32 :: Lib.itoa n)

def ntNums (l : List Nt) : List Int := l.flatMap (fun x => [x.1, x.2.1, x.2.2])

def recT (r : Rc) : List UInt8 :=
  if recE r = 0 then (if r.k = 1 then wBatch ++ numsT (ntNums r.e) else if r.k = 2 then wSeal ++ numsT [r.s, r.n] else if r.k = 3 then wMerge ++ numsT [r.s, r.n] else wDrop ++ numsT [r.n]) else []

theorem numsT_snoc (l : List Int) (n : Int) : numsT (l ++ [n]) = numsT l ++ 32 :: Lib.itoa n := by
  unfold numsT
  rw [List.flatMap_append]
  simp

theorem itoa_le (n : Int) (h0 : -9223372036854775808 ≤ n) (h1 : n ≤ 9223372036854775807) : (Lib.itoa n).length ≤ 21 := Lib.itoa_length_le n h0 h1

theorem numsT_le : ∀ (l : List Int), (∀ n ∈ l, -9223372036854775808 ≤ n ∧ n ≤ 9223372036854775807) → (numsT l).length ≤ l.length * 22
  | [], _ => Nat.le_refl _
  | n :: r, h => by
    have h1 := itoa_le n (h n List.mem_cons_self).1 (h n List.mem_cons_self).2
    have ih := numsT_le r (fun m hm => h m (List.mem_cons_of_mem _ hm))
    unfold numsT at ih ⊢
    rw [List.flatMap_cons, List.length_append, List.length_cons, List.length_cons, Nat.succ_mul]
    omega

end Go.Proofs.Ytabeihkfjlmepaa

/-
  What a record makes of a shelf, and what records make of a new one, as plain lists. No program is named.
-/
namespace Go.Proofs.Ytabeihkfjlmepaa
open Go.RowKit

def enOf (x : Nt) : En := ⟨x.1, x.2.1, x.2.2⟩

def enL (l : List Nt) : List En := l.map enOf

/-- A right record's work on a right shelf. -/
def workE (C : List Rw) (r : Rc) : Int := if r.k = 1 then bputE C (enL r.e) else if r.k = 2 then sealE C r.s r.n else if r.k = 3 then mrgE C r.s r.n else dropE r.n
def workL (C : List Rw) (r : Rc) : List Rw := if r.k = 1 then bputL C (enL r.e) else if r.k = 2 then sealL C r.s r.n else if r.k = 3 then mrgL C r.s r.n else dropL C r.n

def nextE (C : List Rw) (r : Rc) : Int := if shelfE C ≠ 0 then shelfE C else if recE r ≠ 0 then recE r else workE C r
def nextL (C : List Rw) (r : Rc) : List Rw := if shelfE C ≠ 0 then [] else if recE r ≠ 0 then [] else workL C r

theorem work_of (C : List Rw) (r : Rc) : (r.k = 1 → workE C r = bputE C (enL r.e) ∧ workL C r = bputL C (enL r.e)) ∧ (r.k = 2 → workE C r = sealE C r.s r.n ∧ workL C r = sealL C r.s r.n) ∧ (r.k = 3 → workE C r = mrgE C r.s r.n ∧ workL C r = mrgL C r.s r.n) ∧ (r.k = 4 → workE C r = dropE r.n ∧ workL C r = dropL C r.n) := by
  unfold workE workL
  refine ⟨fun h => ?_, fun h => ?_, fun h => ?_, fun h => ?_⟩ <;> simp [h]

theorem work_bad {C : List Rw} {r : Rc} (h : workE C r ≠ 0) : workL C r = [] := by
  unfold workE at h
  unfold workL
  split
  · rename_i h1
    rw [if_pos h1] at h
    exact if_neg h
  · rename_i h1
    rw [if_neg h1] at h
    split
    · rename_i h2
      rw [if_pos h2] at h
      exact if_neg h
    · rename_i h2
      rw [if_neg h2] at h
      split
      · rename_i h3
        rw [if_pos h3] at h
        exact if_neg h
      · rename_i h3
        rw [if_neg h3] at h
        exact if_neg h

theorem next_bad {C : List Rw} {r : Rc} (h : nextE C r ≠ 0) : nextL C r = [] := by
  unfold nextE at h
  unfold nextL
  split
  · rfl
  · rename_i h1
    rw [if_neg h1] at h
    split
    · rfl
    · rename_i h2
      rw [if_neg h2] at h
      exact work_bad h

theorem next_zero {C : List Rw} {r : Rc} (h : nextE C r = 0) : shelfE C = 0 ∧ recE r = 0 ∧ workE C r = 0 ∧ nextL C r = workL C r := by
  have h' := h
  unfold nextE at h
  unfold nextL
  split at h
  · contradiction
  · rename_i h1
    split at h
    · contradiction
    · rename_i h2
      rw [if_neg h1, if_neg h2]
      exact ⟨Decidable.not_not.1 h1, Decidable.not_not.1 h2, h, rfl⟩

/-- A right shelf stays so. -/
theorem work_right {C : List Rw} {r : Rc} (h : shelfE C = 0) (hw : workE C r = 0) : shelfE (workL C r) = 0 := by
  unfold workE at hw
  unfold workL
  split
  · rename_i h1
    rw [if_pos h1] at hw
    obtain ⟨_, h2, h3⟩ := bput_zero hw
    rw [h3]
    exact puts_shelf _ _ h h2
  · rename_i h1
    rw [if_neg h1] at hw
    split
    · rename_i h2
      rw [if_pos h2] at hw
      exact (seal_zero h hw).1
    · rename_i h2
      rw [if_neg h2] at hw
      split
      · rename_i h3
        rw [if_pos h3] at hw
        exact (mrg_zero h hw).1
      · rename_i h3
        rw [if_neg h3] at hw
        unfold dropL
        rw [if_pos hw]
        exact (drop_zero h).1

theorem next_right {C : List Rw} {r : Rc} (h : nextE C r = 0) : shelfE (nextL C r) = 0 := by
  obtain ⟨h1, _, h3, h4⟩ := next_zero h
  rw [h4]
  exact work_right h1 h3

theorem right_len {C : List Rw} (h : shelfE C = 0) : C.length = 4 := (shelfE_zero h).1

theorem next_len {C : List Rw} {r : Rc} : (nextL C r).length ≤ 4 := by
  by_cases h : nextE C r = 0
  · exact Nat.le_of_eq (right_len (next_right h))
  · rw [next_bad h]
    exact Nat.zero_le _

/-- Records one after the other. -/
def workAll : List Rw → List Rc → List Rw × Int
  | C, [] => (C, 0)
  | C, r :: l => if nextE C r = 0 then workAll (nextL C r) l else ([], nextE C r)

def newS : List Rw := [rw0, rw0, rw0, rw0]

def replE (l : List Rc) : Int := if 60 < l.length then 2 else (workAll newS l).2
def replL (l : List Rc) : List Rw := if 60 < l.length then [] else (workAll newS l).1

theorem fresh_right : shelfE newS = 0 := by decide

theorem workAll_cons (C : List Rw) (r : Rc) (l : List Rc) : workAll C (r :: l) = if nextE C r = 0 then workAll (nextL C r) l else ([], nextE C r) := rfl

theorem workAll_append : ∀ (a b : List Rc) (C : List Rw), workAll C (a ++ b) = if (workAll C a).2 = 0 then workAll (workAll C a).1 b else ([], (workAll C a).2)
  | [], b, C => by simp [workAll]
  | r :: a, b, C => by
    rw [List.cons_append, workAll_cons, workAll_cons]
    split
    · exact workAll_append a b _
    · rfl

theorem workAll_bad : ∀ (l : List Rc) (C : List Rw), (workAll C l).2 ≠ 0 → (workAll C l).1 = []
  | [], C, h => absurd rfl h
  | r :: l, C, h => by
    unfold workAll at h ⊢
    split
    · rename_i h1
      rw [if_pos h1] at h
      exact workAll_bad l _ h
    · rfl

theorem workAll_right : ∀ (l : List Rc) (C : List Rw), shelfE C = 0 → (workAll C l).2 = 0 → shelfE (workAll C l).1 = 0
  | [], C, h, _ => h
  | r :: l, C, h, h' => by
    unfold workAll at h' ⊢
    split at h'
    · rename_i h1
      rw [if_pos h1]
      exact workAll_right l _ (next_right h1) h'
    · rename_i h1
      exact absurd h' h1

theorem repl_len {l : List Rc} : (replL l).length ≤ 4 := by
  unfold replL
  split
  · exact Nat.zero_le _
  · by_cases h : (workAll newS l).2 = 0
    · exact Nat.le_of_eq (right_len (workAll_right l _ fresh_right h))
    · rw [workAll_bad _ _ h]
      exact Nat.zero_le _

/-- One record more. -/
theorem workAll_snoc (l : List Rc) (r : Rc) (C : List Rw) (h : (workAll C l).2 = 0) : workAll C (l ++ [r]) = if nextE (workAll C l).1 r = 0 then (nextL (workAll C l).1 r, 0) else ([], nextE (workAll C l).1 r) := by
  rw [workAll_append, if_pos h]
  rfl

/-- What comes behind an error changes nothing. -/
theorem workAll_stop (a b : List Rc) (r : Rc) (C : List Rw) (h : (workAll C a).2 = 0) (h' : nextE (workAll C a).1 r ≠ 0) : workAll C (a ++ r :: b) = ([], nextE (workAll C a).1 r) := by
  rw [workAll_append, if_pos h, workAll_cons, if_neg h']

end Go.Proofs.Ytabeihkfjlmepaa

/-
  note.Check: what is wrong with a record; note.numbersOf: the numbers of entries.
-/
namespace Go.Proofs.Ytabeihkfjlmepaa
open Go.RowKit

def ec (x : Nt) : List Value := [.int .i64 x.1, .int .i64 x.2.1, .int .i64 x.2.2]
theorem ec_three (x : Nt) : (ec x).length = 3 := rfl

theorem nIsSeries_any (n : Int) (w : World) :
    Calls Try.prog 57 #[.int .i64 n] w fun e w' => e = .returned (.bool (decide (0 ≤ n ∧ n < 4))) ∧ w' = w := by
  by_cases h0 : 0 ≤ n
  · by_cases h1 : n < 4
    · rw [decide_eq_true (⟨h0, h1⟩ : 0 ≤ n ∧ n < 4)]
      go_enter Try.func57, Try.ntmps57
      go_wp2
      go_ret
      exact ⟨rfl, rfl⟩
    · rw [decide_eq_false (by omega : ¬ (0 ≤ n ∧ n < 4))]
      go_enter Try.func57, Try.ntmps57
      go_wp2
      go_ret
      exact ⟨rfl, rfl⟩
  · rw [decide_eq_false (by omega : ¬ (0 ≤ n ∧ n < 4))]
    go_enter Try.func57, Try.ntmps57
    go_wp2
    go_ret
    exact ⟨rfl, rfl⟩

theorem check_one (t v : Int) : checkE [(t, v)] = if 0 ≤ t ∧ t ≤ 100000 ∧ -1000000 ≤ v ∧ v ≤ 1000000 then 0 else 3 := by
  unfold checkE chk chk ptOk
  by_cases h : 0 ≤ t ∧ t ≤ 100000 ∧ -1000000 ≤ v ∧ v ≤ 1000000
  · rw [if_pos h, if_neg (by simp), if_neg (by simp; omega), if_neg (by simp; omega)]
  · rw [if_neg h, if_neg (by simp), if_pos (by simp; omega)]

theorem one_pt (w : World) (t v : Int) (T : TypeId) : SlP (w.alloc (.cells #[.int .i64 t, .int .i64 v] T)) (some ⟨w.heap.size, 0, none⟩) 1 [(t, v)] := by
  have B := Blk.laid w [.int .i64 t, .int .i64 v] T _ rfl
  refine ⟨.inr ⟨_, _, rfl, B.lt, fun j u hu => ?_⟩, by simp, by decide, fun h => by cases h⟩
  match j, hu with
  | 0, hu => simp [cellsP] at hu; subst hu; exact B.cell 0
  | 1, hu => simp [cellsP] at hu; subst hu; exact B.cell 1
  | j + 2, hu => simp [cellsP] at hu

theorem newB {w W : World} (h : Below w.heap.size w W) (o : Obj) : Below w.heap.size w (W.alloc o) := h.alloc h.size o

theorem check_pt (t v : Int) (w : World) (T : TypeId) :
    Calls Try.prog 58 #[.slice (some ⟨w.heap.size, 0, none⟩) 1 1] (w.alloc (.cells #[.int .i64 t, .int .i64 v] T)) fun e w' => e = .returned (.int .i64 (checkE [(t, v)])) ∧ Below w.heap.size w w' := by
  refine (check_any (some ⟨w.heap.size, 0, none⟩) 1 [(t, v)] _ (one_pt w t v T)).mono ?_
  rintro e w' ⟨rfl, b⟩
  exact ⟨rfl, belowCall (newB (Below.refl _ _) _) b⟩

set_option maxHeartbeats 1000000 in
set_option maxRecDepth 100000 in
theorem batchLoop (l : List Nt) (a : Option Addr) (cap n : Nat) (w : World) (S : SlW ec w a cap l) (hn : n = l.length) (few : n ≤ 10) :
    Calls Try.prog 33 #[.agg #[.int .i64 1, .int .i64 0, .int .i64 0, .slice a n cap]] w fun e w' => e = .returned (.int .i64 (if l.all ntOk then 0 else 3)) ∧ Below w.heap.size w w' := by
  obtain ⟨E, hE⟩ : ∃ E : Int, E = if l.all ntOk then 0 else 3 := ⟨_, rfl⟩
  rw [← hE]
  replace hE := hide hE
  replace hn := hide hn
  have bel : Below w.heap.size w (w.alloc (.cells #[.int .i64 1, .int .i64 0, .int .i64 0, .slice a n cap] 27)) := (Below.refl _ _).alloc (Nat.le_refl _) _
  have B0 := Blk.laid w [.int .i64 1, .int .i64 0, .int .i64 0, .slice a n cap] 27 _ rfl
  have few' : ¬ (10 : Int) < n := by omega
  go_enter Try.func33, Try.ntmps33
  go_wp2_with fail
  generalize w.alloc _ = w1 at *
  go_loopw [21] (fun i wr => ∃ (k : Nat), k ≤ n ∧ i = .int .i64 k ∧ Hid ((l.take k).all ntOk = true) ∧ Below w.heap.size w wr) (fun i _ => n - (intOf i).toNat)
  case atStart => exact ⟨0, Nat.zero_le _, rfl, hide (by simp), bel⟩
  case round =>
    clear bel
    obtain ⟨k, hk, rfl, hA, bel⟩ := hrel
    by_cases hlt : k < n
    · have hkl : k < l.length := by rw [← hn.out]; exact hlt
      obtain ⟨b1, o1, rfl, hb1l⟩ := S.where ec_three (by decide) (by intro h; subst h; simp at hkl)
      obtain ⟨x, hx⟩ : ∃ x, l[k]? = some x := ⟨_, List.getElem?_eq_getElem hkl⟩
      have s1 := S.keep bel (Nat.le_refl _)
      have d0 := s1.cell ec_three k 0 x _ hx rfl
      have d1 := s1.cell ec_three k 1 x _ hx rfl
      have d2 := s1.cell ec_three k 2 x _ hx rfl
      simp only [Nat.add_zero] at d0
      have hno : ntOk x = false → E = 3 := by
        intro h
        rw [hE.out, if_neg]
        intro hall
        have := List.all_eq_true.1 hall x (List.mem_of_getElem? hx)
        rw [h] at this
        cases this
      have hyes : ntOk x = true → Hid ((l.take (k + 1)).all ntOk = true) := by
        intro h
        rw [List.take_add_one, hx, List.all_append, hA.out]
        simpa [Hid] using h
      obtain ⟨xs, xt, xv⟩ := x
      simp only at *
      replace hx := hide hx
      clear s1 hkl
      by_cases hs : 0 ≤ xs ∧ xs < 4
      · have c1 := fun W => nIsSeries_any xs W
        rw [decide_eq_true hs] at c1
        have c2 := fun W => check_pt xt xv W 43
        by_cases hp : 0 ≤ xt ∧ xt ≤ 100000 ∧ -1000000 ≤ xv ∧ xv ≤ 1000000
        · have hok : ntOk (xs, xt, xv) = true := decide_eq_true ⟨hs.1, hs.2, hp⟩
          simp only [check_one, if_pos hp] at c2
          go_wp2_with fail
          go_at_call 57
          refine (c1 _).mono ?_
          rintro e w2 ⟨rfl, rfl⟩
          have BX := Blk.laid wr [.int .i64 xs, .int .i64 xt, .int .i64 xv] 41 _ rfl
          have bX := newB bel (.cells #[.int .i64 xs, .int .i64 xt, .int .i64 xv] 41)
          generalize wr.alloc _ = w2 at *
          have z1 : w2.cell? ⟨wr.heap.size, 1, none⟩ = some (.int .i64 xt) := BX.cell 1
          have z2 : w2.cell? ⟨wr.heap.size, 2, none⟩ = some (.int .i64 xv) := BX.cell 2
          have lX := BX.lt
          clear c1
          go_wp2_with fail
          go_at_call 58
          refine (c2 _).mono ?_
          rintro e w3 ⟨rfl, b3⟩
          have bel3 := belowCall bX b3
          go_wp2_with fail
          go_roundw
          case rel => exact ⟨k + 1, by omega, by go_num, hyes hok, bel3⟩
          case measure => simp [intOf]; omega
        · have hok : ntOk (xs, xt, xv) = false := decide_eq_false (by rintro ⟨_, _, h⟩; exact hp h)
          simp only [check_one, if_neg hp] at c2
          obtain rfl := hno hok
          go_wp2_with fail
          go_at_call 57
          refine (c1 _).mono ?_
          rintro e w2 ⟨rfl, rfl⟩
          have BX := Blk.laid wr [.int .i64 xs, .int .i64 xt, .int .i64 xv] 41 _ rfl
          have bX := newB bel (.cells #[.int .i64 xs, .int .i64 xt, .int .i64 xv] 41)
          generalize wr.alloc _ = w2 at *
          have z1 : w2.cell? ⟨wr.heap.size, 1, none⟩ = some (.int .i64 xt) := BX.cell 1
          have z2 : w2.cell? ⟨wr.heap.size, 2, none⟩ = some (.int .i64 xv) := BX.cell 2
          have lX := BX.lt
          clear c1
          go_wp2_with fail
          go_at_call 58
          refine (c2 _).mono ?_
          rintro e w3 ⟨rfl, b3⟩
          have bel3 := belowCall bX b3
          go_wp2_with fail
          go_ret
          exact ⟨rfl, bel3⟩
      · have c1 := fun W => nIsSeries_any xs W
        rw [decide_eq_false hs] at c1
        have hok : ntOk (xs, xt, xv) = false := decide_eq_false (by rintro ⟨h1, h2, _⟩; exact hs ⟨h1, h2⟩)
        obtain rfl := hno hok
        go_wp2_with fail
        go_at_call 57
        refine (c1 _).mono ?_
        rintro e w2 ⟨rfl, rfl⟩
        go_wp2_with fail
        go_ret
        exact ⟨rfl, newB bel _⟩
    · obtain rfl : n = k := by omega
      have e0 : E = 0 := by
        rw [hE.out, if_pos]
        have := hA.out
        rw [List.take_of_length_le (by rw [← hn.out]; exact Nat.le_refl _)] at this
        exact this
      subst e0
      go_wp2_with fail
      go_ret
      exact ⟨rfl, bel⟩

end Go.Proofs.Ytabeihkfjlmepaa

/-
  note.Check, whatever the record.
-/
namespace Go.Proofs.Ytabeihkfjlmepaa
open Go.RowKit

set_option maxHeartbeats 1000000 in
set_option maxRecDepth 100000 in
theorem checkBatch_any (s m : Int) (l : List Nt) (a : Option Addr) (cap n : Nat) (w : World) (S : SlW ec w a cap l) (hn : n = l.length) :
    Calls Try.prog 33 #[.agg #[.int .i64 1, .int .i64 s, .int .i64 m, .slice a n cap]] w fun e w' => e = .returned (.int .i64 (if s ≠ 0 ∨ m ≠ 0 then 4 else if 10 < l.length then 2 else if l.all ntOk then 0 else 3)) ∧ Below w.heap.size w w' := by
  by_cases hs : s = 0
  · subst hs
    by_cases hm : m = 0
    · subst hm
      rw [if_neg (by simp)]
      by_cases h10 : 10 < n
      · rw [if_pos (by rw [← hn]; exact h10)]
        have h10' : (10 : Int) < n := by omega
        replace hn := hide hn
        go_enter Try.func33, Try.ntmps33
        go_wp2_with fail
        go_ret
        exact ⟨rfl, (Below.refl _ _).alloc (Nat.le_refl _) _⟩
      · rw [if_neg (by rw [← hn]; exact h10)]
        exact batchLoop l a cap n w S hn (by omega)
    · rw [if_pos (.inr hm)]
      replace hn := hide hn
      have hm' : decide (m = 0) = false := decide_eq_false hm
      go_enter Try.func33, Try.ntmps33
      go_wp2_with fail
      go_ret
      exact ⟨rfl, (Below.refl _ _).alloc (Nat.le_refl _) _⟩
  · rw [if_pos (.inl hs)]
    replace hn := hide hn
    have hs' : decide (s = 0) = false := decide_eq_false hs
    go_enter Try.func33, Try.ntmps33
    go_wp2_with fail
    go_ret
    exact ⟨rfl, (Below.refl _ _).alloc (Nat.le_refl _) _⟩

def plainE (k s m : Int) (l : List Nt) : Int := if l ≠ [] ∨ (k = 4 ∧ s ≠ 0) then 4 else if 0 ≤ s ∧ s < 4 ∧ 0 ≤ m ∧ m ≤ 100001 then 0 else 3

set_option maxHeartbeats 1000000 in
set_option maxRecDepth 100000 in
theorem plain_rest (k s m : Int) (a : Option Addr) (cap : Nat) (w : World) (hk : k ≠ 4 ∨ s = 0) :
    Calls Try.prog 34 #[.agg #[.int .i64 k, .int .i64 s, .int .i64 m, .slice a 0 cap]] w fun e w' => e = .returned (.int .i64 (if 0 ≤ s ∧ s < 4 ∧ 0 ≤ m ∧ m ≤ 100001 then 0 else 3)) ∧ Below w.heap.size w w' := by
  obtain ⟨E, hE⟩ : ∃ E : Int, E = if 0 ≤ s ∧ s < 4 ∧ 0 ≤ m ∧ m ≤ 100001 then 0 else 3 := ⟨_, rfl⟩
  rw [← hE]
  have c1 := fun W => nIsSeries_any s W
  by_cases h4 : k = 4
  · obtain rfl : s = 0 := hk.resolve_left (fun h => h h4)
    subst h4
    rw [decide_eq_true (by omega : (0 : Int) ≤ 0 ∧ (0 : Int) < 4)] at c1
    clear hk
    by_cases m0 : m < 0
    · obtain rfl : E = 3 := by rw [hE, if_neg (by omega)]
      clear hE
      have d0 : decide (m < 0) = true := decide_eq_true m0
      go_enter Try.func34, Try.ntmps34
      go_wp2_with fail
      go_at_call 57
      refine (c1 _).mono ?_
      rintro e w2 ⟨rfl, rfl⟩
      go_wp2_with fail
      go_ret
      exact ⟨rfl, (Below.refl _ _).alloc (Nat.le_refl _) _⟩
    · have d0 : decide (m < 0) = false := decide_eq_false m0
      by_cases m1 : 100001 < m
      · obtain rfl : E = 3 := by rw [hE, if_neg (by omega)]
        clear hE
        have d1 : decide ((100001 : Int) < m) = true := decide_eq_true m1
        go_enter Try.func34, Try.ntmps34
        go_wp2_with fail
        go_at_call 57
        refine (c1 _).mono ?_
        rintro e w2 ⟨rfl, rfl⟩
        go_wp2_with fail
        go_ret
        exact ⟨rfl, (Below.refl _ _).alloc (Nat.le_refl _) _⟩
      · obtain rfl : E = 0 := by rw [hE, if_pos (by omega)]
        clear hE
        have d1 : decide ((100001 : Int) < m) = false := decide_eq_false m1
        go_enter Try.func34, Try.ntmps34
        go_wp2_with fail
        go_at_call 57
        refine (c1 _).mono ?_
        rintro e w2 ⟨rfl, rfl⟩
        go_wp2_with fail
        go_ret
        exact ⟨rfl, (Below.refl _ _).alloc (Nat.le_refl _) _⟩
  · have d4 : decide (k = 4) = false := decide_eq_false h4
    clear hk
    by_cases hs : 0 ≤ s ∧ s < 4
    · rw [decide_eq_true hs] at c1
      by_cases m0 : m < 0
      · obtain rfl : E = 3 := by rw [hE, if_neg (by omega)]
        clear hE
        have d0 : decide (m < 0) = true := decide_eq_true m0
        go_enter Try.func34, Try.ntmps34
        go_wp2_with fail
        go_at_call 57
        refine (c1 _).mono ?_
        rintro e w2 ⟨rfl, rfl⟩
        go_wp2_with fail
        go_ret
        exact ⟨rfl, (Below.refl _ _).alloc (Nat.le_refl _) _⟩
      · have d0 : decide (m < 0) = false := decide_eq_false m0
        by_cases m1 : 100001 < m
        · obtain rfl : E = 3 := by rw [hE, if_neg (by omega)]
          clear hE
          have d1 : decide ((100001 : Int) < m) = true := decide_eq_true m1
          go_enter Try.func34, Try.ntmps34
          go_wp2_with fail
          go_at_call 57
          refine (c1 _).mono ?_
          rintro e w2 ⟨rfl, rfl⟩
          go_wp2_with fail
          go_ret
          exact ⟨rfl, (Below.refl _ _).alloc (Nat.le_refl _) _⟩
        · obtain rfl : E = 0 := by rw [hE, if_pos (by omega)]
          clear hE
          have d1 : decide ((100001 : Int) < m) = false := decide_eq_false m1
          go_enter Try.func34, Try.ntmps34
          go_wp2_with fail
          go_at_call 57
          refine (c1 _).mono ?_
          rintro e w2 ⟨rfl, rfl⟩
          go_wp2_with fail
          go_ret
          exact ⟨rfl, (Below.refl _ _).alloc (Nat.le_refl _) _⟩
    · rw [decide_eq_false hs] at c1
      obtain rfl : E = 3 := by rw [hE, if_neg (by omega)]
      clear hE
      go_enter Try.func34, Try.ntmps34
      go_wp2_with fail
      go_at_call 57
      refine (c1 _).mono ?_
      rintro e w2 ⟨rfl, rfl⟩
      go_wp2_with fail
      go_ret
      exact ⟨rfl, (Below.refl _ _).alloc (Nat.le_refl _) _⟩

set_option maxHeartbeats 1000000 in
set_option maxRecDepth 100000 in
theorem checkPlain_any (k s m : Int) (l : List Nt) (a : Option Addr) (cap n : Nat) (w : World) (hn : n = l.length) :
    Calls Try.prog 34 #[.agg #[.int .i64 k, .int .i64 s, .int .i64 m, .slice a n cap]] w fun e w' => e = .returned (.int .i64 (plainE k s m l)) ∧ Below w.heap.size w w' := by
  unfold plainE
  by_cases h0 : n = 0
  · subst h0
    obtain rfl := List.length_eq_zero_iff.1 hn.symm
    by_cases hk : k = 4 ∧ s ≠ 0
    · rw [if_pos (.inr hk)]
      obtain ⟨rfl, hs⟩ := hk
      have d1 : decide (s = 0) = false := decide_eq_false hs
      clear hn
      go_enter Try.func34, Try.ntmps34
      go_wp2_with fail
      go_ret
      exact ⟨rfl, (Below.refl _ _).alloc (Nat.le_refl _) _⟩
    · rw [if_neg (by rintro (h | h); exact h rfl; exact hk h)]
      exact plain_rest k s m a cap w (by by_cases h4 : k = 4; exact .inr (Decidable.of_not_not (fun h => hk ⟨h4, h⟩)); exact .inl h4)
  · rw [if_pos (.inl (by intro h; subst h; exact h0 hn))]
    have hp : (0 : Int) < n := by omega
    have hd : decide (0 < n) = true := decide_eq_true (by omega)
    replace hn := hide hn
    go_enter Try.func34, Try.ntmps34
    go_wp2_with fail
    go_ret
    exact ⟨rfl, (Below.refl _ _).alloc (Nat.le_refl _) _⟩

set_option maxHeartbeats 1000000 in
set_option maxRecDepth 100000 in
theorem check_is (r : Rc) (a : Option Addr) (cap n : Nat) (w : World) (S : SlW ec w a cap r.e) (hn : n = r.e.length) :
    Calls Try.prog 15 #[.agg #[.int .i64 r.k, .int .i64 r.s, .int .i64 r.n, .slice a n cap]] w fun e w' => e = .returned (.int .i64 (recE r)) ∧ Below w.heap.size w w' := by
  obtain ⟨k, s, m, l⟩ := r
  simp only at *
  have cp := fun W => checkPlain_any k s m l a cap n W hn
  have S1 := S.alloc (.cells #[.int .i64 k, .int .i64 s, .int .i64 m, .slice a n cap] 27)
  have bel : Below w.heap.size w (w.alloc (.cells #[.int .i64 k, .int .i64 s, .int .i64 m, .slice a n cap] 27)) := (Below.refl _ _).alloc (Nat.le_refl _) _
  by_cases h1 : k = 1
  · subst h1
    have c := fun W h => checkBatch_any s m l a cap n W h hn
    rw [show recE ⟨1, s, m, l⟩ = if s ≠ 0 ∨ m ≠ 0 then 4 else if 10 < l.length then 2 else if l.all ntOk then 0 else 3 from rfl]
    generalize (if s ≠ 0 ∨ m ≠ 0 then (4 : Int) else if 10 < l.length then 2 else if l.all ntOk then 0 else 3) = E at *
    replace hn := hide hn
    go_enter Try.func15, Try.ntmps15
    go_wp2_with fail
    go_at_call 33
    refine (c _ S1).mono ?_
    rintro e w2 ⟨rfl, b2⟩
    go_wp2_with fail
    go_ret
    exact ⟨rfl, belowCall bel b2⟩
  · have d1 : decide (k = 1) = false := decide_eq_false h1
    by_cases h2 : k = 2 ∨ k = 3 ∨ k = 4
    · rw [show recE ⟨k, s, m, l⟩ = plainE k s m l by unfold recE plainE; rw [if_neg h1, if_pos h2]]
      generalize plainE k s m l = E at *
      replace hn := hide hn
      rcases h2 with rfl | rfl | rfl
      · go_enter Try.func15, Try.ntmps15
        go_wp2_with fail
        go_at_call 34
        refine (cp _).mono ?_
        rintro e w2 ⟨rfl, b2⟩
        go_wp2_with fail
        go_ret
        exact ⟨rfl, belowCall bel b2⟩
      · go_enter Try.func15, Try.ntmps15
        go_wp2_with fail
        go_at_call 34
        refine (cp _).mono ?_
        rintro e w2 ⟨rfl, b2⟩
        go_wp2_with fail
        go_ret
        exact ⟨rfl, belowCall bel b2⟩
      · go_enter Try.func15, Try.ntmps15
        go_wp2_with fail
        go_at_call 34
        refine (cp _).mono ?_
        rintro e w2 ⟨rfl, b2⟩
        go_wp2_with fail
        go_ret
        exact ⟨rfl, belowCall bel b2⟩
    · rw [show recE ⟨k, s, m, l⟩ = 4 by unfold recE; rw [if_neg h1, if_neg h2]]
      have d2 : ¬ k = 2 := fun h => h2 (.inl h)
      have d3 : ¬ k = 3 := fun h => h2 (.inr (.inl h))
      have d4 : ¬ k = 4 := fun h => h2 (.inr (.inr h))
      replace hn := hide hn
      clear h2 d1
      go_enter Try.func15, Try.ntmps15
      go_wp2_with fail
      go_ret
      exact ⟨rfl, bel⟩

end Go.Proofs.Ytabeihkfjlmepaa

/-
  store.Next: what a record makes of a shelf.
-/
namespace Go.Proofs.Ytabeihkfjlmepaa
open Go.RowKit

theorem slEn {W : World} {a : Option Addr} {c : Nat} {l : List Nt} (h : SlW ec W a c l) : SlW En.cells W a c (enL l) := by
  have e : (enL l).flatMap En.cells = l.flatMap ec := by
    unfold enL
    rw [List.flatMap_map]
    rfl
  exact ⟨by rw [e]; exact h.row, by unfold enL; rw [List.length_map]; exact h.le, h.max, h.nil⟩

theorem enL_len (l : List Nt) : (enL l).length = l.length := List.length_map _

/-- A shelf's box is written; what lies elsewhere stays. -/
theorem IsS.boxed {w : World} {a : Option Addr} {G g : Nat} {C : List Rw} {a1 : Option Addr} {n1 c1 : Nat} (h : IsS w a G C) (B : Blk w g [.slice a1 n1 c1] 24) (u : Value) : IsS (w.setCell ⟨g, 0, none⟩ u) a G C := by
  by_cases hC : C = []
  · subst hC
    obtain ⟨rs, e, s⟩ := h.ex
    obtain rfl := List.map_eq_nil_iff.1 e
    exact ⟨[], rfl, ⟨⟨.inl rfl, s.sl.le, s.sl.max, s.sl.nil⟩, fun r hr => (by cases hr)⟩⟩
  · exact h.wrote B hC

theorem IsS.none (w : World) : IsS w none 0 [] := ⟨[], rfl, ⟨⟨.inl rfl, Nat.le_refl _, by decide, fun _ => rfl⟩, fun r hr => (by cases hr)⟩⟩

/-- What a function answers that makes a shelf of dn rows. -/
def Mk (E : Int) (D : List Rw) (dn : Nat) (W : World) (e : Ending) (w' : World) : Prop :=
  ∃ a' G', e = .returned (.tuple #[.agg #[.slice a' dn G'], .int .i64 E]) ∧ IsS w' a' G' D ∧ Below W.heap.size W w'

theorem mk_of {E : Int} {D : List Rw} {dn : Nat} {W : World} {f : Nat} {args : Array Value} (hd : Hid (dn = D.length)) (c : Calls Try.prog f args W (Makes E D W)) : Calls Try.prog f args W (Mk E D dn W) := by
  obtain rfl := hd.out
  exact c

theorem ch_good {C : List Rw} (hz : shelfE C = 0) : (∀ x, chE C x = x) ∧ (∀ L, chL C (bputE C L) (bputL C L) = bputL C L) ∧ (∀ s n, chL C (sealE C s n) (sealL C s n) = sealL C s n) ∧ (∀ s n, chL C (mrgE C s n) (mrgL C s n) = mrgL C s n) ∧ (∀ n, chL C (dropE n) (dropL C n) = dropL C n) := by
  have e : ∀ x, chE C x = x := fun x => if_pos hz
  refine ⟨e, fun L => ?_, fun s n => ?_, fun s n => ?_, fun n => ?_⟩
  · unfold chL; rw [e]; unfold bputL; split <;> rfl
  · unfold chL; rw [e]; unfold sealL; split <;> rfl
  · unfold chL; rw [e]; unfold mrgL; split <;> rfl
  · unfold chL; rw [e]; unfold dropL; split <;> rfl

theorem few_rec {r : Rc} (h : recE r = 0) : r.e.length ≤ 10 := by
  unfold recE at h
  split at h
  · split at h
    · cases h
    · split at h
      · cases h
      · omega
  · split at h
    · split at h
      · cases h
      · rename_i h1
        have : r.e = [] := Decidable.byContradiction fun e => h1 (.inl e)
        rw [this]
        exact Nat.zero_le _
    · cases h

theorem kind_rec {r : Rc} (h : recE r = 0) : r.k = 1 ∨ r.k = 2 ∨ r.k = 3 ∨ r.k = 4 := by
  unfold recE at h
  split at h
  · exact .inl (by assumption)
  · split at h
    · rename_i h1
      exact .inr h1
    · cases h

set_option maxHeartbeats 2000000 in
set_option maxRecDepth 100000 in
theorem next_any (C : List Rw) (r : Rc) (a a3 : Option Addr) (G c3 n3 cn dn : Nat) (w : World) (h : IsS w a G C) (s3 : SlW ec w a3 c3 r.e) (h3 : Hid (n3 = r.e.length)) (hcn : Hid (cn = C.length)) (hdn : Hid (dn = (nextL C r).length)) :
    Calls Try.prog 5 #[.agg #[.slice a cn G], .agg #[.int .i64 r.k, .int .i64 r.s, .int .i64 r.n, .slice a3 n3 c3]] w (Mk (nextE C r) (nextL C r) dn w) := by
  have bel := newB (newB (newB (Below.refl w.heap.size w) (.cells #[.slice a cn G] 24)) (.cells #[.int .i64 r.k, .int .i64 r.s, .int .i64 r.n, .slice a3 n3 c3] 27)) (.cells #[.slice none 0 0] 24)
  have B1 := ((Blk.laid w [.slice a cn G] 24 _ rfl).alc (.cells #[.int .i64 r.k, .int .i64 r.s, .int .i64 r.n, .slice a3 n3 c3] 27)).alc (.cells #[.slice none 0 0] 24)
  have B2 := (Blk.laid (w.alloc (.cells #[.slice a cn G] 24)) [.int .i64 r.k, .int .i64 r.s, .int .i64 r.n, .slice a3 n3 c3] 27 (w.heap.size + 1) (by simp)).alc (.cells #[.slice none 0 0] 24)
  have B3 := Blk.laid ((w.alloc (.cells #[.slice a cn G] 24)).alloc (.cells #[.int .i64 r.k, .int .i64 r.s, .int .i64 r.n, .slice a3 n3 c3] 27)) [.slice none 0 0] 24 (w.heap.size + 1 + 1) (by simp)
  have S := h.keep bel (Nat.le_refl _)
  have S3 := s3.keep bel (Nat.le_refl _)
  have cC := fun W (h : IsS W a G C) => shCheck_is h
  have cN := fun W (s : SlW ec W a3 c3 r.e) => check_is r a3 c3 n3 W s h3.out
  rw [← hcn.out] at cC
  by_cases hz : shelfE C = 0
  · by_cases hr : recE r = 0
    · obtain ⟨g1, g2, g3, g4, g5⟩ := ch_good hz
      have hE : nextE C r = workE C r := by unfold nextE; rw [if_neg (by simp [hz]), if_neg (by simp [hr])]
      have hL : nextL C r = workL C r := by unfold nextL; rw [if_neg (by simp [hz]), if_neg (by simp [hr])]
      have few := few_rec hr
      have cP := fun W (h : IsS W a G C) (t : SlW ec W a3 c3 r.e) => put_is (enL r.e) a3 c3 h (slEn t) (by rw [enL_len]; omega)
      have cS := fun W (h : IsS W a G C) => seal_is r.s r.n h
      have cM := fun W (h : IsS W a G C) => merge_is r.s r.n h
      have cD := fun W (h : IsS W a G C) => drop_is r.n h
      simp only [g1, g2, g3, g4, g5, enL_len] at cP cS cM cD
      rw [← hcn.out] at cP cS cM cD
      rw [← h3.out] at cP
      rw [hz] at cC
      rw [hr] at cN
      obtain ⟨w1, w2, w3, w4⟩ := work_of C r
      have kd := kind_rec hr
      rw [← hE, ← hL] at w1 w2 w3 w4
      obtain ⟨K, s', m', l⟩ := r
      simp only at *
      generalize nextE C ⟨K, s', m', l⟩ = E at *
      generalize nextL C ⟨K, s', m', l⟩ = D at *
      clear hE hL g1 g2 g3 g4 g5 hr hz
      rcases kd with rfl | rfl | rfl | rfl
      · obtain ⟨w5, w6⟩ := w1 rfl
        rw [← w5, ← w6] at cP
        clear w1 w2 w3 w4 w5 w6 cS cM cD
        go_enter Try.func5, Try.ntmps5
        go_upto_region 1 with fail
        generalize World.alloc (World.alloc (World.alloc w _) _) _ = wa at *
        have b10 := B1.cell 0
        have b1l := B1.lt
        go_wp2_with fail
        go_at_call 14
        refine (cC _ S).mono ?_
        rintro e wb ⟨rfl, bb⟩
        clear b10 b1l
        replace B1 := B1.keep bb B1.lt
        replace B2 := B2.keep bb B2.lt
        replace B3 := B3.keep bb B3.lt
        replace S := S.call bb
        replace S3 := S3.call bb
        replace bel := belowCall bel bb
        clear bb
        have b20 := B2.cell 0
        have b21 := B2.cell 1
        have b22 := B2.cell 2
        have b23 := B2.cell 3
        have b2l := B2.lt
        go_wp2_with fail
        go_at_call 15
        refine (cN _ S3).mono ?_
        rintro e wc ⟨rfl, bb⟩
        clear b20 b21 b22 b23 b2l
        replace B1 := B1.keep bb B1.lt
        replace B2 := B2.keep bb B2.lt
        replace B3 := B3.keep bb B3.lt
        replace S := S.call bb
        replace S3 := S3.call bb
        replace bel := belowCall bel bb
        clear bb
        have b10 := B1.cell 0
        have b1l := B1.lt
        have b20 := B2.cell 0
        have b21 := B2.cell 1
        have b22 := B2.cell 2
        have b23 := B2.cell 3
        have b2l := B2.lt
        go_wp2_with fail
        go_at_call 16
        refine (mk_of hdn (cP _ S S3)).mono ?_
        rintro e wd ⟨a', G', rfl, I, bb⟩
        clear b10 b1l b20 b21 b22 b23 b2l
        replace B3 := B3.keep bb B3.lt
        replace bel := belowCall bel bb
        clear bb
        have b30 := B3.cell 0
        have b3l := B3.lt
        have f0 := B3.free 0
        go_wp2_with fail
        have B9 := B3.set 0 (.slice a' dn G')
        have bel9 := bel.setCell (p := ⟨w.heap.size + 1 + 1, 0, none⟩) (Nat.le_trans (Nat.le_succ _) (Nat.le_succ _)) (.slice a' dn G')
        have I9 := IsS.boxed (I) B3 (.slice a' dn G')
        have i0 := B9.cell 0
        exact bodyPost_ret (v := .tuple #[.agg #[.slice a' dn G'], .int .i64 E]) (by simp [results, Try.results5, go_sem, i0]) rfl ⟨_, _, rfl, I9, bel9⟩
      · obtain ⟨w5, w6⟩ := w2 rfl
        rw [← w5, ← w6] at cS
        clear w1 w2 w3 w4 w5 w6 cP cM cD
        go_enter Try.func5, Try.ntmps5
        go_upto_region 1 with fail
        generalize World.alloc (World.alloc (World.alloc w _) _) _ = wa at *
        have b10 := B1.cell 0
        have b1l := B1.lt
        go_wp2_with fail
        go_at_call 14
        refine (cC _ S).mono ?_
        rintro e wb ⟨rfl, bb⟩
        clear b10 b1l
        replace B1 := B1.keep bb B1.lt
        replace B2 := B2.keep bb B2.lt
        replace B3 := B3.keep bb B3.lt
        replace S := S.call bb
        replace S3 := S3.call bb
        replace bel := belowCall bel bb
        clear bb
        have b20 := B2.cell 0
        have b21 := B2.cell 1
        have b22 := B2.cell 2
        have b23 := B2.cell 3
        have b2l := B2.lt
        go_wp2_with fail
        go_at_call 15
        refine (cN _ S3).mono ?_
        rintro e wc ⟨rfl, bb⟩
        clear b20 b21 b22 b23 b2l
        replace B1 := B1.keep bb B1.lt
        replace B2 := B2.keep bb B2.lt
        replace B3 := B3.keep bb B3.lt
        replace S := S.call bb
        replace S3 := S3.call bb
        replace bel := belowCall bel bb
        clear bb
        have b10 := B1.cell 0
        have b1l := B1.lt
        have b20 := B2.cell 0
        have b21 := B2.cell 1
        have b22 := B2.cell 2
        have b23 := B2.cell 3
        have b2l := B2.lt
        go_wp2_with fail
        go_at_call 17
        refine (mk_of hdn (cS _ S)).mono ?_
        rintro e wd ⟨a', G', rfl, I, bb⟩
        clear b10 b1l b20 b21 b22 b23 b2l
        replace B3 := B3.keep bb B3.lt
        replace bel := belowCall bel bb
        clear bb
        have b30 := B3.cell 0
        have b3l := B3.lt
        have f0 := B3.free 0
        go_wp2_with fail
        have B9 := B3.set 0 (.slice a' dn G')
        have bel9 := bel.setCell (p := ⟨w.heap.size + 1 + 1, 0, none⟩) (Nat.le_trans (Nat.le_succ _) (Nat.le_succ _)) (.slice a' dn G')
        have I9 := IsS.boxed (I) B3 (.slice a' dn G')
        have i0 := B9.cell 0
        exact bodyPost_ret (v := .tuple #[.agg #[.slice a' dn G'], .int .i64 E]) (by simp [results, Try.results5, go_sem, i0]) rfl ⟨_, _, rfl, I9, bel9⟩
      · obtain ⟨w5, w6⟩ := w3 rfl
        rw [← w5, ← w6] at cM
        clear w1 w2 w3 w4 w5 w6 cP cS cD
        go_enter Try.func5, Try.ntmps5
        go_upto_region 1 with fail
        generalize World.alloc (World.alloc (World.alloc w _) _) _ = wa at *
        have b10 := B1.cell 0
        have b1l := B1.lt
        go_wp2_with fail
        go_at_call 14
        refine (cC _ S).mono ?_
        rintro e wb ⟨rfl, bb⟩
        clear b10 b1l
        replace B1 := B1.keep bb B1.lt
        replace B2 := B2.keep bb B2.lt
        replace B3 := B3.keep bb B3.lt
        replace S := S.call bb
        replace S3 := S3.call bb
        replace bel := belowCall bel bb
        clear bb
        have b20 := B2.cell 0
        have b21 := B2.cell 1
        have b22 := B2.cell 2
        have b23 := B2.cell 3
        have b2l := B2.lt
        go_wp2_with fail
        go_at_call 15
        refine (cN _ S3).mono ?_
        rintro e wc ⟨rfl, bb⟩
        clear b20 b21 b22 b23 b2l
        replace B1 := B1.keep bb B1.lt
        replace B2 := B2.keep bb B2.lt
        replace B3 := B3.keep bb B3.lt
        replace S := S.call bb
        replace S3 := S3.call bb
        replace bel := belowCall bel bb
        clear bb
        have b10 := B1.cell 0
        have b1l := B1.lt
        have b20 := B2.cell 0
        have b21 := B2.cell 1
        have b22 := B2.cell 2
        have b23 := B2.cell 3
        have b2l := B2.lt
        go_wp2_with fail
        go_at_call 18
        refine (mk_of hdn (cM _ S)).mono ?_
        rintro e wd ⟨a', G', rfl, I, bb⟩
        clear b10 b1l b20 b21 b22 b23 b2l
        replace B3 := B3.keep bb B3.lt
        replace bel := belowCall bel bb
        clear bb
        have b30 := B3.cell 0
        have b3l := B3.lt
        have f0 := B3.free 0
        go_wp2_with fail
        have B9 := B3.set 0 (.slice a' dn G')
        have bel9 := bel.setCell (p := ⟨w.heap.size + 1 + 1, 0, none⟩) (Nat.le_trans (Nat.le_succ _) (Nat.le_succ _)) (.slice a' dn G')
        have I9 := IsS.boxed (I) B3 (.slice a' dn G')
        have i0 := B9.cell 0
        exact bodyPost_ret (v := .tuple #[.agg #[.slice a' dn G'], .int .i64 E]) (by simp [results, Try.results5, go_sem, i0]) rfl ⟨_, _, rfl, I9, bel9⟩
      · obtain ⟨w5, w6⟩ := w4 rfl
        rw [← w5, ← w6] at cD
        clear w1 w2 w3 w4 w5 w6 cP cS cM
        go_enter Try.func5, Try.ntmps5
        go_upto_region 1 with fail
        generalize World.alloc (World.alloc (World.alloc w _) _) _ = wa at *
        have b10 := B1.cell 0
        have b1l := B1.lt
        go_wp2_with fail
        go_at_call 14
        refine (cC _ S).mono ?_
        rintro e wb ⟨rfl, bb⟩
        clear b10 b1l
        replace B1 := B1.keep bb B1.lt
        replace B2 := B2.keep bb B2.lt
        replace B3 := B3.keep bb B3.lt
        replace S := S.call bb
        replace S3 := S3.call bb
        replace bel := belowCall bel bb
        clear bb
        have b20 := B2.cell 0
        have b21 := B2.cell 1
        have b22 := B2.cell 2
        have b23 := B2.cell 3
        have b2l := B2.lt
        go_wp2_with fail
        go_at_call 15
        refine (cN _ S3).mono ?_
        rintro e wc ⟨rfl, bb⟩
        clear b20 b21 b22 b23 b2l
        replace B1 := B1.keep bb B1.lt
        replace B2 := B2.keep bb B2.lt
        replace B3 := B3.keep bb B3.lt
        replace S := S.call bb
        replace S3 := S3.call bb
        replace bel := belowCall bel bb
        clear bb
        have b10 := B1.cell 0
        have b1l := B1.lt
        have b20 := B2.cell 0
        have b21 := B2.cell 1
        have b22 := B2.cell 2
        have b23 := B2.cell 3
        have b2l := B2.lt
        go_wp2_with fail
        go_at_call 19
        refine (mk_of hdn (cD _ S)).mono ?_
        rintro e wd ⟨a', G', rfl, I, bb⟩
        clear b10 b1l b20 b21 b22 b23 b2l
        replace B3 := B3.keep bb B3.lt
        replace bel := belowCall bel bb
        clear bb
        have b30 := B3.cell 0
        have b3l := B3.lt
        have f0 := B3.free 0
        go_wp2_with fail
        have B9 := B3.set 0 (.slice a' dn G')
        have bel9 := bel.setCell (p := ⟨w.heap.size + 1 + 1, 0, none⟩) (Nat.le_trans (Nat.le_succ _) (Nat.le_succ _)) (.slice a' dn G')
        have I9 := IsS.boxed (I) B3 (.slice a' dn G')
        have i0 := B9.cell 0
        exact bodyPost_ret (v := .tuple #[.agg #[.slice a' dn G'], .int .i64 E]) (by simp [results, Try.results5, go_sem, i0]) rfl ⟨_, _, rfl, I9, bel9⟩
    · have hE : nextE C r = recE r := by unfold nextE; rw [if_neg (by simp [hz]), if_pos hr]
      have hD : nextL C r = [] := next_bad (by rw [hE]; exact hr)
      have hzd : decide (recE r = 0) = false := decide_eq_false hr
      rw [hz] at cC
      rw [hD] at hdn ⊢
      rw [hE]
      obtain rfl : dn = 0 := hdn.out
      generalize recE r = E at *
      obtain ⟨K, s', m', l⟩ := r
      simp only at *
      clear hE hD hdn hz
      go_enter Try.func5, Try.ntmps5
      go_upto_region 1 with fail
      generalize World.alloc (World.alloc (World.alloc w _) _) _ = wa at *
      have b10 := B1.cell 0
      have b1l := B1.lt
      go_wp2_with fail
      go_at_call 14
      refine (cC _ S).mono ?_
      rintro e wb ⟨rfl, bb⟩
      clear b10 b1l
      replace B1 := B1.keep bb B1.lt
      replace B2 := B2.keep bb B2.lt
      replace B3 := B3.keep bb B3.lt
      replace S := S.call bb
      replace S3 := S3.call bb
      replace bel := belowCall bel bb
      clear bb
      have b20 := B2.cell 0
      have b21 := B2.cell 1
      have b22 := B2.cell 2
      have b23 := B2.cell 3
      have b2l := B2.lt
      go_wp2_with fail
      go_at_call 15
      refine (cN _ S3).mono ?_
      rintro e wc ⟨rfl, bb⟩
      clear b20 b21 b22 b23 b2l
      replace B1 := B1.keep bb B1.lt
      replace B2 := B2.keep bb B2.lt
      replace B3 := B3.keep bb B3.lt
      replace S := S.call bb
      replace S3 := S3.call bb
      replace bel := belowCall bel bb
      clear bb
      have b30 := B3.cell 0
      have b3l := B3.lt
      have f0 := B3.free 0
      go_wp2_with fail
      have B9 := B3.set 0 (.slice none 0 0)
      have bel9 := bel.setCell (p := ⟨w.heap.size + 1 + 1, 0, none⟩) (Nat.le_trans (Nat.le_succ _) (Nat.le_succ _)) (.slice none 0 0)
      have I9 := IsS.boxed (IsS.none _) B3 (.slice none 0 0)
      have i0 := B9.cell 0
      exact bodyPost_ret (v := .tuple #[.agg #[.slice none 0 0], .int .i64 E]) (by simp [results, Try.results5, go_sem, i0]) rfl ⟨_, _, rfl, I9, bel9⟩
  · have hE : nextE C r = shelfE C := if_pos hz
    have hD : nextL C r = [] := if_pos hz
    have hzd : decide (shelfE C = 0) = false := decide_eq_false hz
    rw [hD] at hdn ⊢
    rw [hE]
    obtain rfl : dn = 0 := hdn.out
    generalize shelfE C = E at *
    obtain ⟨K, s', m', l⟩ := r
    simp only at *
    clear hE hD hdn
    go_enter Try.func5, Try.ntmps5
    go_upto_region 1 with fail
    generalize World.alloc (World.alloc (World.alloc w _) _) _ = wa at *
    have b10 := B1.cell 0
    have b1l := B1.lt
    go_wp2_with fail
    go_at_call 14
    refine (cC _ S).mono ?_
    rintro e wb ⟨rfl, bb⟩
    clear b10 b1l
    replace B1 := B1.keep bb B1.lt
    replace B2 := B2.keep bb B2.lt
    replace B3 := B3.keep bb B3.lt
    replace S := S.call bb
    replace S3 := S3.call bb
    replace bel := belowCall bel bb
    clear bb
    have b30 := B3.cell 0
    have b3l := B3.lt
    have f0 := B3.free 0
    go_wp2_with fail
    have B9 := B3.set 0 (.slice none 0 0)
    have bel9 := bel.setCell (p := ⟨w.heap.size + 1 + 1, 0, none⟩) (Nat.le_trans (Nat.le_succ _) (Nat.le_succ _)) (.slice none 0 0)
    have I9 := IsS.boxed (IsS.none _) B3 (.slice none 0 0)
    have i0 := B9.cell 0
    exact bodyPost_ret (v := .tuple #[.agg #[.slice none 0 0], .int .i64 E]) (by simp [results, Try.results5, go_sem, i0]) rfl ⟨_, _, rfl, I9, bel9⟩

end Go.Proofs.Ytabeihkfjlmepaa

/-
  Two slices of the call's own whose elements are of two types lie in two blocks.
-/
namespace Go.Proofs.Ytabeihkfjlmepaa
open Go.RowKit

theorem apartTy {w : World} {b1 b2 s1 s2 n m : Nat} {t1 t2 : TypeId} {u v : Value} {xs ys : List Value} (h : w.ownsRow b1 t1 s1 u n xs) (k : w.ownsRow b2 t2 s2 v m ys) (ht : t1 ≠ t2) : Apart u v := by
  intro g hu hv
  rcases h.2 with ⟨rfl, _⟩ | ⟨g1, c1, cur1, rfl, _, h1, _⟩
  · simp [Value.ownBlock] at hu
  rcases k.2 with ⟨rfl, _⟩ | ⟨g2, c2, cur2, rfl, _, h2, _⟩
  · simp [Value.ownBlock] at hv
  have e1 : g1 = g := Option.some.inj hu
  have e2 : g2 = g := Option.some.inj hv
  subst e1
  subst e2
  rw [h1] at h2
  simp only [Option.some.injEq, Obj.cells.injEq] at h2
  exact ht h2.2.1

theorem ownNe {w : World} {base n g : Nat} {e t : TypeId} {size : Nat} {v : Value} {xs cs : List Value} (h : w.ownsRow base e size v n xs) (B : Blk w g cs t) (ht : e ≠ t) : v.ownBlock ≠ some g := by
  rcases h.2 with ⟨rfl, _⟩ | ⟨g1, c1, cur1, rfl, _, h1, _⟩
  · intro e; cases e
  · intro e
    have e1 : g1 = g := by simpa [Value.ownBlock] using e
    subst e1
    have h2 := h1.symm.trans B
    simp only [Option.some.injEq, Obj.cells.injEq] at h2
    exact ht h2.2.1

theorem owndown {w : World} {base base' : Nat} {e : TypeId} {size n : Nat} {v : Value} {xs : List Value} (h : w.ownsRow base e size v n xs) (hb : base' ≤ base) : w.ownsRow base' e size v n xs := by
  refine ⟨h.1, ?_⟩
  rcases h.2 with h0 | ⟨g, cap, cur, e1, h1, h2⟩
  · exact .inl h0
  · exact .inr ⟨g, cap, cur, e1, Nat.le_trans hb h1, h2⟩

end Go.Proofs.Ytabeihkfjlmepaa
