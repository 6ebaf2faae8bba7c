/-
  note.Check: what is wrong with a record; note.numbersOf: the numbers of entries.
-/
import Derived.Test.YthoclnjfbigdiaaDoorNoteMath
import Derived.Test.YthoclnjfbigdiaaDoorWide
import Derived.Test.YthoclnjfbigdiaaDoorCheck
namespace Go.Proofs.YthoclnjfbigdiaaDoor
open Go.RowKit

def ec (x : Nt) : List Value := [.int .i64 x.1, .int .i64 x.2.1, .int .i64 x.2.2]
theorem ec_three (x : Nt) : (ec x).length = 3 := rfl

theorem isSeries_any (n : Int) (w : World) :
    Calls Tryd.prog 55 #[.int .i64 n] w fun e w' => e = .returned (.bool (decide (0 ≤ n ∧ n < 4))) ∧ w' = w := by
  by_cases h0 : 0 ≤ n
  · by_cases h1 : n < 4
    · rw [decide_eq_true (⟨h0, h1⟩ : 0 ≤ n ∧ n < 4)]
      go_enter Tryd.func55, Tryd.ntmps55
      go_wp2
      go_ret
      exact ⟨rfl, rfl⟩
    · rw [decide_eq_false (by omega : ¬ (0 ≤ n ∧ n < 4))]
      go_enter Tryd.func55, Tryd.ntmps55
      go_wp2
      go_ret
      exact ⟨rfl, rfl⟩
  · rw [decide_eq_false (by omega : ¬ (0 ≤ n ∧ n < 4))]
    go_enter Tryd.func55, Tryd.ntmps55
    go_wp2
    go_ret
    exact ⟨rfl, rfl⟩

theorem check_one (t v : Int) : checkE [(t, v)] = if 0 ≤ t ∧ t ≤ 100000 ∧ -1000000 ≤ v ∧ v ≤ 1000000 then 0 else 3 := by
  unfold checkE chk chk ptOk
  by_cases h : 0 ≤ t ∧ t ≤ 100000 ∧ -1000000 ≤ v ∧ v ≤ 1000000
  · rw [if_pos h, if_neg (by simp), if_neg (by simp; omega), if_neg (by simp; omega)]
  · rw [if_neg h, if_neg (by simp), if_pos (by simp; omega)]

theorem one_pt (w : World) (t v : Int) (T : TypeId) : SlP (w.alloc (.cells #[.int .i64 t, .int .i64 v] T)) (some ⟨w.heap.size, 0, none⟩) 1 [(t, v)] := by
  have B := Blk.laid w [.int .i64 t, .int .i64 v] T _ rfl
  refine ⟨.inr ⟨_, _, rfl, B.lt, fun j u hu => ?_⟩, by simp, by decide, fun h => by cases h⟩
  match j, hu with
  | 0, hu => simp [cellsP] at hu; subst hu; exact B.cell 0
  | 1, hu => simp [cellsP] at hu; subst hu; exact B.cell 1
  | j + 2, hu => simp [cellsP] at hu

theorem newB {w W : World} (h : Below w.heap.size w W) (o : Obj) : Below w.heap.size w (W.alloc o) := h.alloc h.size o

theorem check_pt (t v : Int) (w : World) (T : TypeId) :
    Calls Tryd.prog 56 #[.slice (some ⟨w.heap.size, 0, none⟩) 1 1] (w.alloc (.cells #[.int .i64 t, .int .i64 v] T)) fun e w' => e = .returned (.int .i64 (checkE [(t, v)])) ∧ Below w.heap.size w w' := by
  refine (check_any (some ⟨w.heap.size, 0, none⟩) 1 [(t, v)] _ (one_pt w t v T)).mono ?_
  rintro e w' ⟨rfl, b⟩
  exact ⟨rfl, belowCall (newB (Below.refl _ _) _) b⟩

set_option maxHeartbeats 1000000 in
set_option maxRecDepth 100000 in
theorem batchLoop (l : List Nt) (a : Option Addr) (cap n : Nat) (w : World) (S : SlW ec w a cap l) (hn : n = l.length) (few : n ≤ 10) :
    Calls Tryd.prog 32 #[.agg #[.int .i64 1, .int .i64 0, .int .i64 0, .slice a n cap]] w fun e w' => e = .returned (.int .i64 (if l.all ntOk then 0 else 3)) ∧ Below w.heap.size w w' := by
  obtain ⟨E, hE⟩ : ∃ E : Int, E = if l.all ntOk then 0 else 3 := ⟨_, rfl⟩
  rw [← hE]
  replace hE := hide hE
  replace hn := hide hn
  have bel : Below w.heap.size w (w.alloc (.cells #[.int .i64 1, .int .i64 0, .int .i64 0, .slice a n cap] 24)) := (Below.refl _ _).alloc (Nat.le_refl _) _
  have B0 := Blk.laid w [.int .i64 1, .int .i64 0, .int .i64 0, .slice a n cap] 24 _ rfl
  have few' : ¬ (10 : Int) < n := by omega
  go_enter Tryd.func32, Tryd.ntmps32
  go_wp2_with fail
  generalize w.alloc _ = w1 at *
  go_loopw [21] (fun i wr => ∃ (k : Nat), k ≤ n ∧ i = .int .i64 k ∧ Hid ((l.take k).all ntOk = true) ∧ Below w.heap.size w wr) (fun i _ => n - (intOf i).toNat)
  case atStart => exact ⟨0, Nat.zero_le _, rfl, hide (by simp), bel⟩
  case round =>
    clear bel
    obtain ⟨k, hk, rfl, hA, bel⟩ := hrel
    by_cases hlt : k < n
    · have hkl : k < l.length := by rw [← hn.out]; exact hlt
      obtain ⟨b1, o1, rfl, hb1l⟩ := S.where ec_three (by decide) (by intro h; subst h; simp at hkl)
      obtain ⟨x, hx⟩ : ∃ x, l[k]? = some x := ⟨_, List.getElem?_eq_getElem hkl⟩
      have s1 := S.keep bel (Nat.le_refl _)
      have d0 := s1.cell ec_three k 0 x _ hx rfl
      have d1 := s1.cell ec_three k 1 x _ hx rfl
      have d2 := s1.cell ec_three k 2 x _ hx rfl
      simp only [Nat.add_zero] at d0
      have hno : ntOk x = false → E = 3 := by
        intro h
        rw [hE.out, if_neg]
        intro hall
        have := List.all_eq_true.1 hall x (List.mem_of_getElem? hx)
        rw [h] at this
        cases this
      have hyes : ntOk x = true → Hid ((l.take (k + 1)).all ntOk = true) := by
        intro h
        rw [List.take_add_one, hx, List.all_append, hA.out]
        simpa [Hid] using h
      obtain ⟨xs, xt, xv⟩ := x
      simp only at *
      replace hx := hide hx
      clear s1 hkl
      by_cases hs : 0 ≤ xs ∧ xs < 4
      · have c1 := fun W => isSeries_any xs W
        rw [decide_eq_true hs] at c1
        have c2 := fun W => check_pt xt xv W 95
        by_cases hp : 0 ≤ xt ∧ xt ≤ 100000 ∧ -1000000 ≤ xv ∧ xv ≤ 1000000
        · have hok : ntOk (xs, xt, xv) = true := decide_eq_true ⟨hs.1, hs.2, hp⟩
          simp only [check_one, if_pos hp] at c2
          go_wp2_with fail
          go_at_call 55
          refine (c1 _).mono ?_
          rintro e w2 ⟨rfl, rfl⟩
          have BX := Blk.laid wr [.int .i64 xs, .int .i64 xt, .int .i64 xv] 59 _ rfl
          have bX := newB bel (.cells #[.int .i64 xs, .int .i64 xt, .int .i64 xv] 59)
          generalize wr.alloc _ = w2 at *
          have z1 : w2.cell? ⟨wr.heap.size, 1, none⟩ = some (.int .i64 xt) := BX.cell 1
          have z2 : w2.cell? ⟨wr.heap.size, 2, none⟩ = some (.int .i64 xv) := BX.cell 2
          have lX := BX.lt
          clear c1
          go_wp2_with fail
          go_at_call 56
          refine (c2 _).mono ?_
          rintro e w3 ⟨rfl, b3⟩
          have bel3 := belowCall bX b3
          go_wp2_with fail
          go_roundw
          case rel => exact ⟨k + 1, by omega, by go_num, hyes hok, bel3⟩
          case measure => simp [intOf]; omega
        · have hok : ntOk (xs, xt, xv) = false := decide_eq_false (by rintro ⟨_, _, h⟩; exact hp h)
          simp only [check_one, if_neg hp] at c2
          obtain rfl := hno hok
          go_wp2_with fail
          go_at_call 55
          refine (c1 _).mono ?_
          rintro e w2 ⟨rfl, rfl⟩
          have BX := Blk.laid wr [.int .i64 xs, .int .i64 xt, .int .i64 xv] 59 _ rfl
          have bX := newB bel (.cells #[.int .i64 xs, .int .i64 xt, .int .i64 xv] 59)
          generalize wr.alloc _ = w2 at *
          have z1 : w2.cell? ⟨wr.heap.size, 1, none⟩ = some (.int .i64 xt) := BX.cell 1
          have z2 : w2.cell? ⟨wr.heap.size, 2, none⟩ = some (.int .i64 xv) := BX.cell 2
          have lX := BX.lt
          clear c1
          go_wp2_with fail
          go_at_call 56
          refine (c2 _).mono ?_
          rintro e w3 ⟨rfl, b3⟩
          have bel3 := belowCall bX b3
          go_wp2_with fail
          go_ret
          exact ⟨rfl, bel3⟩
      · have c1 := fun W => isSeries_any xs W
        rw [decide_eq_false hs] at c1
        have hok : ntOk (xs, xt, xv) = false := decide_eq_false (by rintro ⟨h1, h2, _⟩; exact hs ⟨h1, h2⟩)
        obtain rfl := hno hok
        go_wp2_with fail
        go_at_call 55
        refine (c1 _).mono ?_
        rintro e w2 ⟨rfl, rfl⟩
        go_wp2_with fail
        go_ret
        exact ⟨rfl, newB bel _⟩
    · obtain rfl : n = k := by omega
      have e0 : E = 0 := by
        rw [hE.out, if_pos]
        have := hA.out
        rw [List.take_of_length_le (by rw [← hn.out]; exact Nat.le_refl _)] at this
        exact this
      subst e0
      go_wp2_with fail
      go_ret
      exact ⟨rfl, bel⟩

end Go.Proofs.YthoclnjfbigdiaaDoor
