/-
  line.inRange and line.Check: what they return; nothing that was there is written.
-/
import Derived.Lib.SmallJoins
import Derived.Test.YtabeihkfjlmepaaDoorP02
namespace Go.Proofs.YtabeihkfjlmepaaDoor
open Go.RowKit

theorem inRange_any (x y : Int) (w : World) :
    Calls Tryd.prog 66 #[.agg #[.int .i64 x, .int .i64 y]] w fun e w' => e = .returned (.bool (ptOk (x, y))) ∧ Below w.heap.size w w' := by
  by_cases h1 : 0 ≤ x
  · by_cases h2 : x ≤ 100000
    · by_cases h3 : -1000000 ≤ y
      · by_cases h4 : y ≤ 1000000
        · have e : ptOk (x, y) = true := decide_eq_true ⟨h1, h2, h3, h4⟩
          rw [e]
          clear e
          go_enter Tryd.func66, Tryd.ntmps66
          go_wp2
          go_ret
          exact ⟨rfl, (Below.refl _ _).alloc (Nat.le_refl _) _⟩
        · have e : ptOk (x, y) = false := decide_eq_false (fun h => h4 h.2.2.2)
          rw [e]
          clear e
          go_enter Tryd.func66, Tryd.ntmps66
          go_wp2
          go_ret
          exact ⟨rfl, (Below.refl _ _).alloc (Nat.le_refl _) _⟩
      · have e : ptOk (x, y) = false := decide_eq_false (fun h => h3 h.2.2.1)
        rw [e]
        clear e
        go_enter Tryd.func66, Tryd.ntmps66
        go_wp2
        go_ret
        exact ⟨rfl, (Below.refl _ _).alloc (Nat.le_refl _) _⟩
    · have e : ptOk (x, y) = false := decide_eq_false (fun h => h2 h.2.1)
      rw [e]
      clear e
      go_enter Tryd.func66, Tryd.ntmps66
      go_wp2
      go_ret
      exact ⟨rfl, (Below.refl _ _).alloc (Nat.le_refl _) _⟩
  · have e : ptOk (x, y) = false := decide_eq_false (fun h => h1 h.1)
    rw [e]
    clear e
    go_enter Tryd.func66, Tryd.ntmps66
    go_wp2
    go_ret
    exact ⟨rfl, (Below.refl _ _).alloc (Nat.le_refl _) _⟩

set_option maxHeartbeats 1000000 in
set_option maxRecDepth 100000 in
theorem check_any (ao : Option Addr) (cap : Nat) (l : List Pt) (w : World) (hr : SlP w ao cap l) :
    Calls Tryd.prog 56 #[.slice ao l.length cap] w fun e w' => e = .returned (.int .i64 (checkE l)) ∧ Below w.heap.size w w' := by
  by_cases h40 : 40 < l.length
  · have h40' : (40 : Int) < l.length := by omega
    have e : checkE l = 2 := if_pos h40
    rw [e]
    clear e h40
    go_enter Tryd.func56, Tryd.ntmps56
    go_wp2
    go_ret
    exact ⟨rfl, Below.refl _ _⟩
  · have e : checkE l = chk (-1) l := if_neg h40
    rw [e]
    clear e
    obtain ⟨C, hC⟩ : ∃ C, C = chk (-1) l := ⟨_, rfl⟩
    rw [← hC]
    obtain ⟨n, hn⟩ : ∃ n, n = l.length := ⟨_, rfl⟩
    rw [← hn] at h40 ⊢
    have HL := hide hn
    have HC : Hid (C = chk (-1) (l.drop 0)) := by rw [List.drop_zero]; exact hC
    clear hn hC
    have h40' : ¬ (40 : Int) < (n : Int) := by omega
    go_enter Tryd.func56, Tryd.ntmps56
    go_wp2
    go_loopw [10] (fun i wr => ∃ (k : Nat) (last : Int), k ≤ n ∧ i = .int .i64 k ∧ Hid (C = chk last (l.drop k)) ∧ Hid ((k = 0 ∧ last = -1) ∨ ∃ j y, k = j + 1 ∧ l[j]? = some (last, y)) ∧ Below w.heap.size w wr) (fun i _ => n - (intOf i).toNat)
    case atStart => exact ⟨0, -1, by omega, rfl, HC, hide (.inl ⟨rfl, rfl⟩), Below.refl _ _⟩
    case round =>
      obtain ⟨k, last, hk, rfl, HR, HK, bel⟩ := hrel
      clear HC
      by_cases hlt : k < n
      · have hs := hr.keep bel (Nat.le_refl _)
        obtain ⟨b, off, rfl, hbw⟩ := hs.where (by intro h; rw [HL.out, h] at hlt; simp at hlt)
        obtain ⟨x, y, e0, e1, hx, hd⟩ := hs.pt k (by rw [← HL.out]; exact hlt)
        have HX := hide hx
        have HR' : Hid (C = chk last ((x, y) :: l.drop (k + 1))) := by have := HR.out; rw [hd] at this; exact this
        clear HR hx hd
        have inr : ∀ W : World, (wr.alloc (.cells #[.int .i64 x, .int .i64 y] 95)) = W → Calls Tryd.prog 66 #[.agg #[.int .i64 x, .int .i64 y]] W fun e w1 => e = .returned (.bool (ptOk (x, y))) ∧ Below w.heap.size w w1 ∧ w1.cell? ⟨wr.heap.size, 0, none⟩ = some (.int .i64 x) ∧ SlP w1 (some ⟨b, off, none⟩) cap l := by
          rintro W rfl
          refine (inRange_any x y _).mono ?_
          rintro e w1 ⟨rfl, b1⟩
          refine ⟨rfl, belowCall (bel.alloc bel.size _) b1, ?_, (hs.alloc _).call b1⟩
          rw [b1.cell (p := ⟨wr.heap.size, 0, none⟩) (by simp), World.cell?_alloc_at (hn := rfl)]
          rfl
        cases hp : ptOk (x, y) with
        | false =>
          rw [hp] at inr
          go_wp2_with (go_at_call 66; refine (inr _ rfl).mono ?_; rintro e w1 ⟨rfl, b1, -, -⟩)
          go_ret
          refine ⟨ret_int ?_, b1⟩
          rw [HR'.out, chk, if_pos hp]
        | true =>
          rw [hp] at inr
          rcases HK.out with ⟨rfl, rfl⟩ | ⟨j, yy, rfl, hj⟩
          · clear HK
            rw [Nat.zero_mul, Nat.add_zero] at e0 e1
            go_wp2_with (go_at_call 66; refine (inr _ rfl).mono ?_; rintro e w1 ⟨rfl, b1, c1, s1⟩)
            go_region
            all_goals go_wp2
            all_goals go_roundw
            case rel =>
              refine ⟨1, x, by omega, by go_num, hide ?_, hide (.inr ⟨0, y, rfl, HX.out⟩), belowDrew b1⟩
              rw [HR'.out, chk, if_neg (by rw [hp]; decide), if_neg (by have := (ptOk_true hp).1; simp only at this ⊢; omega)]
            case measure => simp [intOf]; omega
          · clear HK
            have hj' := hide hj
            clear hj
            by_cases hle : x ≤ last
            · go_wp2_with (go_at_call 66; refine (inr _ rfl).mono ?_; rintro e w1 ⟨rfl, b1, c1, s1⟩)
              obtain ⟨x', y', e2, -, h2, -⟩ := s1.pt j (by rw [← HL.out]; omega)
              obtain rfl : last = x' := by rw [hj'.out] at h2; simpa using (Prod.ext_iff.1 (Option.some.inj h2)).1
              clear h2
              go_region
              all_goals go_wp2
              all_goals go_ret
              refine ⟨ret_int ?_, belowDrew b1⟩
              rw [HR'.out, chk, if_neg (by rw [hp]; decide), if_pos hle]
            · go_wp2_with (go_at_call 66; refine (inr _ rfl).mono ?_; rintro e w1 ⟨rfl, b1, c1, s1⟩)
              obtain ⟨x', y', e2, -, h2, -⟩ := s1.pt j (by rw [← HL.out]; omega)
              obtain rfl : last = x' := by rw [hj'.out] at h2; simpa using (Prod.ext_iff.1 (Option.some.inj h2)).1
              clear h2
              go_region
              all_goals go_wp2
              all_goals go_roundw
              case rel =>
                refine ⟨j + 1 + 1, x, by omega, by go_num, hide ?_, hide (.inr ⟨j + 1, y, rfl, HX.out⟩), belowDrew b1⟩
                rw [HR'.out, chk, if_neg (by rw [hp]; decide), if_neg (by simp only; omega)]
              case measure => simp [intOf]; omega
      · obtain rfl : k = n := by omega
        go_wp2_with fail
        go_ret
        refine ⟨ret_int ?_, bel⟩
        rw [HR.out, HL.out, List.drop_length, chk]

end Go.Proofs.YtabeihkfjlmepaaDoor

/-
  note.Check: what is wrong with a record; note.numbersOf: the numbers of entries.
-/
namespace Go.Proofs.YtabeihkfjlmepaaDoor
open Go.RowKit

def ec (x : Nt) : List Value := [.int .i64 x.1, .int .i64 x.2.1, .int .i64 x.2.2]
theorem ec_three (x : Nt) : (ec x).length = 3 := rfl

theorem nIsSeries_any (n : Int) (w : World) :
    Calls Tryd.prog 55 #[.int .i64 n] w fun e w' => e = .returned (.bool (decide (0 ≤ n ∧ n < 4))) ∧ w' = w := by
  by_cases h0 : 0 ≤ n
  · by_cases h1 : n < 4
    · rw [decide_eq_true (⟨h0, h1⟩ : 0 ≤ n ∧ n < 4)]
      go_enter Tryd.func55, Tryd.ntmps55
      go_wp2
      go_ret
      exact ⟨rfl, rfl⟩
    · rw [decide_eq_false (by omega : ¬ (0 ≤ n ∧ n < 4))]
      go_enter Tryd.func55, Tryd.ntmps55
      go_wp2
      go_ret
      exact ⟨rfl, rfl⟩
  · rw [decide_eq_false (by omega : ¬ (0 ≤ n ∧ n < 4))]
    go_enter Tryd.func55, Tryd.ntmps55
    go_wp2
    go_ret
    exact ⟨rfl, rfl⟩

theorem check_one (t v : Int) : checkE [(t, v)] = if 0 ≤ t ∧ t ≤ 100000 ∧ -1000000 ≤ v ∧ v ≤ 1000000 then 0 else 3 := by
  unfold checkE chk chk ptOk
  by_cases h : 0 ≤ t ∧ t ≤ 100000 ∧ -1000000 ≤ v ∧ v ≤ 1000000
  · rw [if_pos h, if_neg (by simp), if_neg (by simp; omega), if_neg (by simp; omega)]
  · rw [if_neg h, if_neg (by simp), if_pos (by simp; omega)]

theorem one_pt (w : World) (t v : Int) (T : TypeId) : SlP (w.alloc (.cells #[.int .i64 t, .int .i64 v] T)) (some ⟨w.heap.size, 0, none⟩) 1 [(t, v)] := by
  have B := Blk.laid w [.int .i64 t, .int .i64 v] T _ rfl
  refine ⟨.inr ⟨_, _, rfl, B.lt, fun j u hu => ?_⟩, by simp, by decide, fun h => by cases h⟩
  match j, hu with
  | 0, hu => simp [cellsP] at hu; subst hu; exact B.cell 0
  | 1, hu => simp [cellsP] at hu; subst hu; exact B.cell 1
  | j + 2, hu => simp [cellsP] at hu

theorem newB {w W : World} (h : Below w.heap.size w W) (o : Obj) : Below w.heap.size w (W.alloc o) := h.alloc h.size o

theorem check_pt (t v : Int) (w : World) (T : TypeId) :
    Calls Tryd.prog 56 #[.slice (some ⟨w.heap.size, 0, none⟩) 1 1] (w.alloc (.cells #[.int .i64 t, .int .i64 v] T)) fun e w' => e = .returned (.int .i64 (checkE [(t, v)])) ∧ Below w.heap.size w w' := by
  refine (check_any (some ⟨w.heap.size, 0, none⟩) 1 [(t, v)] _ (one_pt w t v T)).mono ?_
  rintro e w' ⟨rfl, b⟩
  exact ⟨rfl, belowCall (newB (Below.refl _ _) _) b⟩

set_option maxHeartbeats 1000000 in
set_option maxRecDepth 100000 in
theorem batchLoop (l : List Nt) (a : Option Addr) (cap n : Nat) (w : World) (S : SlW ec w a cap l) (hn : n = l.length) (few : n ≤ 10) :
    Calls Tryd.prog 32 #[.agg #[.int .i64 1, .int .i64 0, .int .i64 0, .slice a n cap]] w fun e w' => e = .returned (.int .i64 (if l.all ntOk then 0 else 3)) ∧ Below w.heap.size w w' := by
  obtain ⟨E, hE⟩ : ∃ E : Int, E = if l.all ntOk then 0 else 3 := ⟨_, rfl⟩
  rw [← hE]
  replace hE := hide hE
  replace hn := hide hn
  have bel : Below w.heap.size w (w.alloc (.cells #[.int .i64 1, .int .i64 0, .int .i64 0, .slice a n cap] 24)) := (Below.refl _ _).alloc (Nat.le_refl _) _
  have B0 := Blk.laid w [.int .i64 1, .int .i64 0, .int .i64 0, .slice a n cap] 24 _ rfl
  have few' : ¬ (10 : Int) < n := by omega
  go_enter Tryd.func32, Tryd.ntmps32
  go_wp2_with fail
  generalize w.alloc _ = w1 at *
  go_loopw [21] (fun i wr => ∃ (k : Nat), k ≤ n ∧ i = .int .i64 k ∧ Hid ((l.take k).all ntOk = true) ∧ Below w.heap.size w wr) (fun i _ => n - (intOf i).toNat)
  case atStart => exact ⟨0, Nat.zero_le _, rfl, hide (by simp), bel⟩
  case round =>
    clear bel
    obtain ⟨k, hk, rfl, hA, bel⟩ := hrel
    by_cases hlt : k < n
    · have hkl : k < l.length := by rw [← hn.out]; exact hlt
      obtain ⟨b1, o1, rfl, hb1l⟩ := S.where ec_three (by decide) (by intro h; subst h; simp at hkl)
      obtain ⟨x, hx⟩ : ∃ x, l[k]? = some x := ⟨_, List.getElem?_eq_getElem hkl⟩
      have s1 := S.keep bel (Nat.le_refl _)
      have d0 := s1.cell ec_three k 0 x _ hx rfl
      have d1 := s1.cell ec_three k 1 x _ hx rfl
      have d2 := s1.cell ec_three k 2 x _ hx rfl
      simp only [Nat.add_zero] at d0
      have hno : ntOk x = false → E = 3 := by
        intro h
        rw [hE.out, if_neg]
        intro hall
        have := List.all_eq_true.1 hall x (List.mem_of_getElem? hx)
        rw [h] at this
        cases this
      have hyes : ntOk x = true → Hid ((l.take (k + 1)).all ntOk = true) := by
        intro h
        rw [List.take_add_one, hx, List.all_append, hA.out]
        simpa [Hid] using h
      obtain ⟨xs, xt, xv⟩ := x
      simp only at *
      replace hx := hide hx
      clear s1 hkl
      by_cases hs : 0 ≤ xs ∧ xs < 4
      · have c1 := fun W => nIsSeries_any xs W
        rw [decide_eq_true hs] at c1
        have c2 := fun W => check_pt xt xv W 95
        by_cases hp : 0 ≤ xt ∧ xt ≤ 100000 ∧ -1000000 ≤ xv ∧ xv ≤ 1000000
        · have hok : ntOk (xs, xt, xv) = true := decide_eq_true ⟨hs.1, hs.2, hp⟩
          simp only [check_one, if_pos hp] at c2
          go_wp2_with fail
          go_at_call 55
          refine (c1 _).mono ?_
          rintro e w2 ⟨rfl, rfl⟩
          have BX := Blk.laid wr [.int .i64 xs, .int .i64 xt, .int .i64 xv] 59 _ rfl
          have bX := newB bel (.cells #[.int .i64 xs, .int .i64 xt, .int .i64 xv] 59)
          generalize wr.alloc _ = w2 at *
          have z1 : w2.cell? ⟨wr.heap.size, 1, none⟩ = some (.int .i64 xt) := BX.cell 1
          have z2 : w2.cell? ⟨wr.heap.size, 2, none⟩ = some (.int .i64 xv) := BX.cell 2
          have lX := BX.lt
          clear c1
          go_wp2_with fail
          go_at_call 56
          refine (c2 _).mono ?_
          rintro e w3 ⟨rfl, b3⟩
          have bel3 := belowCall bX b3
          go_wp2_with fail
          go_roundw
          case rel => exact ⟨k + 1, by omega, by go_num, hyes hok, bel3⟩
          case measure => simp [intOf]; omega
        · have hok : ntOk (xs, xt, xv) = false := decide_eq_false (by rintro ⟨_, _, h⟩; exact hp h)
          simp only [check_one, if_neg hp] at c2
          obtain rfl := hno hok
          go_wp2_with fail
          go_at_call 55
          refine (c1 _).mono ?_
          rintro e w2 ⟨rfl, rfl⟩
          have BX := Blk.laid wr [.int .i64 xs, .int .i64 xt, .int .i64 xv] 59 _ rfl
          have bX := newB bel (.cells #[.int .i64 xs, .int .i64 xt, .int .i64 xv] 59)
          generalize wr.alloc _ = w2 at *
          have z1 : w2.cell? ⟨wr.heap.size, 1, none⟩ = some (.int .i64 xt) := BX.cell 1
          have z2 : w2.cell? ⟨wr.heap.size, 2, none⟩ = some (.int .i64 xv) := BX.cell 2
          have lX := BX.lt
          clear c1
          go_wp2_with fail
          go_at_call 56
          refine (c2 _).mono ?_
          rintro e w3 ⟨rfl, b3⟩
          have bel3 := belowCall bX b3
          go_wp2_with fail
          go_ret
          exact ⟨rfl, bel3⟩
      · have c1 := fun W => nIsSeries_any xs W
        rw [decide_eq_false hs] at c1
        have hok : ntOk (xs, xt, xv) = false := decide_eq_false (by rintro ⟨h1, h2, _⟩; exact hs ⟨h1, h2⟩)
        obtain rfl := hno hok
        go_wp2_with fail
        go_at_call 55
        refine (c1 _).mono ?_
        rintro e w2 ⟨rfl, rfl⟩
        go_wp2_with fail
        go_ret
        exact ⟨rfl, newB bel _⟩
    · obtain rfl : n = k := by omega
      have e0 : E = 0 := by
        rw [hE.out, if_pos]
        have := hA.out
        rw [List.take_of_length_le (by rw [← hn.out]; exact Nat.le_refl _)] at this
        exact this
      subst e0
      go_wp2_with fail
      go_ret
      exact ⟨rfl, bel⟩

end Go.Proofs.YtabeihkfjlmepaaDoor

/-
  How an argument that is a record, by value, is opened: three numbers and a slice of entries.
-/
namespace Go.Proofs.YtabeihkfjlmepaaDoor
open Go.RowKit Go.ChangeShapes Go.WideShapes Go.ChangeAt Go.Joins

theorem cellsInt : Tryd.prog.cellsOf 3 = 1 := by kernel_rfl

theorem three_of {α : Type} {l : List α} (h : l.length = 3) : ∃ a b c, l = [a, b, c] := by
  match l, h with
  | [a, b, c], _ => exact ⟨a, b, c, rfl⟩

theorem rec_light {H : Type} {ts : List TypeId} {ds : List (DataW H)} {j : Nat} {t : TypeId} {d : DataW H} (hsz : (DataW.weightsEach Tryd.prog ts ds).all (· ≤ reachBytes) = true) (ht : ts[j]? = some t) (hd : ds[j]? = some d) : Light t d := by
  intro n hn
  have h := of_decide_eq_true (List.all_eq_true.1 hsz _ (DataW.weights_mem_each ht hd n hn))
  unfold reachBytes at h
  exact h

set_option maxRecDepth 100000 in
theorem open_nt {H : Type} {enc : TypeId × Value → H} {W : World} (cs : List Value) (x : DataW H × List MemPlace) (m : Nat) (hl : cs.length = 3) (h : DataW.trod enc Tryd.prog W 0 (fun _ => true) true m 59 cs = some x) (_ : Light 59 x.1) :
    ∃ y : Nt, cs = ec y ∧ True := by
  obtain ⟨c0, c1, c2, rfl⟩ := three_of hl
  obtain ⟨y0, y1, y2, n, rfl, _, h0, h1, h2⟩ := Go.Deep.trod_struct3 Tryd.underlying59 h
  simp only [cellsInt, List.drop_zero, List.drop_succ_cons, List.take_succ_cons, List.take_zero] at h0 h1 h2
  obtain ⟨a0, e0, rfl, w0⟩ := DataW.trod_int Tryd.underlying3 h0
  obtain ⟨a1, e1, rfl, w1⟩ := DataW.trod_int Tryd.underlying3 h1
  obtain ⟨a2, e2, rfl, w2⟩ := DataW.trod_int Tryd.underlying3 h2
  simp at e0 e1 e2
  subst e0 e1 e2
  exact ⟨(a0, a1, a2), rfl, trivial⟩

set_option maxRecDepth 100000 in
theorem cellsRec : Tryd.prog.cellsOf 24 = 4 := by kernel_rfl

set_option maxRecDepth 100000 in
theorem open_rec {H : Type} {enc : TypeId × Value → H} {W : World} {r : Reach} {b0 : Nat} {v : Value} {d : DataW H} {p : List MemPlace} (hv : Value.okWide Tryd.prog W r b0 24 v)
    (h : DataW.Trod enc Tryd.prog W 0 (fun _ => true) true 24 v d p) (hw : Light 24 d) :
    ∃ (q : Rc) (ao : Option Addr) (cap : Nat), v = .agg #[.int .i64 q.k, .int .i64 q.s, .int .i64 q.n, .slice ao q.e.length cap] ∧ SlW ec W ao cap q.e := by
  obtain ⟨c0, c1, c2, c3, y0, y1, y2, y3, m, rfl, rfl, rfl, h0, h1, h2, h3⟩ := open_agg4 Tryd.underlying24 (by kernel_rfl) cellsRec hv h
  obtain ⟨a0, e0, rfl, w0⟩ := DataW.trod_int Tryd.underlying3 h0
  obtain ⟨a1, e1, rfl, w1⟩ := DataW.trod_int Tryd.underlying3 h1
  obtain ⟨a2, e2, rfl, w2⟩ := DataW.trod_int Tryd.underlying3 h2
  obtain ⟨ao, n, cap, e3⟩ := slice_form Tryd.underlying22 h3
  simp at e0 e1 e2 e3
  subst e0 e1 e2 e3
  have hw3 : Light 22 y3.1 := by
    intro n hn
    refine hw n ?_
    simp [DataW.weights, DataW.weightsEach, Tryd.underlying24, hn]
  obtain ⟨l, hl, s, _, _⟩ := open_wide (ao := ao) (n := n) (cap := cap) ec (fun _ => True) Tryd.underlying22 (by kernel_rfl) (by decide) ec_three (fun cs x m => open_nt cs x m) (by simpa [Value.cells] using h3) hw3
  subst hl
  exact ⟨⟨a0, a1, a2, l⟩, ao, cap, rfl, s⟩

end Go.Proofs.YtabeihkfjlmepaaDoor

/-
  Two slices of the call's own whose elements are of two types lie in two blocks.
-/
namespace Go.Proofs.YtabeihkfjlmepaaDoor
open Go.RowKit

theorem apartTy {w : World} {b1 b2 s1 s2 n m : Nat} {t1 t2 : TypeId} {u v : Value} {xs ys : List Value} (h : w.ownsRow b1 t1 s1 u n xs) (k : w.ownsRow b2 t2 s2 v m ys) (ht : t1 ≠ t2) : Apart u v := by
  intro g hu hv
  rcases h.2 with ⟨rfl, _⟩ | ⟨g1, c1, cur1, rfl, _, h1, _⟩
  · simp [Value.ownBlock] at hu
  rcases k.2 with ⟨rfl, _⟩ | ⟨g2, c2, cur2, rfl, _, h2, _⟩
  · simp [Value.ownBlock] at hv
  have e1 : g1 = g := Option.some.inj hu
  have e2 : g2 = g := Option.some.inj hv
  subst e1
  subst e2
  rw [h1] at h2
  simp only [Option.some.injEq, Obj.cells.injEq] at h2
  exact ht h2.2.1

theorem ownNe {w : World} {base n g : Nat} {e t : TypeId} {size : Nat} {v : Value} {xs cs : List Value} (h : w.ownsRow base e size v n xs) (B : Blk w g cs t) (ht : e ≠ t) : v.ownBlock ≠ some g := by
  rcases h.2 with ⟨rfl, _⟩ | ⟨g1, c1, cur1, rfl, _, h1, _⟩
  · intro e; cases e
  · intro e
    have e1 : g1 = g := by simpa [Value.ownBlock] using e
    subst e1
    have h2 := h1.symm.trans B
    simp only [Option.some.injEq, Obj.cells.injEq] at h2
    exact ht h2.2.1

theorem owndown {w : World} {base base' : Nat} {e : TypeId} {size n : Nat} {v : Value} {xs : List Value} (h : w.ownsRow base e size v n xs) (hb : base' ≤ base) : w.ownsRow base' e size v n xs := by
  refine ⟨h.1, ?_⟩
  rcases h.2 with h0 | ⟨g, cap, cur, e1, h1, h2⟩
  · exact .inl h0
  · exact .inr ⟨g, cap, cur, e1, Nat.le_trans hb h1, h2⟩

end Go.Proofs.YtabeihkfjlmepaaDoor

/-
  Lists of records of the call's own, and slices of records, with where the entries lie.
-/
namespace Go.Proofs.YtabeihkfjlmepaaDoor
open Go.RowKit

/-- A record, and where its entries lie. -/
structure Lrc where
  r : Rc
  a : Option Addr
  c : Nat

def Lrc.cells (x : Lrc) : List Value := [.int .i64 x.r.k, .int .i64 x.r.s, .int .i64 x.r.n, .slice x.a x.r.e.length x.c]
theorem Lrc.four (x : Lrc) : x.cells.length = 4 := rfl

/-- Its entries lie in memory of the call's own. -/
def Lrc.own (base : Nat) (w : World) (x : Lrc) : Prop := w.ownsRow base 59 3 (.slice x.a x.r.e.length x.c) x.r.e.length (x.r.e.flatMap ec)

structure Recs (base : Nat) (w : World) (a : Option Addr) (n G : Nat) (l : List Lrc) : Prop where
  len : n = l.length
  row : w.ownsRow base 24 4 (.slice a n G) n (l.flatMap Lrc.cells)
  own : ∀ x ∈ l, x.own base w

theorem Recs.nil (base : Nat) (w : World) : Recs base w none 0 0 [] := ⟨rfl, World.ownsRow_nil _ _ _ _, fun x h => by simp at h⟩

theorem Recs.call {base : Nat} {w w' : World} {a : Option Addr} {n G : Nat} {l : List Lrc} (h : Recs base w a n G l) (hb : Below w.heap.size w w') : Recs base w' a n G l :=
  ⟨h.len, ownCall h.row hb, fun x hx => ownCall (h.own x hx) hb⟩

theorem Recs.down {base base' : Nat} {w : World} {a : Option Addr} {n G : Nat} {l : List Lrc} (h : Recs base w a n G l) (hb : base' ≤ base) : Recs base' w a n G l :=
  ⟨h.len, owndown h.row hb, fun x hx => owndown (h.own x hx) hb⟩

theorem infoRec : (Tryd.prog.info? 24).map (fun i => (i.zero, i.size, i.bytes)) = some (some (.agg #[.int .i64 0, .int .i64 0, .int .i64 0, .slice none 0 0]), 4, 48) := by kernel_rfl

/-- One more record. -/
theorem Recs.snoc {base : Nat} {w w' : World} {a : Option Addr} {n G : Nat} {l : List Lrc} {v : Value} (h : Recs base w a n G l) (x : Lrc) (hx : x.own base w) (o : w'.ownsRow base 24 4 v (n + 1) (l.flatMap Lrc.cells ++ x.cells)) (gr : w.grownBy w' (Value.slice a n G).ownBlock) :
    ∃ a' G', v = .slice a' (n + 1) G' ∧ Recs base w' a' (n + 1) G' (l ++ [x]) := by
  obtain ⟨g7, G7, rfl⟩ : ∃ g7 G7, v = .slice (some ⟨g7, 0, none⟩) (n + 1) G7 := by
    rcases o.2 with ⟨_, h⟩ | ⟨g, cap, cur, h, _⟩
    · omega
    · exact ⟨_, _, h⟩
  refine ⟨_, _, rfl, by rw [List.length_append, h.len]; rfl, by rw [List.flatMap_append]; simpa using o, fun y hy => ?_⟩
  rcases List.mem_append.1 hy with hy | hy
  · exact ownApart (h.own y hy) gr (apartTy (h.own y hy) h.row (by decide))
  · simp only [List.mem_cons, List.not_mem_nil, or_false] at hy
    subst hy
    exact ownApart hx gr (apartTy hx h.row (by decide))

/-- A list of records, with their entries. -/
structure SlRec (w : World) (a : Option Addr) (cap : Nat) (l : List Lrc) : Prop where
  row : SlW Lrc.cells w a cap l
  ent : ∀ x ∈ l, SlW ec w x.a x.c x.r.e

theorem SlRec.keep {w w' : World} {a : Option Addr} {cap B : Nat} {l : List Lrc} (h : SlRec w a cap l) (hb : Below B w w') (hs : w.heap.size ≤ B) : SlRec w' a cap l :=
  ⟨h.row.keep hb hs, fun x hx => (h.ent x hx).keep hb hs⟩

theorem Recs.sl {base : Nat} {w : World} {a : Option Addr} {n G : Nat} {l : List Lrc} (R : Recs base w a n G l) : SlRec w a G l := by
  obtain ⟨a9, G9, e9, S9, _, _⟩ := SlW.ofOwn Lrc.four (by decide) R.row
  simp only [Value.slice.injEq, true_and] at e9
  obtain ⟨rfl, rfl⟩ := e9
  refine ⟨S9, fun x hx => ?_⟩
  obtain ⟨a5, G5, e5, s5, _, _⟩ := SlW.ofOwn ec_three (by decide) (R.own x hx)
  simp only [Value.slice.injEq, true_and] at e5
  obtain ⟨e1, e2⟩ := e5
  rw [e1, e2]
  exact s5

/-- What a test says. -/
def AnsB (P : Prop) (w : World) (e : Ending) (w' : World) : Prop := ∃ b, e = .returned (.bool b) ∧ (b = true ↔ P) ∧ Below w.heap.size w w'

theorem rc_eta (r q : Rc) : (r.k = q.k ∧ r.s = q.s ∧ r.n = q.n ∧ r.e = q.e) ↔ r = q := by
  cases r; cases q; simp

end Go.Proofs.YtabeihkfjlmepaaDoor

/-
  How an argument that is a slice of records is opened: each with its entries.
-/
namespace Go.Proofs.YtabeihkfjlmepaaDoor
open Go.RowKit Go.ChangeShapes Go.WideShapes Go.ChangeAt Go.Joins

theorem four_of {α : Type} {l : List α} (h : l.length = 4) : ∃ a b c d, l = [a, b, c, d] := by
  match l, h with
  | [a, b, c, d], _ => exact ⟨a, b, c, d, rfl⟩

set_option maxRecDepth 100000 in
theorem cellsEs : Tryd.prog.cellsOf 22 = 1 := by kernel_rfl

set_option maxRecDepth 100000 in
theorem open_lrc {H : Type} {enc : TypeId × Value → H} {W : World} (cs : List Value) (x : DataW H × List MemPlace) (m : Nat) (hl : cs.length = 4) (h : DataW.trod enc Tryd.prog W 0 (fun _ => true) true m 24 cs = some x) (hw : Light 24 x.1) :
    ∃ y : Lrc, cs = y.cells ∧ SlW ec W y.a y.c y.r.e := by
  obtain ⟨c0, c1, c2, c3, rfl⟩ := four_of hl
  obtain ⟨y0, y1, y2, y3, n, rfl, _, h0, h1, h2, h3⟩ := trod_struct4 Tryd.underlying24 h
  simp only [cellsInt, cellsEs, List.drop_zero, List.drop_succ_cons, List.take_succ_cons, List.take_zero] at h0 h1 h2 h3
  obtain ⟨a0, e0, rfl, w0⟩ := DataW.trod_int Tryd.underlying3 h0
  obtain ⟨a1, e1, rfl, w1⟩ := DataW.trod_int Tryd.underlying3 h1
  obtain ⟨a2, e2, rfl, w2⟩ := DataW.trod_int Tryd.underlying3 h2
  obtain ⟨ao, k, cap, e3⟩ := slice_form Tryd.underlying22 h3
  simp at e0 e1 e2 e3
  subst e0 e1 e2 e3
  have hw3 : Light 22 y3.1 := by
    intro n hn
    refine hw n ?_
    simp [DataW.weights, DataW.weightsEach, Tryd.underlying24, hn]
  obtain ⟨l, hl, s, _, _⟩ := open_wide (ao := ao) (n := k) (cap := cap) ec (fun _ => True) Tryd.underlying22 (by kernel_rfl) (by decide) ec_three (fun cs x m => open_nt cs x m) (by simpa [Value.cells] using h3) hw3
  subst hl
  exact ⟨⟨⟨a0, a1, a2, l⟩, ao, cap⟩, rfl, s⟩

set_option maxRecDepth 100000 in
theorem open_recs {H : Type} {enc : TypeId × Value → H} {W : World} {ao : Option Addr} {n cap : Nat} {d : DataW H} {ps : List MemPlace}
    (h : DataW.Trod enc Tryd.prog W 0 (fun _ => true) true 34 (.slice ao n cap) d ps) (hw : Light 34 d) :
    ∃ l : List Lrc, l.length = n ∧ SlRec W ao cap l ∧ cap * 48 ≤ 140737488351232 := by
  obtain ⟨fuel, hf⟩ := h
  obtain ⟨l, hl, s, g, r⟩ := open_wide (ao := ao) (n := n) (cap := cap) Lrc.cells (fun y => SlW ec W y.a y.c y.r.e) Tryd.underlying34 cellsRec (by decide) Lrc.four (fun cs x m => open_lrc cs x m) (by simpa [Value.cells] using hf) hw
  rw [show Tryd.prog.bytesOf 24 = 48 by kernel_rfl] at r
  exact ⟨l, hl, ⟨s, g⟩, r⟩

end Go.Proofs.YtabeihkfjlmepaaDoor
