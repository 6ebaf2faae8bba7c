/-
  line.inRange and line.Check: what they return; nothing that was there is written.
-/
import Derived.Lib.SmallJoins
import Derived.Lib.AtoiAllCases
import Derived.Laws.MakeOwn
import Derived.Deep.Cut
import Derived.Deep.CutRange
import Derived.Test.YtabeihkfjlmepaaGreatDoorP02
import Derived.Test.YtabeihkfjlmepaaGreatDoorP01
namespace Go.Proofs.YtabeihkfjlmepaaGreatDoor
open Go.RowKit

theorem inRange_any (x y : Int) (w : World) :
    Calls Tryz.prog 116 #[.agg #[.int .i64 x, .int .i64 y]] w fun e w' => e = .returned (.bool (ptOk (x, y))) ∧ Below w.heap.size w w' := by
  by_cases h1 : 0 ≤ x
  · by_cases h2 : x ≤ 100000
    · by_cases h3 : -1000000 ≤ y
      · by_cases h4 : y ≤ 1000000
        · have e : ptOk (x, y) = true := decide_eq_true ⟨h1, h2, h3, h4⟩
          rw [e]
          clear e
          go_enter Tryz.func116, Tryz.ntmps116
          go_wp2
          go_ret
          exact ⟨rfl, (Below.refl _ _).alloc (Nat.le_refl _) _⟩
        · have e : ptOk (x, y) = false := decide_eq_false (fun h => h4 h.2.2.2)
          rw [e]
          clear e
          go_enter Tryz.func116, Tryz.ntmps116
          go_wp2
          go_ret
          exact ⟨rfl, (Below.refl _ _).alloc (Nat.le_refl _) _⟩
      · have e : ptOk (x, y) = false := decide_eq_false (fun h => h3 h.2.2.1)
        rw [e]
        clear e
        go_enter Tryz.func116, Tryz.ntmps116
        go_wp2
        go_ret
        exact ⟨rfl, (Below.refl _ _).alloc (Nat.le_refl _) _⟩
    · have e : ptOk (x, y) = false := decide_eq_false (fun h => h2 h.2.1)
      rw [e]
      clear e
      go_enter Tryz.func116, Tryz.ntmps116
      go_wp2
      go_ret
      exact ⟨rfl, (Below.refl _ _).alloc (Nat.le_refl _) _⟩
  · have e : ptOk (x, y) = false := decide_eq_false (fun h => h1 h.1)
    rw [e]
    clear e
    go_enter Tryz.func116, Tryz.ntmps116
    go_wp2
    go_ret
    exact ⟨rfl, (Below.refl _ _).alloc (Nat.le_refl _) _⟩

set_option maxHeartbeats 1000000 in
set_option maxRecDepth 100000 in
theorem check_any (ao : Option Addr) (cap : Nat) (l : List Pt) (w : World) (hr : SlP w ao cap l) :
    Calls Tryz.prog 97 #[.slice ao l.length cap] w fun e w' => e = .returned (.int .i64 (checkE l)) ∧ Below w.heap.size w w' := by
  by_cases h40 : 40 < l.length
  · have h40' : (40 : Int) < l.length := by omega
    have e : checkE l = 2 := if_pos h40
    rw [e]
    clear e h40
    go_enter Tryz.func97, Tryz.ntmps97
    go_wp2
    go_ret
    exact ⟨rfl, Below.refl _ _⟩
  · have e : checkE l = chk (-1) l := if_neg h40
    rw [e]
    clear e
    obtain ⟨C, hC⟩ : ∃ C, C = chk (-1) l := ⟨_, rfl⟩
    rw [← hC]
    obtain ⟨n, hn⟩ : ∃ n, n = l.length := ⟨_, rfl⟩
    rw [← hn] at h40 ⊢
    have HL := hide hn
    have HC : Hid (C = chk (-1) (l.drop 0)) := by rw [List.drop_zero]; exact hC
    clear hn hC
    have h40' : ¬ (40 : Int) < (n : Int) := by omega
    go_enter Tryz.func97, Tryz.ntmps97
    go_wp2
    go_loopw [10] (fun i wr => ∃ (k : Nat) (last : Int), k ≤ n ∧ i = .int .i64 k ∧ Hid (C = chk last (l.drop k)) ∧ Hid ((k = 0 ∧ last = -1) ∨ ∃ j y, k = j + 1 ∧ l[j]? = some (last, y)) ∧ Below w.heap.size w wr) (fun i _ => n - (intOf i).toNat)
    case atStart => exact ⟨0, -1, by omega, rfl, HC, hide (.inl ⟨rfl, rfl⟩), Below.refl _ _⟩
    case round =>
      obtain ⟨k, last, hk, rfl, HR, HK, bel⟩ := hrel
      clear HC
      by_cases hlt : k < n
      · have hs := hr.keep bel (Nat.le_refl _)
        obtain ⟨b, off, rfl, hbw⟩ := hs.where (by intro h; rw [HL.out, h] at hlt; simp at hlt)
        obtain ⟨x, y, e0, e1, hx, hd⟩ := hs.pt k (by rw [← HL.out]; exact hlt)
        have HX := hide hx
        have HR' : Hid (C = chk last ((x, y) :: l.drop (k + 1))) := by have := HR.out; rw [hd] at this; exact this
        clear HR hx hd
        have inr : ∀ W : World, (wr.alloc (.cells #[.int .i64 x, .int .i64 y] 125)) = W → Calls Tryz.prog 116 #[.agg #[.int .i64 x, .int .i64 y]] W fun e w1 => e = .returned (.bool (ptOk (x, y))) ∧ Below w.heap.size w w1 ∧ w1.cell? ⟨wr.heap.size, 0, none⟩ = some (.int .i64 x) ∧ SlP w1 (some ⟨b, off, none⟩) cap l := by
          rintro W rfl
          refine (inRange_any x y _).mono ?_
          rintro e w1 ⟨rfl, b1⟩
          refine ⟨rfl, belowCall (bel.alloc bel.size _) b1, ?_, (hs.alloc _).call b1⟩
          rw [b1.cell (p := ⟨wr.heap.size, 0, none⟩) (by simp), World.cell?_alloc_at (hn := rfl)]
          rfl
        cases hp : ptOk (x, y) with
        | false =>
          rw [hp] at inr
          go_wp2_with (go_at_call 116; refine (inr _ rfl).mono ?_; rintro e w1 ⟨rfl, b1, -, -⟩)
          go_ret
          refine ⟨ret_int ?_, b1⟩
          rw [HR'.out, chk, if_pos hp]
        | true =>
          rw [hp] at inr
          rcases HK.out with ⟨rfl, rfl⟩ | ⟨j, yy, rfl, hj⟩
          · clear HK
            rw [Nat.zero_mul, Nat.add_zero] at e0 e1
            go_wp2_with (go_at_call 116; refine (inr _ rfl).mono ?_; rintro e w1 ⟨rfl, b1, c1, s1⟩)
            go_region
            all_goals go_wp2
            all_goals go_roundw
            case rel =>
              refine ⟨1, x, by omega, by go_num, hide ?_, hide (.inr ⟨0, y, rfl, HX.out⟩), belowDrew b1⟩
              rw [HR'.out, chk, if_neg (by rw [hp]; decide), if_neg (by have := (ptOk_true hp).1; simp only at this ⊢; omega)]
            case measure => simp [intOf]; omega
          · clear HK
            have hj' := hide hj
            clear hj
            by_cases hle : x ≤ last
            · go_wp2_with (go_at_call 116; refine (inr _ rfl).mono ?_; rintro e w1 ⟨rfl, b1, c1, s1⟩)
              obtain ⟨x', y', e2, -, h2, -⟩ := s1.pt j (by rw [← HL.out]; omega)
              obtain rfl : last = x' := by rw [hj'.out] at h2; simpa using (Prod.ext_iff.1 (Option.some.inj h2)).1
              clear h2
              go_region
              all_goals go_wp2
              all_goals go_ret
              refine ⟨ret_int ?_, belowDrew b1⟩
              rw [HR'.out, chk, if_neg (by rw [hp]; decide), if_pos hle]
            · go_wp2_with (go_at_call 116; refine (inr _ rfl).mono ?_; rintro e w1 ⟨rfl, b1, c1, s1⟩)
              obtain ⟨x', y', e2, -, h2, -⟩ := s1.pt j (by rw [← HL.out]; omega)
              obtain rfl : last = x' := by rw [hj'.out] at h2; simpa using (Prod.ext_iff.1 (Option.some.inj h2)).1
              clear h2
              go_region
              all_goals go_wp2
              all_goals go_roundw
              case rel =>
                refine ⟨j + 1 + 1, x, by omega, by go_num, hide ?_, hide (.inr ⟨j + 1, y, rfl, HX.out⟩), belowDrew b1⟩
                rw [HR'.out, chk, if_neg (by rw [hp]; decide), if_neg (by simp only; omega)]
              case measure => simp [intOf]; omega
      · obtain rfl : k = n := by omega
        go_wp2_with fail
        go_ret
        refine ⟨ret_int ?_, bel⟩
        rw [HR.out, HL.out, List.drop_length, chk]

end Go.Proofs.YtabeihkfjlmepaaGreatDoor

/-
  note.Check: what is wrong with a record; note.numbersOf: the numbers of entries.
-/
namespace Go.Proofs.YtabeihkfjlmepaaGreatDoor
open Go.RowKit

def ec (x : Nt) : List Value := [.int .i64 x.1, .int .i64 x.2.1, .int .i64 x.2.2]
theorem ec_three (x : Nt) : (ec x).length = 3 := rfl

theorem nIsSeries_any (n : Int) (w : World) :
    Calls Tryz.prog 96 #[.int .i64 n] w fun e w' => e = .returned (.bool (decide (0 ≤ n ∧ n < 4))) ∧ w' = w := by
  by_cases h0 : 0 ≤ n
  · by_cases h1 : n < 4
    · rw [decide_eq_true (⟨h0, h1⟩ : 0 ≤ n ∧ n < 4)]
      go_enter Tryz.func96, Tryz.ntmps96
      go_wp2
      go_ret
      exact ⟨rfl, rfl⟩
    · rw [decide_eq_false (by omega : ¬ (0 ≤ n ∧ n < 4))]
      go_enter Tryz.func96, Tryz.ntmps96
      go_wp2
      go_ret
      exact ⟨rfl, rfl⟩
  · rw [decide_eq_false (by omega : ¬ (0 ≤ n ∧ n < 4))]
    go_enter Tryz.func96, Tryz.ntmps96
    go_wp2
    go_ret
    exact ⟨rfl, rfl⟩

theorem check_one (t v : Int) : checkE [(t, v)] = if 0 ≤ t ∧ t ≤ 100000 ∧ -1000000 ≤ v ∧ v ≤ 1000000 then 0 else 3 := by
  unfold checkE chk chk ptOk
  by_cases h : 0 ≤ t ∧ t ≤ 100000 ∧ -1000000 ≤ v ∧ v ≤ 1000000
  · rw [if_pos h, if_neg (by simp), if_neg (by simp; omega), if_neg (by simp; omega)]
  · rw [if_neg h, if_neg (by simp), if_pos (by simp; omega)]

theorem one_pt (w : World) (t v : Int) (T : TypeId) : SlP (w.alloc (.cells #[.int .i64 t, .int .i64 v] T)) (some ⟨w.heap.size, 0, none⟩) 1 [(t, v)] := by
  have B := Blk.laid w [.int .i64 t, .int .i64 v] T _ rfl
  refine ⟨.inr ⟨_, _, rfl, B.lt, fun j u hu => ?_⟩, by simp, by decide, fun h => by cases h⟩
  match j, hu with
  | 0, hu => simp [cellsP] at hu; subst hu; exact B.cell 0
  | 1, hu => simp [cellsP] at hu; subst hu; exact B.cell 1
  | j + 2, hu => simp [cellsP] at hu

theorem newB {w W : World} (h : Below w.heap.size w W) (o : Obj) : Below w.heap.size w (W.alloc o) := h.alloc h.size o

theorem check_pt (t v : Int) (w : World) (T : TypeId) :
    Calls Tryz.prog 97 #[.slice (some ⟨w.heap.size, 0, none⟩) 1 1] (w.alloc (.cells #[.int .i64 t, .int .i64 v] T)) fun e w' => e = .returned (.int .i64 (checkE [(t, v)])) ∧ Below w.heap.size w w' := by
  refine (check_any (some ⟨w.heap.size, 0, none⟩) 1 [(t, v)] _ (one_pt w t v T)).mono ?_
  rintro e w' ⟨rfl, b⟩
  exact ⟨rfl, belowCall (newB (Below.refl _ _) _) b⟩

set_option maxHeartbeats 1000000 in
set_option maxRecDepth 100000 in
theorem batchLoop (l : List Nt) (a : Option Addr) (cap n : Nat) (w : World) (S : SlW ec w a cap l) (hn : n = l.length) (few : n ≤ 10) :
    Calls Tryz.prog 64 #[.agg #[.int .i64 1, .int .i64 0, .int .i64 0, .slice a n cap]] w fun e w' => e = .returned (.int .i64 (if l.all ntOk then 0 else 3)) ∧ Below w.heap.size w w' := by
  obtain ⟨E, hE⟩ : ∃ E : Int, E = if l.all ntOk then 0 else 3 := ⟨_, rfl⟩
  rw [← hE]
  replace hE := hide hE
  replace hn := hide hn
  have bel : Below w.heap.size w (w.alloc (.cells #[.int .i64 1, .int .i64 0, .int .i64 0, .slice a n cap] 27)) := (Below.refl _ _).alloc (Nat.le_refl _) _
  have B0 := Blk.laid w [.int .i64 1, .int .i64 0, .int .i64 0, .slice a n cap] 27 _ rfl
  have few' : ¬ (10 : Int) < n := by omega
  go_enter Tryz.func64, Tryz.ntmps64
  go_wp2_with fail
  generalize w.alloc _ = w1 at *
  go_loopw [21] (fun i wr => ∃ (k : Nat), k ≤ n ∧ i = .int .i64 k ∧ Hid ((l.take k).all ntOk = true) ∧ Below w.heap.size w wr) (fun i _ => n - (intOf i).toNat)
  case atStart => exact ⟨0, Nat.zero_le _, rfl, hide (by simp), bel⟩
  case round =>
    clear bel
    obtain ⟨k, hk, rfl, hA, bel⟩ := hrel
    by_cases hlt : k < n
    · have hkl : k < l.length := by rw [← hn.out]; exact hlt
      obtain ⟨b1, o1, rfl, hb1l⟩ := S.where ec_three (by decide) (by intro h; subst h; simp at hkl)
      obtain ⟨x, hx⟩ : ∃ x, l[k]? = some x := ⟨_, List.getElem?_eq_getElem hkl⟩
      have s1 := S.keep bel (Nat.le_refl _)
      have d0 := s1.cell ec_three k 0 x _ hx rfl
      have d1 := s1.cell ec_three k 1 x _ hx rfl
      have d2 := s1.cell ec_three k 2 x _ hx rfl
      simp only [Nat.add_zero] at d0
      have hno : ntOk x = false → E = 3 := by
        intro h
        rw [hE.out, if_neg]
        intro hall
        have := List.all_eq_true.1 hall x (List.mem_of_getElem? hx)
        rw [h] at this
        cases this
      have hyes : ntOk x = true → Hid ((l.take (k + 1)).all ntOk = true) := by
        intro h
        rw [List.take_add_one, hx, List.all_append, hA.out]
        simpa [Hid] using h
      obtain ⟨xs, xt, xv⟩ := x
      simp only at *
      replace hx := hide hx
      clear s1 hkl
      by_cases hs : 0 ≤ xs ∧ xs < 4
      · have c1 := fun W => nIsSeries_any xs W
        rw [decide_eq_true hs] at c1
        have c2 := fun W => check_pt xt xv W 125
        by_cases hp : 0 ≤ xt ∧ xt ≤ 100000 ∧ -1000000 ≤ xv ∧ xv ≤ 1000000
        · have hok : ntOk (xs, xt, xv) = true := decide_eq_true ⟨hs.1, hs.2, hp⟩
          simp only [check_one, if_pos hp] at c2
          go_wp2_with fail
          go_at_call 96
          refine (c1 _).mono ?_
          rintro e w2 ⟨rfl, rfl⟩
          have BX := Blk.laid wr [.int .i64 xs, .int .i64 xt, .int .i64 xv] 68 _ rfl
          have bX := newB bel (.cells #[.int .i64 xs, .int .i64 xt, .int .i64 xv] 68)
          generalize wr.alloc _ = w2 at *
          have z1 : w2.cell? ⟨wr.heap.size, 1, none⟩ = some (.int .i64 xt) := BX.cell 1
          have z2 : w2.cell? ⟨wr.heap.size, 2, none⟩ = some (.int .i64 xv) := BX.cell 2
          have lX := BX.lt
          clear c1
          go_wp2_with fail
          go_at_call 97
          refine (c2 _).mono ?_
          rintro e w3 ⟨rfl, b3⟩
          have bel3 := belowCall bX b3
          go_wp2_with fail
          go_roundw
          case rel => exact ⟨k + 1, by omega, by go_num, hyes hok, bel3⟩
          case measure => simp [intOf]; omega
        · have hok : ntOk (xs, xt, xv) = false := decide_eq_false (by rintro ⟨_, _, h⟩; exact hp h)
          simp only [check_one, if_neg hp] at c2
          obtain rfl := hno hok
          go_wp2_with fail
          go_at_call 96
          refine (c1 _).mono ?_
          rintro e w2 ⟨rfl, rfl⟩
          have BX := Blk.laid wr [.int .i64 xs, .int .i64 xt, .int .i64 xv] 68 _ rfl
          have bX := newB bel (.cells #[.int .i64 xs, .int .i64 xt, .int .i64 xv] 68)
          generalize wr.alloc _ = w2 at *
          have z1 : w2.cell? ⟨wr.heap.size, 1, none⟩ = some (.int .i64 xt) := BX.cell 1
          have z2 : w2.cell? ⟨wr.heap.size, 2, none⟩ = some (.int .i64 xv) := BX.cell 2
          have lX := BX.lt
          clear c1
          go_wp2_with fail
          go_at_call 97
          refine (c2 _).mono ?_
          rintro e w3 ⟨rfl, b3⟩
          have bel3 := belowCall bX b3
          go_wp2_with fail
          go_ret
          exact ⟨rfl, bel3⟩
      · have c1 := fun W => nIsSeries_any xs W
        rw [decide_eq_false hs] at c1
        have hok : ntOk (xs, xt, xv) = false := decide_eq_false (by rintro ⟨h1, h2, _⟩; exact hs ⟨h1, h2⟩)
        obtain rfl := hno hok
        go_wp2_with fail
        go_at_call 96
        refine (c1 _).mono ?_
        rintro e w2 ⟨rfl, rfl⟩
        go_wp2_with fail
        go_ret
        exact ⟨rfl, newB bel _⟩
    · obtain rfl : n = k := by omega
      have e0 : E = 0 := by
        rw [hE.out, if_pos]
        have := hA.out
        rw [List.take_of_length_le (by rw [← hn.out]; exact Nat.le_refl _)] at this
        exact this
      subst e0
      go_wp2_with fail
      go_ret
      exact ⟨rfl, bel⟩

end Go.Proofs.YtabeihkfjlmepaaGreatDoor

/-
  How an argument that is a record, by value, is opened: three numbers and a slice of entries.
-/
namespace Go.Proofs.YtabeihkfjlmepaaGreatDoor
open Go.RowKit Go.ChangeShapes Go.WideShapes Go.ChangeAt Go.Joins

theorem cellsInt : Tryz.prog.cellsOf 3 = 1 := by kernel_rfl

theorem three_of {α : Type} {l : List α} (h : l.length = 3) : ∃ a b c, l = [a, b, c] := by
  match l, h with
  | [a, b, c], _ => exact ⟨a, b, c, rfl⟩

theorem rec_light {H : Type} {ts : List TypeId} {ds : List (DataW H)} {j : Nat} {t : TypeId} {d : DataW H} (hsz : (DataW.weightsEach Tryz.prog ts ds).all (· ≤ reachBytes) = true) (ht : ts[j]? = some t) (hd : ds[j]? = some d) : Light t d := by
  intro n hn
  have h := of_decide_eq_true (List.all_eq_true.1 hsz _ (DataW.weights_mem_each ht hd n hn))
  unfold reachBytes at h
  exact h

set_option maxRecDepth 100000 in
theorem open_nt {H : Type} {enc : TypeId × Value → H} {W : World} (cs : List Value) (x : DataW H × List MemPlace) (m : Nat) (hl : cs.length = 3) (h : DataW.trod enc Tryz.prog W 0 (fun _ => true) true m 68 cs = some x) (_ : Light 68 x.1) :
    ∃ y : Nt, cs = ec y ∧ True := by
  obtain ⟨c0, c1, c2, rfl⟩ := three_of hl
  obtain ⟨y0, y1, y2, n, rfl, _, h0, h1, h2⟩ := Go.Deep.trod_struct3 Tryz.underlying68 h
  simp only [cellsInt, List.drop_zero, List.drop_succ_cons, List.take_succ_cons, List.take_zero] at h0 h1 h2
  obtain ⟨a0, e0, rfl, w0⟩ := DataW.trod_int Tryz.underlying3 h0
  obtain ⟨a1, e1, rfl, w1⟩ := DataW.trod_int Tryz.underlying3 h1
  obtain ⟨a2, e2, rfl, w2⟩ := DataW.trod_int Tryz.underlying3 h2
  simp at e0 e1 e2
  subst e0 e1 e2
  exact ⟨(a0, a1, a2), rfl, trivial⟩

set_option maxRecDepth 100000 in
theorem cellsRec : Tryz.prog.cellsOf 27 = 4 := by kernel_rfl

set_option maxRecDepth 100000 in
theorem open_rec {H : Type} {enc : TypeId × Value → H} {W : World} {r : Reach} {b0 : Nat} {v : Value} {d : DataW H} {p : List MemPlace} (hv : Value.okWide Tryz.prog W r b0 27 v)
    (h : DataW.Trod enc Tryz.prog W 0 (fun _ => true) true 27 v d p) (hw : Light 27 d) :
    ∃ (q : Rc) (ao : Option Addr) (cap : Nat), v = .agg #[.int .i64 q.k, .int .i64 q.s, .int .i64 q.n, .slice ao q.e.length cap] ∧ SlW ec W ao cap q.e := by
  obtain ⟨c0, c1, c2, c3, y0, y1, y2, y3, m, rfl, rfl, rfl, h0, h1, h2, h3⟩ := open_agg4 Tryz.underlying27 (by kernel_rfl) cellsRec hv h
  obtain ⟨a0, e0, rfl, w0⟩ := DataW.trod_int Tryz.underlying3 h0
  obtain ⟨a1, e1, rfl, w1⟩ := DataW.trod_int Tryz.underlying3 h1
  obtain ⟨a2, e2, rfl, w2⟩ := DataW.trod_int Tryz.underlying3 h2
  obtain ⟨ao, n, cap, e3⟩ := slice_form Tryz.underlying25 h3
  simp at e0 e1 e2 e3
  subst e0 e1 e2 e3
  have hw3 : Light 25 y3.1 := by
    intro n hn
    refine hw n ?_
    simp [DataW.weights, DataW.weightsEach, Tryz.underlying27, hn]
  obtain ⟨l, hl, s, _, _⟩ := open_wide (ao := ao) (n := n) (cap := cap) ec (fun _ => True) Tryz.underlying25 (by kernel_rfl) (by decide) ec_three (fun cs x m => open_nt cs x m) (by simpa [Value.cells] using h3) hw3
  subst hl
  exact ⟨⟨a0, a1, a2, l⟩, ao, cap, rfl, s⟩

end Go.Proofs.YtabeihkfjlmepaaGreatDoor

/-
  Texts as numbers, as plain lists: what note.readNumbers says. No program is named.
-/
namespace Go.Proofs.YtabeihkfjlmepaaGreatDoor

/-- The number that a word writes, if it writes one as strconv.Itoa does. -/
def readNum (w : List UInt8) : Option Int :=
  match Lib.atoiAll w with
  | .ok v => if Lib.itoa v = w then some v else none
  | _ => none

def readNums : List (List UInt8) → Option (List Int)
  | [] => some []
  | w :: r => (readNum w).bind fun v => (readNums r).map (v :: ·)

theorem readNums_snoc (l : List (List UInt8)) (w : List UInt8) (vs : List Int) (h : readNums l = some vs) : readNums (l ++ [w]) = (readNum w).map fun v => vs ++ [v] := by
  induction l generalizing vs with
  | nil =>
    simp only [readNums, Option.some.injEq] at h
    subst h
    simp only [List.nil_append, readNums]
    cases readNum w <;> rfl
  | cons x r ih =>
    simp only [readNums] at h
    cases hx : readNum x with
    | none => rw [hx] at h; cases h
    | some v =>
      rw [hx] at h
      simp only [Option.bind_some] at h
      cases hr : readNums r with
      | none => rw [hr] at h; cases h
      | some vr =>
        rw [hr] at h
        simp only [Option.map_some, Option.some.injEq] at h
        subst h
        simp only [List.cons_append, readNums, hx, Option.bind_some, ih vr hr]
        cases readNum w <;> rfl

theorem readNums_bad (l : List (List UInt8)) (w : List UInt8) (r : List (List UInt8)) (h : readNum w = none) : readNums (l ++ w :: r) = none := by
  induction l with
  | nil => simp only [List.nil_append, readNums, h, Option.bind_none]
  | cons x q ih =>
    simp only [List.cons_append, readNums, ih]
    cases readNum x <;> rfl

theorem readNums_length : ∀ (l : List (List UInt8)) (vs : List Int), readNums l = some vs → vs.length = l.length
  | [], vs, h => by simp only [readNums, Option.some.injEq] at h; subst h; rfl
  | w :: r, vs, h => by
    simp only [readNums] at h
    cases hx : readNum w with
    | none => rw [hx] at h; cases h
    | some v =>
      rw [hx] at h
      simp only [Option.bind_some] at h
      cases hr : readNums r with
      | none => rw [hr] at h; cases h
      | some vr =>
        rw [hr] at h
        simp only [Option.map_some, Option.some.injEq] at h
        subst h
        simp [readNums_length r vr hr]

end Go.Proofs.YtabeihkfjlmepaaGreatDoor

/-
  note.numbersOf: the numbers of entries, in a row of the call's own.
-/
namespace Go.Proofs.YtabeihkfjlmepaaGreatDoor
open Go.RowKit

theorem infoI : (Tryz.prog.info? 3).map (fun i => (i.zero, i.size, i.bytes)) = some (some (.int .i64 0), 1, 8) := by kernel_rfl

theorem ntNums_length : ∀ l : List Nt, (ntNums l).length = l.length * 3
  | [] => rfl
  | x :: r => by
    have := ntNums_length r
    unfold ntNums at this ⊢
    rw [List.flatMap_cons, List.length_append, this]
    simp only [List.length_cons, List.length_nil]
    omega

set_option maxHeartbeats 1000000 in
set_option maxRecDepth 100000 in
theorem numbers_any (l : List Nt) (a : Option Addr) (cap n : Nat) (w : World) (S : SlW ec w a cap l) (hn : n = l.length) (few : n ≤ 10) :
    Calls Tryz.prog 49 #[.slice a n cap] w fun e w' => ∃ a' G, e = .returned (.slice a' (n * 3) G) ∧ w'.ownsRow w.heap.size 3 1 (.slice a' (n * 3) G) (n * 3) ((ntNums l).map (Value.int .i64)) ∧ Below w.heap.size w w' := by
  obtain ⟨i0, hi, hz0, hz1, hz2⟩ := info_parts infoI
  obtain ⟨c3, hc3⟩ : ∃ c3, c3 = n * 3 := ⟨_, rfl⟩
  obtain ⟨w1, hr, own, gr⟩ := run_make_own (P := Tryz.prog) w w.heap.size 85 3 i0 (.int .i64 0) 1 Tryz.underlying85 hi hz0 hz1 .i64 .i64 c3 (by rw [hz2]; omega) (by unfold maxLen; omega) (Nat.le_refl _)
  have bel : Below w.heap.size w w1 := (Below.refl _ _).grown gr (Nat.le_refl _) (fun k hk => by cases hk)
  have u3 : IntKind.i64.wrap (3 * (n : Int)) = (c3 : Int) := by rw [IntKind.wrap_i64]; omega
  replace hn := hide hn
  replace hc3 := hide hc3
  clear gr
  go_enter Tryz.func49, Tryz.ntmps49
  go_wp2_with fail
  go_loopw [12, 3] (fun i s3 wr => ∃ (k : Nat) (ao : Option Addr) (G k3 : Nat), k ≤ n ∧ i = .int .i64 k ∧ s3 = .slice ao k3 G ∧ k3 = k * 3 ∧ wr.ownsRow w.heap.size 3 1 (.slice ao k3 G) k3 ((ntNums (l.take k)).map (Value.int .i64)) ∧ Below w.heap.size w wr) (fun i _ _ => n - (intOf i).toNat)
  case atStart => exact ⟨0, _, _, 0, Nat.zero_le _, rfl, rfl, rfl, own, bel⟩
  case round =>
    clear own bel hr
    obtain ⟨k, ao, G, k3, hk, rfl, rfl, hk3, own, bel⟩ := hrel
    by_cases hlt : k < n
    · have hkl : k < l.length := by rw [← hn.out]; exact hlt
      obtain ⟨b1, o1, rfl, hb1l⟩ := S.where ec_three (by decide) (by intro h; subst h; simp at hkl)
      obtain ⟨x, hx⟩ : ∃ x, l[k]? = some x := ⟨_, List.getElem?_eq_getElem hkl⟩
      have s1 := S.keep bel (Nat.le_refl _)
      have d0 := s1.cell ec_three k 0 x _ hx rfl
      have d1 := s1.cell ec_three k 1 x _ hx rfl
      have d2 := s1.cell ec_three k 2 x _ hx rfl
      simp only [Nat.add_zero] at d0
      have hT : (ntNums (l.take k)).map (Value.int .i64) ++ (#[Value.int .i64 x.1, .int .i64 x.2.1, .int .i64 x.2.2] : Array Value).toList = (ntNums (l.take (k + 1))).map (Value.int .i64) := by
        rw [List.take_add_one, hx]
        unfold ntNums
        simp
      obtain ⟨xs, xt, xv⟩ := x
      simp only at *
      replace hx := hide hx
      generalize (ntNums (l.take k)).map (Value.int .i64) = X at *
      replace hT := hide hT
      replace hk3 := hide hk3
      clear s1 hkl
      have BX := Blk.laid wr [.int .i64 xs, .int .i64 xt, .int .i64 xv] 68 _ rfl
      have bX := newB bel (.cells #[.int .i64 xs, .int .i64 xt, .int .i64 xv] 68)
      have own2 := own.alloc (.cells #[.int .i64 xs, .int .i64 xt, .int .i64 xv] 68)
      have hk30 : k3 ≤ 30 := by rw [hk3.out]; omega
      go_upto_region 5 with fail
      generalize wr.alloc _ = w2 at *
      have z0 : w2.cell? ⟨wr.heap.size, 0, none⟩ = some (.int .i64 xs) := BX.cell 0
      have z1 : w2.cell? ⟨wr.heap.size, 1, none⟩ = some (.int .i64 xt) := BX.cell 1
      have z2 : w2.cell? ⟨wr.heap.size, 2, none⟩ = some (.int .i64 xv) := BX.cell 2
      have lX := BX.lt
      go_wp2_with (at_builtin; refine wpList_append_new w2 rfl (.tmp 16) (.tmp 23) 85 rfl w.heap.size 3 i0 _ 1 8 Tryz.underlying85 hi hz0 hz1 hz2 rfl (by decide) (.slice ao k3 G) k3 _ (by rfl) own2 3 #[.int .i64 xs, .int .i64 xt, .int .i64 xv] 3 (by rfl) (by rfl) (by simp [Value.oneCell']) (by decide) (by unfold maxLen; omega) (by omega) bX.size ?_)
      intro v7 w7 own7 grow7 went7
      have bel7 := belowGrown bX own2 grow7 (Nat.le_refl _) bX.size
      have own8 : w7.ownsRow w.heap.size 3 1 v7 (k3 + 3) ((ntNums (l.take (k + 1))).map (Value.int .i64)) := by rw [← hT.out]; exact own7
      obtain ⟨g7, G7, rfl⟩ : ∃ g7 G7, v7 = .slice (some ⟨g7, 0, none⟩) (k3 + 3) G7 := by
        rcases own8.2 with ⟨_, h⟩ | ⟨g, cap, cur, h, _⟩
        · omega
        · exact ⟨_, _, h⟩
      go_wp2_with fail
      go_roundw
      case rel => exact ⟨k + 1, some ⟨g7, 0, none⟩, G7, k3 + 3, by omega, by go_num, rfl, by rw [hk3.out, Nat.succ_mul], own8, bel7⟩
      case measure => simp [intOf]; omega
    · obtain rfl : n = k := by omega
      rw [List.take_of_length_le (by rw [← hn.out]; exact Nat.le_refl _)] at own
      subst hk3
      go_wp2_with fail
      go_ret
      exact ⟨_, _, rfl, own, bel⟩

end Go.Proofs.YtabeihkfjlmepaaGreatDoor

/-
  note.readNumbers: the numbers of words, or that one is none.
-/
namespace Go.Proofs.YtabeihkfjlmepaaGreatDoor
open Go.RowKit

def bytes (b : ByteArray) : List UInt8 := b.data.toList

theorem toList_loop (b : ByteArray) : ∀ (n i : Nat) (acc : List UInt8), b.size - i = n → ByteArray.toList.loop b i acc = acc.reverse ++ b.data.toList.drop i := by
  intro n
  induction n with
  | zero =>
    intro i acc h
    unfold ByteArray.toList.loop
    rw [if_neg (by omega)]
    have : b.data.toList.drop i = [] := List.drop_eq_nil_of_le (by show b.data.toList.length ≤ i; rw [Array.length_toList]; exact Nat.le_of_sub_eq_zero h)
    rw [this]; simp
  | succ n ih =>
    intro i acc h
    unfold ByteArray.toList.loop
    have hi : i < b.size := by omega
    rw [if_pos hi, ih (i + 1) _ (by omega)]
    have hl : i < b.data.toList.length := by rw [Array.length_toList]; exact hi
    rw [List.drop_eq_getElem_cons hl]
    have : b.get! i = b.data.toList[i] := by
      show b.data[i]! = _
      rw [getElem!_pos b.data i hi]; rfl
    simp [this]
theorem toList_bytes (b : ByteArray) : b.toList = bytes b := by
  unfold ByteArray.toList bytes
  rw [toList_loop b _ 0 [] rfl]; simp

theorem bytes_eq {l : List UInt8} {b : ByteArray} : (⟨l.toArray⟩ : ByteArray) = b ↔ l = bytes b := by
  constructor
  · rintro rfl; simp [bytes]
  · rintro rfl; simp [bytes]

set_option maxHeartbeats 1000000 in
set_option maxRecDepth 100000 in
theorem readNumbers_any (ws : List ByteArray) (a : Option Addr) (cap n : Nat) (w : World) (hg : Gl w) (S : Sl w a cap (ws.map Value.string)) (hn : n = ws.length) (few : n ≤ 100000) (hsz : ∀ b ∈ ws, b.size ≤ 100000) :
    Calls Tryz.prog 106 #[.slice a n cap] w fun e w' => ((∃ vs a' G, readNums (ws.map bytes) = some vs ∧ e = .returned (.tuple #[.slice a' n G, .bool true]) ∧ w'.ownsRow w.heap.size 3 1 (.slice a' n G) n (vs.map (Value.int .i64))) ∨ (readNums (ws.map bytes) = none ∧ e = .returned (.tuple #[.slice none 0 0, .bool false]))) ∧ Below w.heap.size w w' := by
  obtain ⟨i0, hi, hz0, hz1, hz2⟩ := info_parts infoI
  obtain ⟨w1, hr, own, gr⟩ := run_make_own (P := Tryz.prog) w w.heap.size 85 3 i0 (.int .i64 0) 1 Tryz.underlying85 hi hz0 hz1 .i64 .i64 n (by rw [hz2]; omega) (by unfold maxLen; omega) (Nat.le_refl _)
  have bel : Below w.heap.size w w1 := (Below.refl _ _).grown gr (Nat.le_refl _) (fun k hk => by cases hk)
  obtain ⟨R, hR⟩ : ∃ R, R = readNums (ws.map bytes) := ⟨_, rfl⟩
  rw [← hR]
  replace hR := hide hR
  replace hn := hide hn
  replace hsz := hide hsz
  clear gr
  go_enter Tryz.func106, Tryz.ntmps106
  go_wp2_with fail
  go_loopw [14, 4] (fun i s4 wr => ∃ (k : Nat) (ao : Option Addr) (G : Nat) (vs : List Int), k ≤ n ∧ i = .int .i64 k ∧ s4 = .slice ao k G ∧ Hid (readNums ((ws.take k).map bytes) = some vs) ∧ wr.ownsRow w.heap.size 3 1 (.slice ao k G) k (vs.map (Value.int .i64)) ∧ Below w.heap.size w wr) (fun i _ _ => n - (intOf i).toNat)
  case atStart => exact ⟨0, _, _, [], Nat.zero_le _, rfl, rfl, hide rfl, own, bel⟩
  case round =>
    clear own bel hr
    obtain ⟨k, ao, G, vs, hk, rfl, rfl, hv, own, bel⟩ := hrel
    by_cases hlt : k < n
    · have hkl : k < ws.length := by rw [← hn.out]; exact hlt
      obtain ⟨x, hx⟩ : ∃ x, ws[k]? = some x := ⟨_, List.getElem?_eq_getElem hkl⟩
      have S1 := S.keep bel (Nat.le_refl _)
      obtain ⟨b1, o1, rfl, -, hc⟩ := S1.row.at (by intro h; have := congrArg List.length h; simp at this; subst this; simp at hkl)
      have d0 : wr.cell? ⟨b1, o1 + k, none⟩ = some (.string x) := hc k _ (by rw [List.getElem?_map, hx]; rfl)
      have hxs := hsz.out x (List.mem_of_getElem? hx)
      have g1 := hg.call bel
      have hbad : readNum (bytes x) = none → R = none := by
        intro h
        rw [hR.out]
        have e : ws = ws.take k ++ x :: ws.drop (k + 1) := by
          obtain ⟨hk', rfl⟩ := List.getElem?_eq_some_iff.1 hx
          rw [← List.drop_eq_getElem_cons hk', List.take_append_drop]
        rw [e, List.map_append, List.map_cons]
        exact readNums_bad _ _ _ h
      have hgood : ∀ v, readNum (bytes x) = some v → Hid (readNums ((ws.take (k + 1)).map bytes) = some (vs ++ [v])) := by
        intro v h
        rw [List.take_add_one, hx, List.map_append]
        simp only [Option.toList_some, List.map_cons, List.map_nil]
        rw [readNums_snoc _ _ _ hv.out, h]
        exact hide rfl
      replace hx := hide hx
      clear S1 hc hkl
      cases hat : Lib.atoiAll x.data.toList with
      | «syntax» =>
        obtain ⟨te, pe, he⟩ := g1.syn
        have hRn := hide (hbad (by unfold readNum bytes; rw [hat]))
        replace hat := hide hat
        go_wp2_with fail
        go_at_call 128
        refine (Tryz.strconv_Atoi_syntax x (by omega) hat.out _ _ he (.inr ⟨_, _, rfl⟩)).mono ?_
        rintro e w2 ⟨N, rfl, -, -, b2⟩
        go_wp2_with fail
        go_ret2
        exact ⟨.inr ⟨hRn.out, rfl⟩, belowCall bel b2⟩
      | range =>
        obtain ⟨te, pe, he⟩ := g1.rng
        have hRn := hide (hbad (by unfold readNum bytes; rw [hat]))
        replace hat := hide hat
        go_wp2_with fail
        go_at_call 128
        refine (Tryz.strconv_Atoi_range x (by omega) hat.out _ _ he (.inr ⟨_, _, rfl⟩)).mono ?_
        rintro e w2 ⟨N, rfl, -, -, b2⟩
        go_wp2_with fail
        go_ret2
        exact ⟨.inr ⟨hRn.out, rfl⟩, belowCall bel b2⟩
      | ok v =>
        obtain ⟨v0, v1⟩ := Lib.atoiAll_bounds hat
        have hrd : readNum (bytes x) = if Lib.itoa v = bytes x then some v else none := by unfold readNum bytes; rw [hat]
        replace hat := hide hat
        go_wp2_with fail
        go_at_call 128
        refine (Tryz.strconv_Atoi_ok x (by omega) v hat.out _).mono ?_
        rintro e w2 ⟨rfl, hw2⟩
        have b2 : Below wr.heap.size wr w2 := by
          rcases hw2 with rfl | ⟨t, rfl⟩
          · exact Below.refl _ _
          · exact Lib.bytesWorld_below _ _ _
        have bel2 := belowCall bel b2
        have own2 := ownCall own b2
        have g2 := g1.call b2
        clear hw2 b2
        go_wp2_with fail
        go_at_call 57
        refine (Tryz.strconv_Itoa v v0 v1 _ g2.tab).mono ?_
        rintro e w3 ⟨rfl, q, os, hw3⟩
        have b3 : Below w2.heap.size w2 w3 := by rw [hw3]; exact Lib.below_grow _ _ (Nat.le_refl _) _ _
        have bel3 := belowCall bel2 b3
        have own3 := ownCall own2 b3
        clear hw3 b3 bel2 own2 g2
        by_cases heq : (⟨(Lib.itoa v).toArray⟩ : ByteArray) = x
        · have hgv := hgood v (by rw [hrd, if_pos (bytes_eq.1 heq)])
          clear hrd hbad hgood
          go_wp2_with (at_builtin; refine wpList_append_new w3 rfl (.tmp 31) (.tmp 33) 85 rfl w.heap.size 3 i0 _ 1 8 Tryz.underlying85 hi hz0 hz1 hz2 rfl (by decide) (.slice ao k G) k _ (by rfl) own3 1 #[.int .i64 v] 3 (by rfl) (by rfl) (by simp [Value.oneCell']) (by decide) (by unfold maxLen; omega) (by omega) bel3.size ?_)
          intro v7 w7 own7 grow7 went7
          have bel7 := belowGrown bel3 own3 grow7 (Nat.le_refl _) bel3.size
          have own8 : w7.ownsRow w.heap.size 3 1 v7 (k + 1) ((vs ++ [v]).map (Value.int .i64)) := by rw [List.map_append]; exact own7
          obtain ⟨g7, G7, rfl⟩ : ∃ g7 G7, v7 = .slice (some ⟨g7, 0, none⟩) (k + 1) G7 := by
            rcases own8.2 with ⟨_, h⟩ | ⟨g, cap, cur, h, _⟩
            · omega
            · exact ⟨_, _, h⟩
          go_wp2_with fail
          go_roundw
          case rel => exact ⟨k + 1, some ⟨g7, 0, none⟩, G7, vs ++ [v], by omega, by go_num, rfl, hgv, own8, bel7⟩
          case measure => simp [intOf]; omega
        · have hRn := hide (hbad (by rw [hrd, if_neg (fun h => heq (bytes_eq.2 h))]))
          have hne : (Lib.itoa v == x.toList) = false := by
            rw [beq_eq_false_iff_ne]
            intro h
            exact heq (bytes_eq.2 (by rw [h]; exact toList_bytes x))
          clear hrd hbad hgood
          go_wp2_with fail
          go_ret2
          exact ⟨.inr ⟨hRn.out, rfl⟩, bel3⟩
    · obtain rfl : n = k := by omega
      have hRs : Hid (R = some vs) := by
        rw [hR.out]
        have := hv.out
        rw [List.take_of_length_le (by rw [← hn.out]; exact Nat.le_refl _)] at this
        exact this
      go_wp2_with fail
      go_ret2
      exact ⟨.inl ⟨vs, _, _, hRs.out, rfl, own⟩, bel⟩

end Go.Proofs.YtabeihkfjlmepaaGreatDoor
