/-
  The contract of shelf.Same over shelves as plain lists.
-/
import Derived.Test.YtabeihkfjlmepaaGreatDoorRows
import Derived.Test.YtabeihkfjlmepaaGreatDoorCards
import Derived.Test.YtabeihkfjlmepaaGreatDoorTie
import Derived.ProofKit
import Derived.ChangeMaps5
import Derived.LaidMore
import Derived.Stop.Joined
import Derived.SevenTiedAt
import Derived.Test.YtabeihkfjlmepaaGreatDoorP33
import Derived.Test.YtabeihkfjlmepaaGreatDoorHSSame
import Derived.Test.YtabeihkfjlmepaaGreatDoorP13
import Derived.Test.YtabeihkfjlmepaaGreatDoorP07
import Derived.Test.YtabeihkfjlmepaaGreatDoorP01
import Derived.Test.YtabeihkfjlmepaaGreatDoorP20
import Derived.Test.YtabeihkfjlmepaaGreatDoorP34
import Derived.Test.YtabeihkfjlmepaaGreatDoorP14
import Derived.Test.YtabeihkfjlmepaaGreatDoorP16
namespace Go.Proofs.YtabeihkfjlmepaaGreatDoor
open Go.RowKit

theorem shSame_is {C D : List Rw} {a b : Option Addr} {G H : Nat} {W : World} (h : IsS W a G C) (k : IsS W b H D) (hl : C.length ≤ 140737488355328) :
    Calls Tryz.prog 23 #[.agg #[.slice a C.length G], .agg #[.slice b D.length H]] W fun e w' => e = .returned (.bool (sameSh C D)) ∧ Below W.heap.size W w' := by
  obtain ⟨rs, rfl, s⟩ := h.ex
  obtain ⟨qs, rfl, t⟩ := k.ex
  rw [List.length_map] at hl
  rw [List.length_map, List.length_map]
  exact sSame_any rs qs a b G H W s t hl

end Go.Proofs.YtabeihkfjlmepaaGreatDoor

/-
  note.Same: whether two records are alike.
-/
namespace Go.Proofs.YtabeihkfjlmepaaGreatDoor
open Go.RowKit

set_option maxHeartbeats 1000000 in
set_option maxRecDepth 100000 in
theorem same_is (r q : Rc) (a1 a2 : Option Addr) (c1 c2 n1 n2 : Nat) (w : World) (s1 : SlW ec w a1 c1 r.e) (s2 : SlW ec w a2 c2 q.e) (hn1 : n1 = r.e.length) (hn2 : n2 = q.e.length) :
    Calls Tryz.prog 24 #[.agg #[.int .i64 r.k, .int .i64 r.s, .int .i64 r.n, .slice a1 n1 c1], .agg #[.int .i64 q.k, .int .i64 q.s, .int .i64 q.n, .slice a2 n2 c2]] w fun e w' => e = .returned (.bool (decide (r.k = q.k ∧ r.s = q.s ∧ r.n = q.n ∧ r.e = q.e))) ∧ Below w.heap.size w w' := by
  obtain ⟨k, s, m, l⟩ := r
  obtain ⟨k', s', m', l'⟩ := q
  simp only at *
  have S1 := (s1.alloc (.cells #[.int .i64 k, .int .i64 s, .int .i64 m, .slice a1 n1 c1] 27)).alloc (.cells #[.int .i64 k', .int .i64 s', .int .i64 m', .slice a2 n2 c2] 27)
  have S2 := (s2.alloc (.cells #[.int .i64 k, .int .i64 s, .int .i64 m, .slice a1 n1 c1] 27)).alloc (.cells #[.int .i64 k', .int .i64 s', .int .i64 m', .slice a2 n2 c2] 27)
  have bel := newB (newB (Below.refl w.heap.size w) (.cells #[.int .i64 k, .int .i64 s, .int .i64 m, .slice a1 n1 c1] 27)) (.cells #[.int .i64 k', .int .i64 s', .int .i64 m', .slice a2 n2 c2] 27)
  have cE := fun W h1 h2 => equalE a1 a2 c1 c2 n1 n2 l l' W h1 h2 hn1 hn2
  obtain ⟨D, hD⟩ : ∃ D, D = decide (l = l') := ⟨_, rfl⟩
  rw [← hD] at cE
  obtain ⟨R, hR⟩ : ∃ R, R = decide (k = k' ∧ s = s' ∧ m = m' ∧ l = l') := ⟨_, rfl⟩
  rw [← hR]
  replace hn1 := hide hn1
  replace hn2 := hide hn2
  by_cases h0 : k = k'
  · by_cases h1 : s = s'
    · by_cases h2 : m = m'
      · obtain rfl : R = D := by rw [hR, hD]; simp [h0, h1, h2]
        subst h0
        subst h1
        subst h2
        clear hD hR
        go_enter Tryz.func24, Tryz.ntmps24
        go_wp2_with fail
        go_at_call 36
        refine (cE _ S1 S2).mono ?_
        rintro e w2 ⟨rfl, b2⟩
        go_wp2_with fail
        go_ret
        exact ⟨by simp, belowCall bel b2⟩
      · obtain rfl : R = false := by rw [hR]; simp [h2]
        subst h0
        subst h1
        have d : decide (m = m') = false := decide_eq_false h2
        clear hD hR
        go_enter Tryz.func24, Tryz.ntmps24
        go_wp2_with fail
        go_ret
        exact ⟨rfl, bel⟩
    · obtain rfl : R = false := by rw [hR]; simp [h1]
      subst h0
      have d : decide (s = s') = false := decide_eq_false h1
      clear hD hR
      go_enter Tryz.func24, Tryz.ntmps24
      go_wp2_with fail
      go_ret
      exact ⟨rfl, bel⟩
  · obtain rfl : R = false := by rw [hR]; simp [h0]
    have d : decide (k = k') = false := decide_eq_false h0
    clear hD hR
    go_enter Tryz.func24, Tryz.ntmps24
    go_wp2_with fail
    go_ret
    exact ⟨rfl, bel⟩

end Go.Proofs.YtabeihkfjlmepaaGreatDoor

/-
  slices.EqualFunc at records, with the program's note.Same.
-/
namespace Go.Proofs.YtabeihkfjlmepaaGreatDoor
open Go.RowKit

set_option maxHeartbeats 1000000 in
set_option maxRecDepth 100000 in
theorem eqFuncN (xs ys : List Lrc) (a1 a2 : Option Addr) (c1 c2 n1 n2 : Nat) (w : World) (r1 : SlRec w a1 c1 xs) (r2 : SlRec w a2 c2 ys) (hn1 : n1 = xs.length) (hn2 : n2 = ys.length) :
    Calls Tryz.prog 17 #[.slice a1 n1 c1, .slice a2 n2 c2, .func (.func 24) #[] #[]] w (AnsB (xs.map (·.r) = ys.map (·.r)) w) := by
  have hl : n1 ≤ 9223372036854775807 := by have := r1.row.le; have := r1.row.max; omega
  by_cases hnm : n1 = n2
  · subst hnm
    replace hn1 := hide hn1
    replace hn2 := hide hn2
    go_enter Tryz.func17, Tryz.ntmps17
    go_wp2_with fail
    go_loopw [17] (fun i wr => ∃ (k : Nat), k ≤ n1 ∧ i = .int .i64 k ∧ Below w.heap.size w wr ∧ Hid ((xs.take k).map (·.r) = (ys.take k).map (·.r))) (fun i _ => n1 - (intOf i).toNat)
    case atStart => exact ⟨0, Nat.zero_le _, rfl, Below.refl _ _, hide (by simp)⟩
    case round =>
      obtain ⟨k, hk, rfl, bel, hA⟩ := hrel
      by_cases hlt : k < n1
      · have hk1 : k < xs.length := by rw [← hn1.out]; exact hlt
        have hk2 : k < ys.length := by rw [← hn2.out]; exact hlt
        obtain ⟨b1, o1, rfl, hb1⟩ := r1.row.where Lrc.four (by decide) (by intro h; subst h; simp at hk1)
        obtain ⟨b2, o2, rfl, hb2⟩ := r2.row.where Lrc.four (by decide) (by intro h; subst h; simp at hk2)
        obtain ⟨x, hx⟩ : ∃ x, xs[k]? = some x := ⟨_, List.getElem?_eq_getElem hk1⟩
        obtain ⟨y, hy⟩ : ∃ y, ys[k]? = some y := ⟨_, List.getElem?_eq_getElem hk2⟩
        have s1 := r1.row.keep bel (Nat.le_refl _)
        have s2 := r2.row.keep bel (Nat.le_refl _)
        have d0 := s1.cell Lrc.four k 0 x _ hx rfl
        have d1 := s1.cell Lrc.four k 1 x _ hx rfl
        have d2 := s1.cell Lrc.four k 2 x _ hx rfl
        have d3 := s1.cell Lrc.four k 3 x _ hx rfl
        simp only [Nat.add_zero] at d0
        have hnx := (r1.ent x (List.mem_of_getElem? hx)).keep bel (Nat.le_refl _)
        have hny := (r2.ent y (List.mem_of_getElem? hy)).keep bel (Nat.le_refl _)
        have hyes : x.r = y.r → Hid ((xs.take (k + 1)).map (·.r) = (ys.take (k + 1)).map (·.r)) := by
          intro h
          have := hA.out
          rw [List.take_add_one, List.take_add_one, hx, hy, List.map_append, List.map_append, this]
          simp [h, Hid]
        have hno : x.r ≠ y.r → ¬ xs.map (·.r) = ys.map (·.r) := by
          intro h e
          refine h ?_
          have h1 : (xs.map (·.r))[k]? = some x.r := by rw [List.getElem?_map, hx]; rfl
          have h2 : (ys.map (·.r))[k]? = some y.r := by rw [List.getElem?_map, hy]; rfl
          rw [e, h2] at h1
          exact (Option.some.inj h1).symm
        have cS := fun W h1 h2 => same_is x.r y.r x.a y.a x.c y.c x.r.e.length y.r.e.length W h1 h2 rfl rfl
        have e0 : wr.cell? ⟨b2, o2 + k * 4, none⟩ = some (.int .i64 y.r.k) := by have := s2.cell Lrc.four k 0 y _ hy rfl; simpa using this
        have e1 := s2.cell Lrc.four k 1 y _ hy rfl
        have e2 := s2.cell Lrc.four k 2 y _ hy rfl
        have e3 := s2.cell Lrc.four k 3 y _ hy rfl
        replace hx := hide hx
        replace hy := hide hy
        have lb1 := Nat.lt_of_lt_of_le hb1 bel.size
        have lb2 := Nat.lt_of_lt_of_le hb2 bel.size
        clear s1 s2 hk1 hk2
        generalize hD : decide (x.r.k = y.r.k ∧ x.r.s = y.r.s ∧ x.r.n = y.r.n ∧ x.r.e = y.r.e) = D at *
        have hDt : x.r = y.r → D = true := fun h => by rw [← hD]; exact decide_eq_true ((rc_eta _ _).2 h)
        have hDf : x.r ≠ y.r → D = false := fun h => by rw [← hD]; exact decide_eq_false (fun h' => h ((rc_eta _ _).1 h'))
        clear hD
        obtain ⟨X1, hX1⟩ : ∃ X1 : List Value, X1 = [.int .i64 x.r.k, .int .i64 x.r.s, .int .i64 x.r.n, .slice x.a x.r.e.length x.c] := ⟨_, rfl⟩
        have BX := (Blk.laid wr [.int .i64 x.r.k, .int .i64 x.r.s, .int .i64 x.r.n, .slice x.a x.r.e.length x.c] 27 _ rfl).keep (newB (Below.refl _ _) (.cells #[.int .i64 y.r.k, .int .i64 y.r.s, .int .i64 y.r.n, .slice y.a y.r.e.length y.c] 27)) (by simp)
        have BY := Blk.laid (wr.alloc (.cells #[.int .i64 x.r.k, .int .i64 x.r.s, .int .i64 x.r.n, .slice x.a x.r.e.length x.c] 27)) [.int .i64 y.r.k, .int .i64 y.r.s, .int .i64 y.r.n, .slice y.a y.r.e.length y.c] 27 (wr.heap.size + 1) (by simp)
        have bq := newB (newB (Below.refl wr.heap.size wr) (.cells #[.int .i64 x.r.k, .int .i64 x.r.s, .int .i64 x.r.n, .slice x.a x.r.e.length x.c] 27)) (.cells #[.int .i64 y.r.k, .int .i64 y.r.s, .int .i64 y.r.n, .slice y.a y.r.e.length y.c] 27)
        have hnx' := hnx.call bq
        have hny' := hny.call bq
        have bel2 := belowCall bel bq
        clear hX1
        go_upto_region 7 with fail
        generalize World.alloc (World.alloc wr _) _ = w3 at *
        have y0 := BX.cell 0
        have y1 := BX.cell 1
        have y2 := BX.cell 2
        have y3 := BX.cell 3
        have z0 := BY.cell 0
        have z1 := BY.cell 1
        have z2 := BY.cell 2
        have z3 := BY.cell 3
        have lX := BX.lt
        have lY := BY.lt
        go_wp2_with fail
        go_at_call 24
        refine (cS _ hnx' hny').mono ?_
        rintro e w4 ⟨rfl, b4⟩
        have bel4 := belowCall bel2 b4
        by_cases hxy : x.r = y.r
        · obtain rfl := hDt hxy
          have hY := hyes hxy
          clear hDt hDf hyes hno
          go_wp2_with fail
          go_roundw
          case rel => exact ⟨k + 1, hlt, by go_num, bel4, hY⟩
          case measure => simp [intOf]; omega
        · obtain rfl := hDf hxy
          have hN := hide (hno hxy)
          clear hDt hDf hyes hno
          go_wp2_with fail
          go_ret
          exact ⟨false, rfl, ⟨fun h => Bool.noConfusion h, fun h => absurd h hN.out⟩, bel4⟩
      · obtain rfl : n1 = k := by omega
        have hT : Hid (xs.map (·.r) = ys.map (·.r)) := by
          have := hA.out
          rw [List.take_of_length_le (by rw [← hn1.out]; exact Nat.le_refl _), List.take_of_length_le (by rw [← hn2.out]; exact Nat.le_refl _)] at this
          exact this
        go_wp2_with fail
        go_ret
        exact ⟨true, rfl, ⟨fun _ => hT.out, fun _ => rfl⟩, bel⟩
  · have hne : Hid (¬ xs.map (·.r) = ys.map (·.r)) := by
      intro h
      have := congrArg List.length h
      rw [List.length_map, List.length_map] at this
      exact hnm (hn1.trans (this.trans hn2.symm))
    replace hn1 := hide hn1
    replace hn2 := hide hn2
    have hnm' : ¬ (n1 : Int) = n2 := by omega
    go_enter Tryz.func17, Tryz.ntmps17
    go_wp2_with fail
    go_ret
    exact ⟨false, rfl, ⟨fun h => Bool.noConfusion h, fun h => absurd h hne.out⟩, Below.refl _ _⟩

end Go.Proofs.YtabeihkfjlmepaaGreatDoor

/-
  'at' of the laws: a number brought within bounds; it touches no memory.
-/
namespace Go.Proofs.YtabeihkfjlmepaaGreatDoor
open Go.RowKit

/-- 'at': a number brought within bounds. -/
theorem at_any (k n : Int) (w : World) (hn : 1 ≤ n) (hn2 : n ≤ 1152921504606846976) :
    Calls Tryz.prog 21 #[.int .i64 k, .int .i64 n] w fun e w' => e = .returned (.int .i64 (k % n)) ∧ w = w' := by
  go_enter Tryz.func21, Tryz.ntmps21
  go_wp2
  · have h : k.tmod n < 0 := by assumption
    go_ret
    have e := tmod_up' hn h
    have b1 := Int.emod_nonneg k (show n ≠ 0 by omega)
    have b2 := Int.emod_lt_of_pos k (show 0 < n by omega)
    exact ⟨ret_int (by rw [e]; unfold wrap64; omega), rfl⟩
  · have h : 0 ≤ k.tmod n := by assumption
    go_ret
    exact ⟨ret_int (tmod_up hn h), rfl⟩

end Go.Proofs.YtabeihkfjlmepaaGreatDoor

/-
  StoreParts: the walk.
-/
namespace Go.Proofs.YtabeihkfjlmepaaGreatDoor.storeParts
open Go.RowKit
open Go.Lib (byteCells)
set_option linter.unusedVariables false

/-- A shelf in a box. -/
structure BxS (W : World) (g : Nat) (a : Option Addr) (n G : Nat) (C : List Rw) : Prop where
  blk : Blk W g [.slice a n G] 46
  is : IsS W a G C

theorem BxS.keep {W W' : World} {g B : Nat} {a : Option Addr} {n G : Nat} {C : List Rw} (h : BxS W g a n G C) (b : Below B W W') (hB : W.heap.size ≤ B) : BxS W' g a n G C := ⟨h.blk.keep b (Nat.lt_of_lt_of_le h.blk.lt hB), h.is.keep b hB⟩
theorem BxS.call {W W' : World} {g : Nat} {a : Option Addr} {n G : Nat} {C : List Rw} (h : BxS W g a n G C) (b : Below W.heap.size W W') : BxS W' g a n G C := h.keep b (Nat.le_refl _)

def LaidS (W : World) (D : List Rw) (dn : Nat) (E : Int) (e : Ending) (w' : World) : Prop :=
  ∃ a' G', e = .returned (.tuple #[.agg #[.slice a' dn G'], .int .i64 E]) ∧ BxS (w'.alloc (.cells #[.slice a' dn G'] 46)) w'.heap.size a' dn G' D ∧ Below W.heap.size W (w'.alloc (.cells #[.slice a' dn G'] 46)) ∧ W.heap.size ≤ w'.heap.size

theorem mk_laid {E : Int} {D : List Rw} {dn : Nat} {W : World} {e : Ending} {w' : World} (h : Mk E D dn W e w') : LaidS W D dn E e w' := by
  obtain ⟨a', G', he, I, b⟩ := h
  exact ⟨a', G', he, ⟨Blk.laid w' [.slice a' dn G'] _ _ rfl, I.alloc _⟩, newB b _, b.size⟩

theorem front {W : World} {a : Option Addr} {c : Nat} {l : List Lrc} (h : SlRec W a c l) (k : Nat) : SlRec W a c (l.take k) := ⟨h.row.front Lrc.four k, fun x hx => h.ent x (List.mem_of_mem_take hx)⟩

theorem wraps (m : Nat) (h : m ≤ 60) : wrap64 ((m : Int) + 1) = (m : Int) + 1 ∧ IntKind.i64.wrap ((m : Int) + 1) = (m : Int) + 1 :=
  ⟨by unfold wrap64; omega, by rw [IntKind.wrap_i64]; omega⟩

set_option maxHeartbeats 8000000 in
set_option maxRecDepth 100000 in
theorem walk (w : World) (hg : Gl w) (l : List Lrc) (la : Option Addr) (lc ln : Nat) (SL : SlRec w la lc l) (hln : ln = l.length) (n : Int) :
    Calls Tryz.prog 4 #[.slice la ln lc, .int .i64 n] w fun e w' => e = .returned (.bool true) ∧ Below w.heap.size w w' := by
  obtain ⟨dn, hdn⟩ : ∃ d, Hid (d = (replL (l.map (·.r))).length) := ⟨_, hide rfl⟩
  have cR := fun W S => replay_any l la ln lc dn W S (hide hln) hdn
  obtain ⟨R, hR⟩ : ∃ R, R = l.map (·.r) := ⟨_, rfl⟩
  rw [← hR] at hdn cR
  have hxR : ∀ (k : Nat) (x : Lrc), l[k]? = some x → R[k]? = some x.r := by
    intro k x hx
    rw [hR, List.getElem?_map, hx]
    rfl
  have hRl : R.length = ln := by rw [hR, List.length_map, hln]
  have hlc : ln ≤ lc := by rw [hln]; exact SL.row.le
  have hlm : lc ≤ 9223372036854775807 := SL.row.max
  generalize hE : replE R = E at *
  generalize hC : replL R = C at *
  replace hE := hide hE
  replace hC := hide hC
  replace hR := hide hR
  replace hRl := hide hRl
  replace hln := hide hln
  go_enter Tryz.func4, Tryz.ntmps4
  go_wp2_with fail
  go_at_call 19
  refine ((cR _ SL).mono fun _ _ h => mk_laid h).mono ?_
  rintro e w1 ⟨aW, GW, rfl, BW, bel, _⟩
  clear cR
  go_upto_region 2 with fail
  generalize w1.heap.size = gW at *
  generalize World.alloc w1 _ = v1 at *
  go_wp2_with fail
  go_at_call 20
  refine (stored_any _).mono ?_
  rintro e w2 ⟨rfl, b2⟩
  replace BW := BW.call b2
  replace bel := belowCall bel b2
  clear b2
  by_cases hz : E = 0
  · subst hz
    have h60 : ¬ 60 < R.length := by
      intro h
      have := hE.out
      unfold replE at this
      rw [if_pos h] at this
      cases this
    have e1 : replE R = (workAll newS R).2 := if_neg h60
    have e2 : replL R = (workAll newS R).1 := if_neg h60
    have hW0 : (workAll newS R).2 = 0 := by rw [← e1]; exact hE.out
    have hWC : (workAll newS R).1 = C := by rw [← e2]; exact hC.out
    have hrecs := work_recs R newS hW0
    have hright : shelfE C = 0 := by rw [← hWC]; exact workAll_right R newS fresh_right hW0
    obtain rfl : dn = 4 := by rw [hdn.out]; exact right_len hright
    have h4 := hide (right_len hright)
    have hln60 : ln ≤ 60 := by rw [← hRl.out]; omega
    obtain ⟨K, hK⟩ : ∃ K : Nat, n % ((ln : Int) + 1) = (K : Int) := ⟨(n % ((ln : Int) + 1)).toNat, (Int.toNat_of_nonneg (Int.emod_nonneg _ (by omega))).symm⟩
    have hKn : K ≤ ln := by have := Int.emod_lt_of_pos n (show 0 < (ln : Int) + 1 by omega); omega
    have cT := fun W => at_any n ((ln : Int) + 1) W (by omega) (by omega)
    rw [hK] at cT
    have hT : (l.take K).map (·.r) = R.take K := by rw [hR.out, List.map_take]
    have pK : replE (R.take K) = 0 := by
      unfold replE
      rw [if_neg (by rw [List.length_take]; omega)]
      exact work_pre hW0 K
    have pL : replL (R.take K) = (workAll newS (R.take K)).1 := if_neg (by rw [List.length_take]; omega)
    have p4 : (replL (R.take K)).length = 4 := by rw [pL]; exact right_len (workAll_right _ newS fresh_right (work_pre hW0 K))
    have hTl : K = (l.take K).length := by rw [List.length_take, ← hln.out]; omega
    have cR2 := fun W S => replay_any (l.take K) la K lc 4 W S (hide hTl) (hide (by rw [hT, p4]))
    rw [hT, pK, pL] at cR2
    obtain ⟨CK, hCK⟩ : ∃ CK, CK = (workAll newS (R.take K)).1 := ⟨_, rfl⟩
    rw [← hCK] at cR2
    have hKw : workAll newS (R.take (K + 0)) = (CK, 0) := by
      rw [hCK, Nat.add_zero]
      exact Prod.ext rfl (work_pre hW0 K)
    have hKc : K ≤ lc := Nat.le_trans hKn hlc
    have hK63 : K ≤ 9223372036854775807 := Nat.le_trans hKc hlm
    obtain ⟨m1, m2⟩ := wraps ln hln60
    clear e1 e2 h60 hdn pK pL p4 hT
    replace hTl := hide hTl
    replace hK := hide hK
    replace hCK := hide hCK
    replace hKw := hide hKw
    replace hW0 := hide hW0
    replace hWC := hide hWC
    go_wp2_with fail
    go_at_call 21
    refine (cT _).mono ?_
    rintro e w3 ⟨rfl, rfl⟩
    have S2 := SL.keep bel (Nat.le_refl _)
    go_wp2_with fail
    go_at_call 19
    refine ((cR2 _ (front S2 K)).mono fun _ _ h => mk_laid h).mono ?_
    rintro e w4 ⟨aN, GN, rfl, BN, b4, lgN⟩
    clear cR2 cT S2 m1 m2
    have hWN : gW < w4.heap.size := Nat.lt_of_lt_of_le BW.blk.lt lgN
    have hwN : w.heap.size ≤ w4.heap.size := Nat.le_trans bel.size lgN
    replace BW := BW.call b4
    replace bel := belowCall bel b4
    obtain ⟨M, hM⟩ : ∃ M, ln - K = M := ⟨_, rfl⟩
    have hKM : K + M = ln := by omega
    have hMl := hide (hKM.trans hln.out)
    replace hKM := hide hKM
    clear b4 lgN
    by_cases hl0 : l = []
    · have hL0 : Hid (ln = 0) := by have := hln.out; rw [hl0] at this; exact hide this
      have hM0 : Hid (M = 0) := by have := hL0.out; exact hide (by omega)
      by_cases hG : lc = K
      · have hG' : (lc = K) = True := eq_true hG
        clear hG
        go_upto_region 6 with fail
        generalize w4.heap.size = gN at *
        generalize World.alloc w4 _ = v4 at *
        go_wp2_with fail
        go_loopw [45] (fun i wr => ∃ (j : Nat) (aS : Option Addr) (GS : Nat) (D : List Rw), j ≤ M ∧ i = .int .i64 j ∧ BxS wr gN aS 4 GS D ∧ Hid (workAll newS (R.take (K + j)) = (D, 0)) ∧ BxS wr gW aW 4 GW C ∧ Below w.heap.size w wr) (fun i _ => M - (intOf i).toNat)
        case atStart => exact ⟨0, aN, GN, CK, Nat.zero_le _, rfl, BN, hKw, BW, bel⟩
        case round =>
          clear BN BW bel hKw
          obtain ⟨j, aS, GS, D, hj, rfl, BN, hw, BW, bel⟩ := hrel
          by_cases hjm : j < M
          · exact absurd hjm (by rw [hM0.out]; exact Nat.not_lt_zero _)
          · obtain rfl : j = M := Nat.le_antisymm hj (Nat.le_of_not_lt hjm)
            have hDC : D = C := by
              have h8 : workAll newS R = (D, 0) := by
                have := hw.out
                rwa [hKM.out, List.take_of_length_le (Nat.le_of_eq hRl.out)] at this
              rw [← hWC.out, h8]
            subst hDC
            clear hw
            have D0 : DkB (wr.alloc (.cells #[.slice none 0 0, .slice none 0 0] 24)) wr.heap.size none 0 0 none 0 0 (dkOf (R.take 0)) := ⟨Blk.laid wr [.slice none 0 0, .slice none 0 0] _ _ rfl, rfl, rfl, Sl.ofNil _, Sl.ofNil _⟩
            have bD := newB (Below.refl wr.heap.size wr) (.cells #[.slice none 0 0, .slice none 0 0] 24)
            go_upto_region 16 with fail
            generalize World.alloc wr _ = v6 at *
            go_wp2_with fail
            go_loopw [60] (fun i wq => ∃ (k : Nat) (b1 : Option Addr) (m1 e1 : Nat) (b2 : Option Addr) (m2 e2 : Nat), k ≤ ln ∧ i = .int .i64 k ∧ DkB wq wr.heap.size b1 m1 e1 b2 m2 e2 (dkOf (R.take k)) ∧ Below wr.heap.size wr wq) (fun i _ => ln - (intOf i).toNat)
            case atStart => exact ⟨0, none, 0, 0, none, 0, 0, Nat.zero_le _, rfl, D0, bD⟩
            case round =>
              clear D0 bD
              rename World => wq
              obtain ⟨k, b1, m1, e1, b2, m2, e2, hk, rfl, DB, belq⟩ := hrel
              by_cases hkn : k < ln
              · exact absurd hkn (by rw [hL0.out]; exact Nat.not_lt_zero _)
              · obtain rfl : k = ln := Nat.le_antisymm hk (Nat.le_of_not_lt hkn)
                have hRR : R.take k = R := List.take_of_length_le (Nat.le_of_eq hRl.out)
                rw [hRR] at DB
                have h60 : R.length ≤ 60 := by rw [hRl.out]; exact hln60
                have d0 := dkOf_ok hrecs h60
                have f1 : (dkOf R).safe.length + (dkOf R).wait.length ≤ 9223372036854775807 := Nat.le_trans (few_of d0) (by decide)
                have cQ := fun W g s t => recover_any (dkOf R) b1 b2 e1 e2 m1 m2 W g s t DB.e1 DB.e2 (by rw [DB.e1, DB.e2]; exact f1)
                rw [d0, dk_end hrecs h60] at cQ
                replace BN := BN.call belq
                replace BW := BW.call belq
                replace bel := belowCall bel belq
                have gl := hg.call bel
                have y0 := DB.blk.cell 0
                have y1 := DB.blk.cell 1
                have yl := DB.blk.lt
                clear hRR h60 d0 f1 belq
                go_wp2_with fail
                go_at_call 8
                refine ((cQ _ gl DB.s1 DB.s2).mono fun _ _ h => h.laid).mono ?_
                rintro e w9 ⟨r1, i1, k1, r2, i2, k2, a3, n3, G3, l3, rfl, DR, LR, hn3, hl3, b9⟩
                clear y0 y1 yl cQ gl DB
                replace BN := BN.call b9
                replace BW := BW.call b9
                replace bel := belowCall bel b9
                have cE := fun W s t => eqFuncN l3 l a3 la G3 lc n3 k W s t hn3.out hln.out
                have cX := fun W (x : IsS W _ _ _) (y : IsS W _ _ _) => shSame_is (C := D) (D := D) (a := aS) (b := aW) (G := GS) (H := GW) x y (by rw [h4.out]; decide)
                simp only [sameSh_self, h4.out] at cX
                clear DR b9
                go_upto_region 27 with fail
                generalize World.alloc w9 _ = v9 at *
                have x0 := BN.blk.cell 0
                have xl := BN.blk.lt
                have y0 := BW.blk.cell 0
                have yl := BW.blk.lt
                go_wp2_with fail
                go_at_call 23
                refine (cX _ BN.is BW.is).mono ?_
                rintro e wA ⟨rfl, bA⟩
                clear x0 xl y0 yl cX
                replace LR := LR.call bA
                replace bel := belowCall bel bA
                have SZ := SL.keep bel (Nat.le_refl _)
                go_wp2_with fail
                go_at_call 17
                refine (cE _ LR SZ).mono ?_
                rintro e wB ⟨b, rfl, hb, bB⟩
                obtain rfl : b = true := hb.2 (hl3.out.trans hR.out)
                go_wp2_with fail
                go_ret
                exact ⟨rfl, belowCall bel bB⟩
      · have hG' : (lc = K) = False := eq_false hG
        clear hG
        go_upto_region 6 with fail
        generalize w4.heap.size = gN at *
        generalize World.alloc w4 _ = v4 at *
        go_wp2_with fail
        go_loopw [45] (fun i wr => ∃ (j : Nat) (aS : Option Addr) (GS : Nat) (D : List Rw), j ≤ M ∧ i = .int .i64 j ∧ BxS wr gN aS 4 GS D ∧ Hid (workAll newS (R.take (K + j)) = (D, 0)) ∧ BxS wr gW aW 4 GW C ∧ Below w.heap.size w wr) (fun i _ => M - (intOf i).toNat)
        case atStart => exact ⟨0, aN, GN, CK, Nat.zero_le _, rfl, BN, hKw, BW, bel⟩
        case round =>
          clear BN BW bel hKw
          obtain ⟨j, aS, GS, D, hj, rfl, BN, hw, BW, bel⟩ := hrel
          by_cases hjm : j < M
          · exact absurd hjm (by rw [hM0.out]; exact Nat.not_lt_zero _)
          · obtain rfl : j = M := Nat.le_antisymm hj (Nat.le_of_not_lt hjm)
            have hDC : D = C := by
              have h8 : workAll newS R = (D, 0) := by
                have := hw.out
                rwa [hKM.out, List.take_of_length_le (Nat.le_of_eq hRl.out)] at this
              rw [← hWC.out, h8]
            subst hDC
            clear hw
            have D0 : DkB (wr.alloc (.cells #[.slice none 0 0, .slice none 0 0] 24)) wr.heap.size none 0 0 none 0 0 (dkOf (R.take 0)) := ⟨Blk.laid wr [.slice none 0 0, .slice none 0 0] _ _ rfl, rfl, rfl, Sl.ofNil _, Sl.ofNil _⟩
            have bD := newB (Below.refl wr.heap.size wr) (.cells #[.slice none 0 0, .slice none 0 0] 24)
            go_upto_region 16 with fail
            generalize World.alloc wr _ = v6 at *
            go_wp2_with fail
            go_loopw [60] (fun i wq => ∃ (k : Nat) (b1 : Option Addr) (m1 e1 : Nat) (b2 : Option Addr) (m2 e2 : Nat), k ≤ ln ∧ i = .int .i64 k ∧ DkB wq wr.heap.size b1 m1 e1 b2 m2 e2 (dkOf (R.take k)) ∧ Below wr.heap.size wr wq) (fun i _ => ln - (intOf i).toNat)
            case atStart => exact ⟨0, none, 0, 0, none, 0, 0, Nat.zero_le _, rfl, D0, bD⟩
            case round =>
              clear D0 bD
              rename World => wq
              obtain ⟨k, b1, m1, e1, b2, m2, e2, hk, rfl, DB, belq⟩ := hrel
              by_cases hkn : k < ln
              · exact absurd hkn (by rw [hL0.out]; exact Nat.not_lt_zero _)
              · obtain rfl : k = ln := Nat.le_antisymm hk (Nat.le_of_not_lt hkn)
                have hRR : R.take k = R := List.take_of_length_le (Nat.le_of_eq hRl.out)
                rw [hRR] at DB
                have h60 : R.length ≤ 60 := by rw [hRl.out]; exact hln60
                have d0 := dkOf_ok hrecs h60
                have f1 : (dkOf R).safe.length + (dkOf R).wait.length ≤ 9223372036854775807 := Nat.le_trans (few_of d0) (by decide)
                have cQ := fun W g s t => recover_any (dkOf R) b1 b2 e1 e2 m1 m2 W g s t DB.e1 DB.e2 (by rw [DB.e1, DB.e2]; exact f1)
                rw [d0, dk_end hrecs h60] at cQ
                replace BN := BN.call belq
                replace BW := BW.call belq
                replace bel := belowCall bel belq
                have gl := hg.call bel
                have y0 := DB.blk.cell 0
                have y1 := DB.blk.cell 1
                have yl := DB.blk.lt
                clear hRR h60 d0 f1 belq
                go_wp2_with fail
                go_at_call 8
                refine ((cQ _ gl DB.s1 DB.s2).mono fun _ _ h => h.laid).mono ?_
                rintro e w9 ⟨r1, i1, k1, r2, i2, k2, a3, n3, G3, l3, rfl, DR, LR, hn3, hl3, b9⟩
                clear y0 y1 yl cQ gl DB
                replace BN := BN.call b9
                replace BW := BW.call b9
                replace bel := belowCall bel b9
                have cE := fun W s t => eqFuncN l3 l a3 la G3 lc n3 k W s t hn3.out hln.out
                have cX := fun W (x : IsS W _ _ _) (y : IsS W _ _ _) => shSame_is (C := D) (D := D) (a := aS) (b := aW) (G := GS) (H := GW) x y (by rw [h4.out]; decide)
                simp only [sameSh_self, h4.out] at cX
                clear DR b9
                go_upto_region 27 with fail
                generalize World.alloc w9 _ = v9 at *
                have x0 := BN.blk.cell 0
                have xl := BN.blk.lt
                have y0 := BW.blk.cell 0
                have yl := BW.blk.lt
                go_wp2_with fail
                go_at_call 23
                refine (cX _ BN.is BW.is).mono ?_
                rintro e wA ⟨rfl, bA⟩
                clear x0 xl y0 yl cX
                replace LR := LR.call bA
                replace bel := belowCall bel bA
                have SZ := SL.keep bel (Nat.le_refl _)
                go_wp2_with fail
                go_at_call 17
                refine (cE _ LR SZ).mono ?_
                rintro e wB ⟨b, rfl, hb, bB⟩
                obtain rfl : b = true := hb.2 (hl3.out.trans hR.out)
                go_wp2_with fail
                go_ret
                exact ⟨rfl, belowCall bel bB⟩
    · obtain ⟨lb, lo, rfl, hlb⟩ := SL.row.where Lrc.four (by decide) hl0
      by_cases hG : lc = K
      · have hM0 : Hid (M = 0) := hide (by omega)
        have hG' : (lc = K) = True := eq_true hG
        clear hG
        go_upto_region 6 with fail
        generalize w4.heap.size = gN at *
        generalize World.alloc w4 _ = v4 at *
        go_wp2_with fail
        go_loopw [45] (fun i wr => ∃ (j : Nat) (aS : Option Addr) (GS : Nat) (D : List Rw), j ≤ M ∧ i = .int .i64 j ∧ BxS wr gN aS 4 GS D ∧ Hid (workAll newS (R.take (K + j)) = (D, 0)) ∧ BxS wr gW aW 4 GW C ∧ Below w.heap.size w wr) (fun i _ => M - (intOf i).toNat)
        case atStart => exact ⟨0, aN, GN, CK, Nat.zero_le _, rfl, BN, hKw, BW, bel⟩
        case round =>
          clear BN BW bel hKw
          obtain ⟨j, aS, GS, D, hj, rfl, BN, hw, BW, bel⟩ := hrel
          by_cases hjm : j < M
          · exact absurd hjm (by rw [hM0.out]; exact Nat.not_lt_zero _)
          · obtain rfl : j = M := Nat.le_antisymm hj (Nat.le_of_not_lt hjm)
            have hDC : D = C := by
              have h8 : workAll newS R = (D, 0) := by
                have := hw.out
                rwa [hKM.out, List.take_of_length_le (Nat.le_of_eq hRl.out)] at this
              rw [← hWC.out, h8]
            subst hDC
            clear hw
            have D0 : DkB (wr.alloc (.cells #[.slice none 0 0, .slice none 0 0] 24)) wr.heap.size none 0 0 none 0 0 (dkOf (R.take 0)) := ⟨Blk.laid wr [.slice none 0 0, .slice none 0 0] _ _ rfl, rfl, rfl, Sl.ofNil _, Sl.ofNil _⟩
            have bD := newB (Below.refl wr.heap.size wr) (.cells #[.slice none 0 0, .slice none 0 0] 24)
            go_upto_region 16 with fail
            generalize World.alloc wr _ = v6 at *
            go_wp2_with fail
            go_loopw [60] (fun i wq => ∃ (k : Nat) (b1 : Option Addr) (m1 e1 : Nat) (b2 : Option Addr) (m2 e2 : Nat), k ≤ ln ∧ i = .int .i64 k ∧ DkB wq wr.heap.size b1 m1 e1 b2 m2 e2 (dkOf (R.take k)) ∧ Below wr.heap.size wr wq) (fun i _ => ln - (intOf i).toNat)
            case atStart => exact ⟨0, none, 0, 0, none, 0, 0, Nat.zero_le _, rfl, D0, bD⟩
            case round =>
              clear D0 bD
              rename World => wq
              obtain ⟨k, b1, m1, e1, b2, m2, e2, hk, rfl, DB, belq⟩ := hrel
              by_cases hkn : k < ln
              · have hkl : k < l.length := by rw [← hln.out]; exact hkn
                obtain ⟨x, hx⟩ : ∃ x, l[k]? = some x := ⟨_, List.getElem?_eq_getElem hkl⟩
                have S' := SL.keep (belowCall bel belq) (Nat.le_refl _)
                have d0 := S'.row.cell Lrc.four k 0 x _ hx rfl
                have d1 := S'.row.cell Lrc.four k 1 x _ hx rfl
                have d2 := S'.row.cell Lrc.four k 2 x _ hx rfl
                have d3 := S'.row.cell Lrc.four k 3 x _ hx rfl
                simp only [Nat.add_zero] at d0
                have llb := Nat.lt_of_lt_of_le hlb (belowCall bel belq).size
                have hent := S'.ent x (List.mem_of_getElem? hx)
                have htk : R.take (k + 1) = R.take k ++ [x.r] := by rw [List.take_add_one, hxR _ _ hx]; rfl
                obtain ⟨q1, q2, q3⟩ := dk_step (l := R.take k) (r := x.r) (by rw [← htk]; exact fun r hr => hrecs r (List.mem_of_mem_take hr)) (by rw [← htk, List.length_take, hRl.out]; omega)
                rw [← htk] at q3
                have f1 := few_of (dkOf_ok (l := R.take k) (fun r hr => hrecs r (List.mem_of_mem_take hr)) (by rw [List.length_take, hRl.out]; omega))
                have f2 := few_of (dput_ok q1).2.2.2
                have f1' : (dkOf (R.take k)).safe.length + (dkOf (R.take k)).wait.length ≤ 9223372036854775807 := Nat.le_trans f1 (by decide)
                have f2' : (dputD (dkOf (R.take k)) x.r).safe.length + (dputD (dkOf (R.take k)) x.r).wait.length ≤ 9223372036854775807 := Nat.le_trans f2 (by decide)
                have cP := fun W g s1 s2 s3 => dput_any (dkOf (R.take k)) x.r b1 b2 x.a e1 e2 x.c m1 m2 x.r.e.length W g s1 s2 s3 DB.e1 DB.e2 rfl (by rw [DB.e1, DB.e2]; exact f1')
                rw [q1] at cP
                generalize dputD (dkOf (R.take k)) x.r = DP at *
                have BC := Blk.laid wq [.int .i64 x.r.k, .int .i64 x.r.s, .int .i64 x.r.n, .slice x.a x.r.e.length x.c] 27 _ rfl
                have bc := newB (Below.refl wq.heap.size wq) (.cells #[.int .i64 x.r.k, .int .i64 x.r.s, .int .i64 x.r.n, .slice x.a x.r.e.length x.c] 27)
                replace DB := DB.call bc
                have hent1 := hent.call bc
                replace belq := belowCall belq bc
                replace htk := hide htk
                replace q2 := hide q2
                replace q3 := hide q3
                clear S' hkl hent bc hx q1 f1 f2 f1'
                go_upto_region 19 with fail
                generalize wq.heap.size = gC at *
                generalize World.alloc wq _ = w5 at *
                have x0 := BC.cell 0
                have x1 := BC.cell 1
                have x2 := BC.cell 2
                have x3 := BC.cell 3
                have xl := BC.lt
                have y0 := DB.blk.cell 0
                have y1 := DB.blk.cell 1
                have yl := DB.blk.lt
                clear d0 d1 d2 d3 llb
                have gl := hg.call (belowCall bel belq)
                go_wp2_with fail
                go_at_call 5
                refine (cP _ gl DB.s1 DB.s2 hent1).mono ?_
                rintro e w6 ⟨p1, p2, u1, u2, z1, z2, rfl, hu1, hu2, t1, t2, b6⟩
                clear x0 x1 x2 x3 xl y0 y1 yl cP hent1 BC gl
                have DBb := DB.blk.keep b6 DB.blk.lt
                replace belq := belowCall belq b6
                have D2 := dkPut DBb hu1 hu2 t1 t2
                have belq2 := below2s belq (Nat.le_refl _) (.slice p1 u1 z1) (.slice p2 u2 z2)
                replace hu1 := hide hu1
                replace hu2 := hide hu2
                have y0 := DBb.cell 0
                have y1 := DBb.cell 1
                have yf := DBb.free 0
                have yg := DBb.free 1
                have yl := DBb.lt
                go_upto_region 20 with fail
                clear y0 y1 yf yg yl DBb DB t1 t2 belq b6
                generalize World.setCell (World.setCell w6 _ _) _ _ = w7 at *
                have cS := fun W g s t => sync_any DP p1 p2 z1 z2 u1 u2 W g s t D2.e1 D2.e2 (by rw [D2.e1, D2.e2]; exact f2')
                rw [q2.out, q3.out] at cS
                have gl := hg.call (belowCall bel belq2)
                have y0 := D2.blk.cell 0
                have y1 := D2.blk.cell 1
                have yl := D2.blk.lt
                go_wp2_with fail
                go_at_call 6
                refine (cS _ gl D2.s1 D2.s2).mono ?_
                rintro e w8 ⟨r1, r2, i1, i2, k1, k2, rfl, hi1, hi2, t1, t2, b8⟩
                clear y0 y1 yl cS gl
                have DBb := D2.blk.keep b8 D2.blk.lt
                replace belq2 := belowCall belq2 b8
                have D3 := dkPut DBb hi1 hi2 t1 t2
                have belq3 := below2s belq2 (Nat.le_refl _) (.slice r1 i1 k1) (.slice r2 i2 k2)
                replace hi1 := hide hi1
                replace hi2 := hide hi2
                have y0 := DBb.cell 0
                have y1 := DBb.cell 1
                have yf := DBb.free 0
                have yg := DBb.free 1
                have yl := DBb.lt
                go_upto_region 23 with fail
                clear y0 y1 yf yg yl DBb D2 t1 t2 belq2 b8
                generalize World.setCell (World.setCell w8 _ _) _ _ = w9 at *
                go_wp2_with fail
                go_roundw
                case rel => exact ⟨k + 1, r1, i1, k1, r2, i2, k2, Nat.succ_le_of_lt hkn, by go_num, D3, belq3⟩
                case measure =>
                  have := Nat.sub_lt_sub_left hkn (Nat.lt_succ_self k)
                  simpa [intOf] using this
              · obtain rfl : k = ln := Nat.le_antisymm hk (Nat.le_of_not_lt hkn)
                have hRR : R.take k = R := List.take_of_length_le (Nat.le_of_eq hRl.out)
                rw [hRR] at DB
                have h60 : R.length ≤ 60 := by rw [hRl.out]; exact hln60
                have d0 := dkOf_ok hrecs h60
                have f1 : (dkOf R).safe.length + (dkOf R).wait.length ≤ 9223372036854775807 := Nat.le_trans (few_of d0) (by decide)
                have cQ := fun W g s t => recover_any (dkOf R) b1 b2 e1 e2 m1 m2 W g s t DB.e1 DB.e2 (by rw [DB.e1, DB.e2]; exact f1)
                rw [d0, dk_end hrecs h60] at cQ
                replace BN := BN.call belq
                replace BW := BW.call belq
                replace bel := belowCall bel belq
                have gl := hg.call bel
                have y0 := DB.blk.cell 0
                have y1 := DB.blk.cell 1
                have yl := DB.blk.lt
                clear hRR h60 d0 f1 belq
                go_wp2_with fail
                go_at_call 8
                refine ((cQ _ gl DB.s1 DB.s2).mono fun _ _ h => h.laid).mono ?_
                rintro e w9 ⟨r1, i1, k1, r2, i2, k2, a3, n3, G3, l3, rfl, DR, LR, hn3, hl3, b9⟩
                clear y0 y1 yl cQ gl DB
                replace BN := BN.call b9
                replace BW := BW.call b9
                replace bel := belowCall bel b9
                have cE := fun W s t => eqFuncN l3 l a3 (some ⟨lb, lo, none⟩) G3 lc n3 k W s t hn3.out hln.out
                have cX := fun W (x : IsS W _ _ _) (y : IsS W _ _ _) => shSame_is (C := D) (D := D) (a := aS) (b := aW) (G := GS) (H := GW) x y (by rw [h4.out]; decide)
                simp only [sameSh_self, h4.out] at cX
                clear DR b9
                go_upto_region 27 with fail
                generalize World.alloc w9 _ = v9 at *
                have x0 := BN.blk.cell 0
                have xl := BN.blk.lt
                have y0 := BW.blk.cell 0
                have yl := BW.blk.lt
                go_wp2_with fail
                go_at_call 23
                refine (cX _ BN.is BW.is).mono ?_
                rintro e wA ⟨rfl, bA⟩
                clear x0 xl y0 yl cX
                replace LR := LR.call bA
                replace bel := belowCall bel bA
                have SZ := SL.keep bel (Nat.le_refl _)
                go_wp2_with fail
                go_at_call 17
                refine (cE _ LR SZ).mono ?_
                rintro e wB ⟨b, rfl, hb, bB⟩
                obtain rfl : b = true := hb.2 (hl3.out.trans hR.out)
                go_wp2_with fail
                go_ret
                exact ⟨rfl, belowCall bel bB⟩
      · have hG' : (lc = K) = False := eq_false hG
        clear hG
        go_upto_region 6 with fail
        generalize w4.heap.size = gN at *
        generalize World.alloc w4 _ = v4 at *
        go_wp2_with fail
        go_loopw [45] (fun i wr => ∃ (j : Nat) (aS : Option Addr) (GS : Nat) (D : List Rw), j ≤ M ∧ i = .int .i64 j ∧ BxS wr gN aS 4 GS D ∧ Hid (workAll newS (R.take (K + j)) = (D, 0)) ∧ BxS wr gW aW 4 GW C ∧ Below w.heap.size w wr) (fun i _ => M - (intOf i).toNat)
        case atStart => exact ⟨0, aN, GN, CK, Nat.zero_le _, rfl, BN, hKw, BW, bel⟩
        case round =>
          clear BN BW bel hKw
          obtain ⟨j, aS, GS, D, hj, rfl, BN, hw, BW, bel⟩ := hrel
          by_cases hjm : j < M
          · have hkl : K + j < l.length := by have := hMl.out; omega
            obtain ⟨x, hx⟩ : ∃ x, l[K + j]? = some x := ⟨_, List.getElem?_eq_getElem hkl⟩
            have S' := SL.keep bel (Nat.le_refl _)
            have d0 := S'.row.cell Lrc.four (K + j) 0 x _ hx rfl
            have d1 := S'.row.cell Lrc.four (K + j) 1 x _ hx rfl
            have d2 := S'.row.cell Lrc.four (K + j) 2 x _ hx rfl
            have d3 := S'.row.cell Lrc.four (K + j) 3 x _ hx rfl
            rw [show lo + (K + j) * 4 = lo + K * 4 + j * 4 by rw [Nat.add_mul, Nat.add_assoc]] at d0 d1 d2 d3
            simp only [Nat.add_zero] at d0
            have llb := Nat.lt_of_lt_of_le hlb bel.size
            have hent := S'.ent x (List.mem_of_getElem? hx)
            obtain ⟨q1, q2⟩ := work_next hW0.out (hxR _ _ hx)
            have hD : (workAll newS (R.take (K + j))).1 = D := by rw [hw.out]
            rw [hD] at q1 q2
            have h4D := right_len (next_zero q1).1
            have h4N := right_len (next_right q1)
            have cN := fun W h t => next_any D x.r aS x.a GS x.c x.r.e.length 4 4 W h t (hide rfl) (hide h4D.symm) (hide h4N.symm)
            rw [q1] at cN
            have hw2 : Hid (workAll newS (R.take (K + (j + 1))) = (nextL D x.r, 0)) := q2
            generalize nextL D x.r = D2 at *
            have BC := Blk.laid wr [.int .i64 x.r.k, .int .i64 x.r.s, .int .i64 x.r.n, .slice x.a x.r.e.length x.c] 27 _ rfl
            have bc := newB (Below.refl wr.heap.size wr) (.cells #[.int .i64 x.r.k, .int .i64 x.r.s, .int .i64 x.r.n, .slice x.a x.r.e.length x.c] 27)
            replace BN := BN.call bc
            replace BW := BW.call bc
            have hent1 := hent.call bc
            replace bel := belowCall bel bc
            clear S' hkl hent bc hD q1 q2 h4D h4N hx
            go_upto_region 11 with fail
            generalize wr.heap.size = gC at *
            generalize World.alloc wr _ = w5 at *
            have x0 := BC.cell 0
            have x1 := BC.cell 1
            have x2 := BC.cell 2
            have x3 := BC.cell 3
            have xl := BC.lt
            have y0 := BN.blk.cell 0
            have yl := BN.blk.lt
            clear d0 d1 d2 d3 llb
            go_wp2_with fail
            go_at_call 22
            refine (cN _ BN.is hent1).mono ?_
            rintro e w6 ⟨a', G', rfl, I6, b6⟩
            clear x0 x1 x2 x3 xl y0 yl cN hent1 BC
            replace BW := BW.call b6
            have BNb := BN.blk.keep b6 BN.blk.lt
            replace bel := belowCall bel b6
            clear BN b6
            have y0 := BNb.cell 0
            have yf := BNb.free 0
            have yl := BNb.lt
            have BN2 : BxS (w6.setCell ⟨gN, 0, none⟩ (.slice a' 4 G')) gN a' 4 G' D2 := ⟨BNb.set 0 _, I6.boxed BNb _⟩
            have BW2 : BxS (w6.setCell ⟨gN, 0, none⟩ (.slice a' 4 G')) gW aW 4 GW C := ⟨BW.blk.other 0 _ (Nat.ne_of_gt hWN), BW.is.boxed BNb _⟩
            have bel2 := bel.setCell (p := ⟨gN, 0, none⟩) hwN (.slice a' 4 G')
            go_wp2_with fail
            go_roundw
            case rel => exact ⟨j + 1, a', G', D2, Nat.succ_le_of_lt hjm, by go_num, BN2, hw2, BW2, bel2⟩
            case measure =>
              have := Nat.sub_lt_sub_left hjm (Nat.lt_succ_self j)
              simpa [intOf] using this
          · obtain rfl : j = M := Nat.le_antisymm hj (Nat.le_of_not_lt hjm)
            have hDC : D = C := by
              have h8 : workAll newS R = (D, 0) := by
                have := hw.out
                rwa [hKM.out, List.take_of_length_le (Nat.le_of_eq hRl.out)] at this
              rw [← hWC.out, h8]
            subst hDC
            clear hw
            have D0 : DkB (wr.alloc (.cells #[.slice none 0 0, .slice none 0 0] 24)) wr.heap.size none 0 0 none 0 0 (dkOf (R.take 0)) := ⟨Blk.laid wr [.slice none 0 0, .slice none 0 0] _ _ rfl, rfl, rfl, Sl.ofNil _, Sl.ofNil _⟩
            have bD := newB (Below.refl wr.heap.size wr) (.cells #[.slice none 0 0, .slice none 0 0] 24)
            go_upto_region 16 with fail
            generalize World.alloc wr _ = v6 at *
            go_wp2_with fail
            go_loopw [60] (fun i wq => ∃ (k : Nat) (b1 : Option Addr) (m1 e1 : Nat) (b2 : Option Addr) (m2 e2 : Nat), k ≤ ln ∧ i = .int .i64 k ∧ DkB wq wr.heap.size b1 m1 e1 b2 m2 e2 (dkOf (R.take k)) ∧ Below wr.heap.size wr wq) (fun i _ => ln - (intOf i).toNat)
            case atStart => exact ⟨0, none, 0, 0, none, 0, 0, Nat.zero_le _, rfl, D0, bD⟩
            case round =>
              clear D0 bD
              rename World => wq
              obtain ⟨k, b1, m1, e1, b2, m2, e2, hk, rfl, DB, belq⟩ := hrel
              by_cases hkn : k < ln
              · have hkl : k < l.length := by rw [← hln.out]; exact hkn
                obtain ⟨x, hx⟩ : ∃ x, l[k]? = some x := ⟨_, List.getElem?_eq_getElem hkl⟩
                have S' := SL.keep (belowCall bel belq) (Nat.le_refl _)
                have d0 := S'.row.cell Lrc.four k 0 x _ hx rfl
                have d1 := S'.row.cell Lrc.four k 1 x _ hx rfl
                have d2 := S'.row.cell Lrc.four k 2 x _ hx rfl
                have d3 := S'.row.cell Lrc.four k 3 x _ hx rfl
                simp only [Nat.add_zero] at d0
                have llb := Nat.lt_of_lt_of_le hlb (belowCall bel belq).size
                have hent := S'.ent x (List.mem_of_getElem? hx)
                have htk : R.take (k + 1) = R.take k ++ [x.r] := by rw [List.take_add_one, hxR _ _ hx]; rfl
                obtain ⟨q1, q2, q3⟩ := dk_step (l := R.take k) (r := x.r) (by rw [← htk]; exact fun r hr => hrecs r (List.mem_of_mem_take hr)) (by rw [← htk, List.length_take, hRl.out]; omega)
                rw [← htk] at q3
                have f1 := few_of (dkOf_ok (l := R.take k) (fun r hr => hrecs r (List.mem_of_mem_take hr)) (by rw [List.length_take, hRl.out]; omega))
                have f2 := few_of (dput_ok q1).2.2.2
                have f1' : (dkOf (R.take k)).safe.length + (dkOf (R.take k)).wait.length ≤ 9223372036854775807 := Nat.le_trans f1 (by decide)
                have f2' : (dputD (dkOf (R.take k)) x.r).safe.length + (dputD (dkOf (R.take k)) x.r).wait.length ≤ 9223372036854775807 := Nat.le_trans f2 (by decide)
                have cP := fun W g s1 s2 s3 => dput_any (dkOf (R.take k)) x.r b1 b2 x.a e1 e2 x.c m1 m2 x.r.e.length W g s1 s2 s3 DB.e1 DB.e2 rfl (by rw [DB.e1, DB.e2]; exact f1')
                rw [q1] at cP
                generalize dputD (dkOf (R.take k)) x.r = DP at *
                have BC := Blk.laid wq [.int .i64 x.r.k, .int .i64 x.r.s, .int .i64 x.r.n, .slice x.a x.r.e.length x.c] 27 _ rfl
                have bc := newB (Below.refl wq.heap.size wq) (.cells #[.int .i64 x.r.k, .int .i64 x.r.s, .int .i64 x.r.n, .slice x.a x.r.e.length x.c] 27)
                replace DB := DB.call bc
                have hent1 := hent.call bc
                replace belq := belowCall belq bc
                replace htk := hide htk
                replace q2 := hide q2
                replace q3 := hide q3
                clear S' hkl hent bc hx q1 f1 f2 f1'
                go_upto_region 19 with fail
                generalize wq.heap.size = gC at *
                generalize World.alloc wq _ = w5 at *
                have x0 := BC.cell 0
                have x1 := BC.cell 1
                have x2 := BC.cell 2
                have x3 := BC.cell 3
                have xl := BC.lt
                have y0 := DB.blk.cell 0
                have y1 := DB.blk.cell 1
                have yl := DB.blk.lt
                clear d0 d1 d2 d3 llb
                have gl := hg.call (belowCall bel belq)
                go_wp2_with fail
                go_at_call 5
                refine (cP _ gl DB.s1 DB.s2 hent1).mono ?_
                rintro e w6 ⟨p1, p2, u1, u2, z1, z2, rfl, hu1, hu2, t1, t2, b6⟩
                clear x0 x1 x2 x3 xl y0 y1 yl cP hent1 BC gl
                have DBb := DB.blk.keep b6 DB.blk.lt
                replace belq := belowCall belq b6
                have D2 := dkPut DBb hu1 hu2 t1 t2
                have belq2 := below2s belq (Nat.le_refl _) (.slice p1 u1 z1) (.slice p2 u2 z2)
                replace hu1 := hide hu1
                replace hu2 := hide hu2
                have y0 := DBb.cell 0
                have y1 := DBb.cell 1
                have yf := DBb.free 0
                have yg := DBb.free 1
                have yl := DBb.lt
                go_upto_region 20 with fail
                clear y0 y1 yf yg yl DBb DB t1 t2 belq b6
                generalize World.setCell (World.setCell w6 _ _) _ _ = w7 at *
                have cS := fun W g s t => sync_any DP p1 p2 z1 z2 u1 u2 W g s t D2.e1 D2.e2 (by rw [D2.e1, D2.e2]; exact f2')
                rw [q2.out, q3.out] at cS
                have gl := hg.call (belowCall bel belq2)
                have y0 := D2.blk.cell 0
                have y1 := D2.blk.cell 1
                have yl := D2.blk.lt
                go_wp2_with fail
                go_at_call 6
                refine (cS _ gl D2.s1 D2.s2).mono ?_
                rintro e w8 ⟨r1, r2, i1, i2, k1, k2, rfl, hi1, hi2, t1, t2, b8⟩
                clear y0 y1 yl cS gl
                have DBb := D2.blk.keep b8 D2.blk.lt
                replace belq2 := belowCall belq2 b8
                have D3 := dkPut DBb hi1 hi2 t1 t2
                have belq3 := below2s belq2 (Nat.le_refl _) (.slice r1 i1 k1) (.slice r2 i2 k2)
                replace hi1 := hide hi1
                replace hi2 := hide hi2
                have y0 := DBb.cell 0
                have y1 := DBb.cell 1
                have yf := DBb.free 0
                have yg := DBb.free 1
                have yl := DBb.lt
                go_upto_region 23 with fail
                clear y0 y1 yf yg yl DBb D2 t1 t2 belq2 b8
                generalize World.setCell (World.setCell w8 _ _) _ _ = w9 at *
                go_wp2_with fail
                go_roundw
                case rel => exact ⟨k + 1, r1, i1, k1, r2, i2, k2, Nat.succ_le_of_lt hkn, by go_num, D3, belq3⟩
                case measure =>
                  have := Nat.sub_lt_sub_left hkn (Nat.lt_succ_self k)
                  simpa [intOf] using this
              · obtain rfl : k = ln := Nat.le_antisymm hk (Nat.le_of_not_lt hkn)
                have hRR : R.take k = R := List.take_of_length_le (Nat.le_of_eq hRl.out)
                rw [hRR] at DB
                have h60 : R.length ≤ 60 := by rw [hRl.out]; exact hln60
                have d0 := dkOf_ok hrecs h60
                have f1 : (dkOf R).safe.length + (dkOf R).wait.length ≤ 9223372036854775807 := Nat.le_trans (few_of d0) (by decide)
                have cQ := fun W g s t => recover_any (dkOf R) b1 b2 e1 e2 m1 m2 W g s t DB.e1 DB.e2 (by rw [DB.e1, DB.e2]; exact f1)
                rw [d0, dk_end hrecs h60] at cQ
                replace BN := BN.call belq
                replace BW := BW.call belq
                replace bel := belowCall bel belq
                have gl := hg.call bel
                have y0 := DB.blk.cell 0
                have y1 := DB.blk.cell 1
                have yl := DB.blk.lt
                clear hRR h60 d0 f1 belq
                go_wp2_with fail
                go_at_call 8
                refine ((cQ _ gl DB.s1 DB.s2).mono fun _ _ h => h.laid).mono ?_
                rintro e w9 ⟨r1, i1, k1, r2, i2, k2, a3, n3, G3, l3, rfl, DR, LR, hn3, hl3, b9⟩
                clear y0 y1 yl cQ gl DB
                replace BN := BN.call b9
                replace BW := BW.call b9
                replace bel := belowCall bel b9
                have cE := fun W s t => eqFuncN l3 l a3 (some ⟨lb, lo, none⟩) G3 lc n3 k W s t hn3.out hln.out
                have cX := fun W (x : IsS W _ _ _) (y : IsS W _ _ _) => shSame_is (C := D) (D := D) (a := aS) (b := aW) (G := GS) (H := GW) x y (by rw [h4.out]; decide)
                simp only [sameSh_self, h4.out] at cX
                clear DR b9
                go_upto_region 27 with fail
                generalize World.alloc w9 _ = v9 at *
                have x0 := BN.blk.cell 0
                have xl := BN.blk.lt
                have y0 := BW.blk.cell 0
                have yl := BW.blk.lt
                go_wp2_with fail
                go_at_call 23
                refine (cX _ BN.is BW.is).mono ?_
                rintro e wA ⟨rfl, bA⟩
                clear x0 xl y0 yl cX
                replace LR := LR.call bA
                replace bel := belowCall bel bA
                have SZ := SL.keep bel (Nat.le_refl _)
                go_wp2_with fail
                go_at_call 17
                refine (cE _ LR SZ).mono ?_
                rintro e wB ⟨b, rfl, hb, bB⟩
                obtain rfl : b = true := hb.2 (hl3.out.trans hR.out)
                go_wp2_with fail
                go_ret
                exact ⟨rfl, belowCall bel bB⟩
  · have hzd : (E == 0) = false := beq_eq_false_iff_ne.2 hz
    have hzd' : decide (E = 0) = false := decide_eq_false hz
    go_wp2_with fail
    go_at_call 20
    refine (stored_any _).mono ?_
    rintro e w3 ⟨rfl, b3⟩
    go_wp2_with fail
    go_ret
    exact ⟨rfl, belowCall bel b3⟩

end Go.Proofs.YtabeihkfjlmepaaGreatDoor.storeParts

/-
  Proved: for any list of records and any number, StoreParts returns true and leaves its arguments as they were: records replayed in two parts are as replayed in one; and from a disk, synced one by one, as from a list. Conditions: the listed variables of Go's library start as the program's text lays them (tied by the card).
-/
namespace Go.Proofs.YtabeihkfjlmepaaGreatDoor.storeParts
open Go.ChangeShapes Go.WideShapes Go.ChangeAt Go.RowKit Go.ChangeMaps
set_option linter.unusedVariables false

def laidL : List (String × DataW Unit) := Rows.storePartsRow.laid

set_option maxRecDepth 100000 in
theorem lifted (os : Os) (started : os.Started) (H : Type) (enc : TypeId × Value → H) :
    ReturnsInHanded {} Tryz.checked os 4 .any (fun w args => (Rows.storePartsSpec.pre enc Tryz.prog Tryz.f4 [] false w args ∧ laidMetH Tryz.prog laidL w) ∧ sizedMet enc Tryz.prog Tryz.f4 (OpenSpec.ofChange Rows.storePartsSpec) false w args)
      (Rows.storePartsSpec.post enc Tryz.prog Tryz.f4 false true false false) := by
  refine returns_both (C := Tryz.checked) (X := fun w _ => laidMetH Tryz.prog laidL w) (fun _ _ _ hh h => h.of_heap hh) own started (by kernel_rfl) Tryz.func4
    (ChangeSpec.witness_shaped (enc := enc) (C := Tryz.checked) (os := os) (X := fun w _ => laidMetH Tryz.prog laidL w) false (World.laidAll Tryz.prog os laidL) #[.slice none 0 0, .int .i64 0] 8 (World.laidAll_os _ _ _)
      (World.shaped_of_ZipB (by kernel_rfl) (by kernel_rfl)) (by kernel_rfl) (by kernel_rfl) (by kernel_rfl)
      (by rw [MakeChecks.laidMetH_plain _ _ _ (by kernel_rfl)]; exact laidMet_laidAll _ (by kernel_rfl) (by kernel_rfl))) ?_
  intro W base args ds gs before hval0 hW hsz0 hL hsh
  have hsz : (DataW.weightsEach Tryz.prog (Tryz.f4.params.toList ++ Rows.storePartsSpec.plain.varTypes Tryz.prog) (ds ++ gs)).all (· ≤ reachBytes) = true := hsz0
  have hval : ∀ (j : Nat) t v, Tryz.f4.params[j]? = some t → args[j]? = some v → Value.okWide Tryz.prog W .any base t v := hval0
  have hW' := hW
  obtain ⟨p, q, hA0, hV, rfl, hfz, hnd⟩ := hW
  have hA : DataW.TrodAll enc Tryz.prog W 0 (fun _ => true) true Tryz.f4.params.toList args.toList ds p := hA0
  rw [Tryz.params4] at hA hval hsz
  obtain ⟨v0, vs0, d0, ds0, p0, q0, hargs, rfl, rfl, h0, r0⟩ := trodAll_cons hA
  obtain ⟨v1, vs1, d1, ds1, p1, q1, rfl, rfl, rfl, h1, r1⟩ := trodAll_cons r0
  obtain ⟨rfl, rfl, rfl⟩ := trodAll_nil r1
  obtain rfl : args = #[v0, v1] := by cases args; simp_all
  obtain ⟨rfl, rfl⟩ := trodVars_none hV
  have k0 := h0
  have lt0 : ∀ x ∈ p0, x.block < W.heap.size := by obtain ⟨m, hm⟩ := k0; exact DataW.trod_lt m _ _ _ hm
  obtain ⟨a0, len0, cap0, rfl⟩ := okWide_slice Tryz.underlying33 (hval 0 33 v0 rfl rfl)
  obtain ⟨l0, hl0, s0, _⟩ := open_recs h0 (rec_light (j := 0) hsz rfl rfl)
  obtain ⟨n, rfl, rfl, rfl, wn⟩ := open_int Tryz.underlying3 (hval 1 3 v1 rfl rfl) h1
  rw [MakeChecks.laidMetH_plain _ _ _ (by kernel_rfl)] at hL
  have g := glob_of hL hsh
  refine (walk W g l0 a0 cap0 len0 s0 hl0.symm n).mono fun e W' ⟨he, bel⟩ => ?_
  subst he
  exact ⟨_, rfl, _, _, _, [], _, [], hW', trodAll_mk1 (shut_bool Tryz.underlying4 _), trodAll_cons_mk (Below.trod laidOut (by kernel_rfl) (of_decide_eq_true (by kernel_rfl)) k0 bel lt0) (trodAll_cons_mk (shut_int Tryz.underlying3 wn) trodAll_mk0), rfl, bel.frame _, fun h => by cases h⟩

theorem row_holds : Rows.StorePartsSaid :=
  OpenClaim.holds_of_wide 4 Tryz.f4 rfl rfl rfl rfl rfl rfl rfl ⟨rfl, rfl, rfl, rfl, rfl⟩ rfl rfl rfl rfl rfl (by kernel_rfl) Tryz.func4 (by kernel_rfl)
    (of_decide_eq_true (by kernel_rfl)) (by unfold Func.isWrapper; first | (rw [if_pos (by decide +kernel)]; kernel_rfl) | (rw [if_neg (by decide +kernel)]; exact ⟨rfl, rfl⟩))
    (fun os started H enc _ => lifted os started H enc)
end Go.Proofs.YtabeihkfjlmepaaGreatDoor.storeParts
