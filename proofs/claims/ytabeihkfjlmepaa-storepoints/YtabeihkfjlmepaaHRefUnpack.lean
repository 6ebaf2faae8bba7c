/-
  The reference's UnpackedOf: what it returns, for all bits and every number; nothing that was there is written.
-/
import Derived.Test.YtabeihkfjlmepaaP22
import Derived.Test.YtabeihkfjlmepaaP04
namespace Go.Proofs.Ytabeihkfjlmepaa
open Go.RowKit

theorem bcell {W w1 : World} (hb : Below W.heap.size W w1) : (∀ b o, b < W.heap.size → w1.cell? ⟨b, o, none⟩ = W.cell? ⟨b, o, none⟩) ∧ (∀ b o, b < W.heap.size → w1.frozen? ⟨b, o, none⟩ = W.frozen? ⟨b, o, none⟩) :=
  ⟨fun b o h => hb.cell (p := ⟨b, o, none⟩) h, fun b o h => hb.frozen (p := ⟨b, o, none⟩) h⟩

theorem ownLaid (w : World) (l : List Pt) (cs : Array Value) (hcs : cs.toList = cellsP l) (t : TypeId) (n : Nat) (hn : l.length = n) (hm : n ≤ maxLen) : (w.alloc (.cells cs t)).ownsRow w.heap.size t 2 (.slice (some ⟨w.heap.size, 0, none⟩) n n) n (cellsP l) := by
  have hs : cs.size = n * 2 := by have := congrArg List.length hcs; rw [cellsP_length, hn] at this; simpa using this
  refine ⟨by rw [cellsP_length, hn], .inr ⟨w.heap.size, n, cs, rfl, Nat.le_refl _, heap_alloc_new w _, Nat.le_refl _, hm, hs, ?_⟩⟩
  rw [← hcs, List.take_of_length_le (by simp [hs])]

theorem SlP.tail2 {w : World} {b off cap : Nat} {p q : Pt} {l : List Pt} (h : SlP w (some ⟨b, off, none⟩) cap (p :: q :: l)) : SlP w (some ⟨b, off + 4, none⟩) (cap - 2) l := by
  obtain ⟨b', off', e, hb, hc⟩ := h.row.at (by simp [cellsP])
  simp only [Option.some.injEq, Addr.mk.injEq, and_true] at e
  obtain ⟨rfl, rfl⟩ := e
  have h1 := h.le
  have h2 := h.max
  simp only [List.length_cons] at h1
  refine ⟨.inr ⟨b, off + 4, rfl, hb, fun i v hv => ?_⟩, by omega, by omega, fun e => by cases e⟩
  rw [Nat.add_assoc, Nat.add_comm 4 i]
  exact hc (i + 4) v hv

theorem refPoint_at (w4 : World) (P V : Int) (W : World) (c1 c2 : Array Value) (hW : W = (((w4.alloc (.cells c1 43)).alloc (.cells c2 43)).alloc (.cells #[.int .i64 P, .int .i64 V] 43)).drew) :
    Calls Try.prog 49 #[.agg #[.int .i64 P, .int .i64 V]] W fun e w5 => e = .returned (.int .i64 (if ptOk (P, V) = false then 3 else 0)) ∧ Below w4.heap.size w4 w5 ∧
      w5.cell? ⟨w4.heap.size + 1 + 1, 0, none⟩ = some (.int .i64 P) ∧ w5.cell? ⟨w4.heap.size + 1 + 1, 1, none⟩ = some (.int .i64 V) ∧
      (∀ u, c1[0]? = some u → w5.cell? ⟨w4.heap.size, 0, none⟩ = some u) ∧ (∀ u, c2[0]? = some u → w5.cell? ⟨w4.heap.size + 1, 0, none⟩ = some u) := by
  subst hW
  refine (refPoint_any P V _).mono ?_
  rintro e w5 ⟨rfl, b5⟩
  have a1 := (Below.refl w4.heap.size w4).alloc (Nat.le_refl _) (.cells c1 43)
  have a2 := (Below.refl (w4.alloc (.cells c1 43)).heap.size (w4.alloc (.cells c1 43))).alloc (Nat.le_refl _) (.cells c2 43)
  have a3 := (Below.refl ((w4.alloc (.cells c1 43)).alloc (.cells c2 43)).heap.size ((w4.alloc (.cells c1 43)).alloc (.cells c2 43))).alloc (Nat.le_refl _) (.cells #[.int .i64 P, .int .i64 V] 43)
  have bA := belowDrew (belowCall (belowCall a1 a2) a3)
  refine ⟨rfl, belowCall bA b5, ?_, ?_, ?_, ?_⟩
  · rw [b5.cell (p := ⟨w4.heap.size + 1 + 1, 0, none⟩) (by simp)]
    exact World.cell?_alloc_at _ _ _ _ (by simp)
  · rw [b5.cell (p := ⟨w4.heap.size + 1 + 1, 1, none⟩) (by simp)]
    exact World.cell?_alloc_at _ _ _ _ (by simp)
  · intro u hu
    rw [b5.cell (p := ⟨w4.heap.size, 0, none⟩) (by simp; omega)]
    refine (a3.cell (p := ⟨w4.heap.size, 0, none⟩) (by simp; omega)).trans ?_
    refine (a2.cell (p := ⟨w4.heap.size, 0, none⟩) (by simp)).trans ?_
    rw [World.cell?_alloc_at (hn := rfl)]
    exact hu
  · intro u hu
    rw [b5.cell (p := ⟨w4.heap.size + 1, 0, none⟩) (by simp)]
    refine (a3.cell (p := ⟨w4.heap.size + 1, 0, none⟩) (by simp)).trans ?_
    rw [World.cell?_alloc_at (hn := by simp)]
    exact hu

set_option maxHeartbeats 4000000 in
set_option maxRecDepth 100000 in
theorem refUnpack_ok (ao : Option Addr) (cap : Nat) (b : List Bool) (N : Nat) (w : World) (hr : Sl w ao cap (b.map Value.bool)) (hN : N ≤ 40) :
    Calls Try.prog 79 #[.slice ao b.length cap, .int .i64 N] w fun e w' =>
      ∃ a' G, e = .returned (.tuple #[.slice a' (unp N 0 0 0 (-1) b).1.length G, .int .i64 (unp N 0 0 0 (-1) b).2]) ∧ SlP w' a' G (unp N 0 0 0 (-1) b).1 ∧ Below w.heap.size w w' := by
  obtain ⟨D, hD⟩ : ∃ D, D = unp N 0 0 0 (-1) b := ⟨_, rfl⟩
  rw [← hD]
  have HD : Hid (D = wrapU [] (unp (N - 0) 0 0 0 (-1) b)) := by
    refine hide ?_
    rw [Nat.sub_zero, ← hD]
    unfold wrapU
    by_cases h : D.2 = 0
    · rw [if_pos h]; rfl
    · rw [if_neg h]
      have : D.1 = [] := by rw [hD] at h ⊢; exact unp_none _ _ _ _ _ _ h
      exact Prod.ext this rfl
  clear hD
  have i1 := in_any (N : Int) 0 40 w
  rw [decide_eq_true (show 0 ≤ (N : Int) ∧ (N : Int) ≤ 40 by omega)] at i1
  obtain ⟨i0, hi, hz0, hz1, hz2⟩ := info_parts infoPt
  go_enter Try.func79, Try.ntmps79
  go_wp2_with fail
  go_at_call 48
  refine i1.mono ?_
  rintro e w1 ⟨rfl, rfl⟩
  clear i1
  go_wp2_with fail
  have own := ownLaid w [(0, 0), (0, 0)] #[.int .i64 0, .int .i64 0, .int .i64 0, .int .i64 0] rfl 43 2 rfl (by unfold maxLen; omega)
  have bel0 := (Below.refl w.heap.size w).alloc (Nat.le_refl _) (.cells #[.int .i64 0, .int .i64 0, .int .i64 0, .int .i64 0] 43)
  generalize w.alloc _ = w2 at *
  generalize hv0 : Value.slice (some ⟨w.heap.size, 0, none⟩) 2 2 = v0 at *
  clear hv0
  go_loopw [0, 6, 23] (fun bs o i wr => ∃ (k G : Nat) (t v s : Int) (a' : Option Addr) (X : List Bool) (O : List Pt), k ≤ N ∧ i = .int .i64 k ∧ bs = .slice a' X.length G ∧ (0 ≤ t ∧ t ≤ 100000) ∧ (-1000000 ≤ v ∧ v ≤ 1000000) ∧ (-100000 ≤ s ∧ s ≤ 100000) ∧ Hid (O.length = k ∧ ((k = 0 ∧ lastT (-1) O = -1) ∨ (0 < k ∧ lastT (-1) O = t))) ∧ Hid (((0, 0) :: (0, 0) :: O)[k + 1]? = some (t, v) ∧ ∃ y, ((0, 0) :: (0, 0) :: O)[k]? = some (t - s, y)) ∧ Hid (D = wrapU O (unp (N - k) t v s (lastT (-1) O) X)) ∧ wr.ownsRow w.heap.size 43 2 o (k + 2) (cellsP ((0, 0) :: (0, 0) :: O)) ∧ Sl w a' G (X.map Value.bool) ∧ Below w.heap.size w wr) (fun _ _ i _ => N - (intOf i).toNat)
  case atStart => exact ⟨0, cap, 0, 0, 0, ao, b, [], by omega, rfl, rfl, by omega, by omega, by omega, hide ⟨rfl, .inl ⟨rfl, rfl⟩⟩, hide ⟨rfl, 0, rfl⟩, HD, own, hr, bel0⟩
  case round =>
    clear HD own bel0 w2 hr
    obtain ⟨k, G, t, v, s, a', X, O, hk, rfl, rfl, ht, hv, hs, HO, HQ, HD, own, S, bel⟩ := hrel
    by_cases hlt : k < N
    · have HD' := HD.out
      clear HD
      rw [show N - k = (N - (k + 1)) + 1 by omega] at HD'
      have D1 := fun W h => decoded_two a' G X W w h S
      have D2 := fun a G W h h0 => decoded_two a G (zigR X) W w h h0
      by_cases h1 : zigF X = 0
      · rw [h1] at D1
        by_cases h2 : zigF (zigR X) = 0
        · rw [h2] at D2
          have hx := zigN_bound h1
          have hy := zigN_bound h2
          rw [unp, if_neg (fun h => h h1), if_neg (fun h => h h2)] at HD'
          clear h1 h2
          generalize zigN X = x at *
          generalize zigR X = Y at *
          generalize zigN Y = y at *
          generalize zigR Y = Z at *
          obtain ⟨a6, c6, rfl, sp, hlQ, -⟩ := SlP.ofOwn own
          obtain ⟨b6, o6, rfl, hb6⟩ := sp.where (by simp)
          obtain ⟨z, y', e0, e1, hq0, -⟩ := sp.pt k (by rw [hlQ]; omega)
          obtain ⟨t', v', e2, e3, hq1, -⟩ := sp.pt (k + 1) (by rw [hlQ]; omega)
          obtain ⟨hq2, yy, hq3⟩ := HQ.out
          rw [hq2] at hq1
          rw [hq3] at hq0
          simp only [Option.some.injEq, Prod.mk.injEq] at hq0 hq1
          obtain ⟨rfl, rfl⟩ := hq1
          obtain ⟨hz, -⟩ := hq0
          obtain ⟨P, hP⟩ : ∃ P, P = t + (s + x) := ⟨_, rfl⟩
          obtain ⟨V, hV⟩ : ∃ V, V = v + y := ⟨_, rfl⟩
          rw [← hP, ← hV] at HD'
          have hP2 : 2 * t - z + x = P := by omega
          have hP3 : -5000000 ≤ P ∧ P ≤ 5000000 := by omega
          have HS : Hid (s + x = P - t ∧ V = v + y) := hide ⟨by omega, hV⟩
          have hV2 : v + y = V := hV.symm
          obtain ⟨ht0, ht1⟩ := ht
          obtain ⟨hv0, hv1⟩ := hv
          have hza : -100000 ≤ z := by omega
          have hzb : z ≤ 200000 := by omega
          obtain ⟨hx0, hx1⟩ := hx
          obtain ⟨hy0, hy1⟩ := hy
          have HD2 := hide HD'
          clear hz hP hV HD' hq2 hq3 sp hs
          have CP0 := fun w4 : World => refPoint_at w4 P V
          go_wp2_with fail
          go_at_call 85
          refine (D1 _ (S.keep bel (Nat.le_refl _))).mono ?_
          rintro e w3 ⟨a3, G3, rfl, S3, T3, b3⟩
          go_wp2_with fail
          go_at_call 85
          refine (D2 _ _ _ S3 T3).mono ?_
          rintro e w4 ⟨a4, G4, rfl, S4, T4, b4⟩
          have bw := belowCall b3 b4
          have bel4 := belowCall bel bw
          have E0 := (bw.cell (p := ⟨b6, o6 + k * 2, none⟩) hb6).trans e0
          have E1 := (bw.cell (p := ⟨b6, o6 + k * 2 + 1, none⟩) hb6).trans e1
          have E2 := (bw.cell (p := ⟨b6, o6 + (k + 1) * 2, none⟩) hb6).trans e2
          have E3 := (bw.cell (p := ⟨b6, o6 + (k + 1) * 2 + 1, none⟩) hb6).trans e3
          have own4 := ownCall own bw
          have hb4 : b6 < w4.heap.size := Nat.lt_of_lt_of_le hb6 bw.size
          have CP := CP0 w4
          clear e0 e1 e2 e3 S3 T3 b3 S4 b4 bw own bel CP0
          go_wp2_with fail
          go_region
          all_goals go_wp2_with fail
          all_goals
            cases hp : ptOk (P, V) with
            | false =>
              rw [hp, if_pos rfl] at CP
              have hDD : D = ([], 3) := by have := HD2.out; rw [if_pos hp] at this; exact this
              go_at_call 49
              refine (CP _ _ _ rfl).mono ?_
              rintro e w5 ⟨rfl, b45, -⟩
              go_wp2_with fail
              go_ret2
              exact ⟨none, 0, by rw [hDD]; rfl, by rw [hDD]; exact SlP.ofNil _, belowCall bel4 b45⟩
            | true =>
              rw [hp, if_neg (by decide)] at CP
              have hp' := ptOk_true hp
              simp only at hp'
              by_cases hbad : (0 : Int) < (k : Int) ∧ P ≤ t
              · obtain ⟨hk0, hle⟩ := hbad
                have hDD : D = ([], 7) := by
                  have h1 := HD2.out
                  rw [if_neg (by rw [hp]; decide), if_pos (by rcases HO.out.2 with ⟨h, _⟩ | ⟨_, h⟩ <;> omega)] at h1
                  exact h1
                go_at_call 49
                refine (CP _ _ _ rfl).mono ?_
                rintro e w5 ⟨rfl, b45, p0, p1, f1, f2⟩
                have y1 := f1 _ rfl
                have y2 := f2 _ rfl
                go_wp2_with fail
                go_ret2
                exact ⟨none, 0, by rw [hDD]; rfl, by rw [hDD]; exact SlP.ofNil _, belowCall bel4 b45⟩
              · have HD3 : Hid (D = wrapU (O ++ [(P, V)]) (unp (N - (k + 1)) P V (P - t) (lastT (-1) (O ++ [(P, V)])) Z)) := by
                  have h1 := HD2.out
                  rw [if_neg (by rw [hp]; decide), if_neg (by rcases HO.out.2 with ⟨_, h⟩ | ⟨h, h'⟩ <;> omega), wrap_next, HS.out.1] at h1
                  rw [lastT_snoc]
                  exact h1
                have HQ3 : Hid (((0, 0) :: (0, 0) :: (O ++ [(P, V)]))[k + 1 + 1]? = some (P, V) ∧ ∃ y, ((0, 0) :: (0, 0) :: (O ++ [(P, V)]))[k + 1]? = some (P - (P - t), y)) := by
                  refine hide ⟨?_, v, ?_⟩
                  · rw [List.getElem?_cons_succ, List.getElem?_cons_succ, List.getElem?_append_right (by rw [HO.out.1]; exact Nat.le_refl _), HO.out.1, Nat.sub_self]
                    rfl
                  · rw [← List.cons_append, ← List.cons_append, List.getElem?_append_left (by rw [hlQ]; omega), HQ.out.1]
                    simp only [Option.some.injEq, Prod.mk.injEq, and_true]
                    omega
                have HO3 : Hid ((O ++ [(P, V)]).length = k + 1 ∧ ((k + 1 = 0 ∧ lastT (-1) (O ++ [(P, V)]) = -1) ∨ (0 < k + 1 ∧ lastT (-1) (O ++ [(P, V)]) = P))) :=
                  hide ⟨by rw [List.length_append, HO.out.1]; rfl, .inr ⟨Nat.succ_pos _, lastT_snoc _ _ _⟩⟩
                have hor : ((0 : Int) < (k : Int) ∧ ¬ P ≤ t) ∨ ¬ (0 : Int) < (k : Int) := by omega
                rcases hor with ⟨hk0, hle⟩ | hk0
                all_goals (
                  go_at_call 49
                  refine (CP _ _ _ rfl).mono ?_
                  rintro e w5 ⟨rfl, b45, p0, p1, f1, f2⟩
                  have y1 := f1 _ rfl
                  have y2 := f2 _ rfl
                  have own5 := ownCall own4 b45
                  have bel5 := belowCall bel4 b45
                  clear f1 f2 b45 own4 bel4 E0 E1 E2 E3
                  go_wp2_with (at_builtin; refine wpList_append_new _ rfl (.tmp 80) (.tmp 82) 37 rfl w.heap.size 43 i0 _ 2 16 Try.underlying37 hi hz0 hz1 hz2 rfl (by decide) _ (k + 2) _ rfl own5 1 _ _ rfl rfl (by simp [Value.oneCell']) (by decide) (by unfold maxLen; omega) (by omega) bel5.size ?_)
                  intro v6 w6 own6 grow6 went6
                  have own7 : w6.ownsRow w.heap.size 43 2 v6 (k + 1 + 2) (cellsP ((0, 0) :: (0, 0) :: (O ++ [(P, V)]))) := by
                    rw [← List.cons_append, ← List.cons_append, cellsP_append]; exact own6
                  have bel6 := belowGrown bel5 own5 grow6 (Nat.le_refl _) bel5.size
                  clear own6 grow6 went6 own5 bel5
                  generalize O ++ [(P, V)] = O' at *
                  go_wp2_with fail
                  go_roundw
                  case rel => exact ⟨k + 1, G4, P, V, P - t, a4, Z, O', by omega, by go_num, rfl, ⟨hp'.1, hp'.2.1⟩, hp'.2.2, by omega, HO3, HQ3, HD3, own7, T4, bel6⟩
                  case measure => simp [intOf]; omega)
        · rw [unp, if_neg (fun h => h h1), if_pos h2, wrapU, if_neg h2] at HD'
          generalize zigN X = x at *
          generalize zigR X = Y at *
          generalize zigN Y = y at *
          generalize zigF Y = F at *
          generalize zigR Y = Z at *
          subst HD'
          go_wp2_with fail
          go_at_call 85
          refine (D1 _ (S.keep bel (Nat.le_refl _))).mono ?_
          rintro e w3 ⟨a3, G3, rfl, S3, T3, b3⟩
          go_wp2_with fail
          go_at_call 85
          refine (D2 _ _ _ S3 T3).mono ?_
          rintro e w4 ⟨a4, G4, rfl, S4, T4, b4⟩
          go_wp2_with fail
          go_ret2
          exact ⟨none, 0, rfl, SlP.ofNil _, belowCall (belowCall bel b3) b4⟩
      · rw [unp, if_pos h1, wrapU, if_neg h1] at HD'
        generalize zigN X = x at *
        generalize zigF X = F at *
        generalize zigR X = Y at *
        subst HD'
        go_wp2_with fail
        go_at_call 85
        refine (D1 _ (S.keep bel (Nat.le_refl _))).mono ?_
        rintro e w3 ⟨a3, G3, rfl, S3, T3, b3⟩
        go_wp2_with fail
        go_ret2
        exact ⟨none, 0, rfl, SlP.ofNil _, belowCall bel b3⟩
    · obtain rfl : k = N := by omega
      have HD' := HD.out
      clear HD
      rw [Nat.sub_self, unp] at HD'
      obtain ⟨a6, c6, rfl, sp, hlQ, -⟩ := SlP.ofOwn own
      obtain ⟨b6, o6, rfl, hb6⟩ := sp.where (by simp)
      have hc6 : k + 2 ≤ c6 := by have := sp.le; rw [hlQ] at this; exact this
      have hm6 := sp.max
      have HSP := hide sp
      clear sp
      by_cases hz : X.length = 0
      · rw [if_pos hz, wrapU, if_pos rfl, List.append_nil] at HD'
        have hz' : (X.length : Int) = 0 := by omega
        have HDD := hide HD'
        clear HD'
        have hOk := hide HO.out.1
        go_wp2_with fail
        · go_ret2
          have hO0 : O = [] := List.eq_nil_of_length_eq_zero (by rw [hOk.out]; omega)
          refine ⟨some ⟨b6, o6, none⟩, 0, by rw [HDD.out, ← hOk.out]; rfl, by rw [HDD.out, hO0]; exact ⟨.inl rfl, Nat.le_refl _, by decide, fun e => by cases e⟩, bel⟩
        · go_ret2
          exact ⟨some ⟨b6, o6 + 4, none⟩, c6 - 2, by rw [HDD.out, ← hOk.out]; rfl, by rw [HDD.out]; exact HSP.out.tail2, bel⟩
      · rw [if_neg hz, wrapU, if_neg (by decide)] at HD'
        subst HD'
        have hz' : (0 : Int) < (X.length : Int) := by omega
        go_wp2_with fail
        go_ret2
        exact ⟨none, 0, rfl, SlP.ofNil _, bel⟩

theorem refUnpack_no (ao : Option Addr) (len cap : Nat) (n : Int) (w : World) (h : unpIn n = false) :
    Calls Try.prog 79 #[.slice ao len cap, .int .i64 n] w fun e w' => e = .returned (.tuple #[.slice none 0 0, .int .i64 2]) ∧ w = w' := by
  have i1 := in_any n 0 40 w
  rw [show decide (0 ≤ n ∧ n ≤ 40) = false from h] at i1
  go_enter Try.func79, Try.ntmps79
  go_wp2_with fail
  go_at_call 48
  refine i1.mono ?_
  rintro e w1 ⟨rfl, rfl⟩
  go_wp2_with fail
  go_ret2
  exact ⟨rfl, rfl⟩

/-- UnpackedOf, whatever it is handed. -/
theorem refUnpack_any (ao : Option Addr) (cap : Nat) (b : List Bool) (n : Int) (w : World) (hr : Sl w ao cap (b.map Value.bool)) :
    Calls Try.prog 79 #[.slice ao b.length cap, .int .i64 n] w fun e w' =>
      ∃ a' G, e = .returned (.tuple #[.slice a' (unpL b n).length G, .int .i64 (unpE b n)]) ∧ SlP w' a' G (unpL b n) ∧ Below w.heap.size w w' := by
  cases h : unpIn n with
  | true =>
    have hn := (of_decide_eq_true h : 0 ≤ n ∧ n ≤ 40)
    obtain ⟨N, rfl⟩ := Int.eq_ofNat_of_zero_le hn.1
    have e1 : unpL b N = (unp N 0 0 0 (-1) b).1 := by rw [unpL, if_pos h]; rfl
    have e2 : unpE b N = (unp N 0 0 0 (-1) b).2 := by rw [unpE, if_pos h]; rfl
    rw [e1, e2]
    exact refUnpack_ok ao cap b N w hr (by omega)
  | false =>
    have e1 : unpL b n = [] := by rw [unpL, h]; rfl
    have e2 : unpE b n = 2 := by rw [unpE, h]; rfl
    rw [e1, e2]
    refine (refUnpack_no ao b.length cap n w h).mono ?_
    rintro e w' ⟨rfl, rfl⟩
    exact ⟨none, 0, rfl, SlP.ofNil _, Below.refl _ _⟩

end Go.Proofs.Ytabeihkfjlmepaa
