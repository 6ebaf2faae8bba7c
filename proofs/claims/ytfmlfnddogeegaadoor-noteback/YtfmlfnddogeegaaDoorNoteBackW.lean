/-
  NoteBack: the walk.
-/
import Derived.Test.YtfmlfnddogeegaaDoorNNoted
namespace Go.Proofs.YtfmlfnddogeegaaDoor.noteBack
open Go.RowKit
set_option linter.unusedVariables false

theorem parse_back {s : ByteArray} (h : parseE s = 0) : recE (parseR s) = 0 ∧ (⟨(recT (parseR s)).toArray⟩ : ByteArray) = s := by
  unfold parseE at h
  split at h
  · cases h
  · rename_i hb
    unfold parseR
    rw [if_neg hb]
    cases hT : textR s with
    | none => rw [hT] at h; cases h
    | some r =>
      rw [hT] at h
      simp only at h ⊢
      rw [if_pos h]
      exact ⟨h, bytes_eq.2 (back_print hT h)⟩

theorem print_parse {r : Rc} (h : recE r = 0) : parseR ⟨(recT r).toArray⟩ = r ∧ parseE ⟨(recT r).toArray⟩ = 0 := by
  obtain ⟨h1, h2⟩ := back_read h
  have hs : ¬ 60000 < (⟨(recT r).toArray⟩ : ByteArray).size := by
    have : (⟨(recT r).toArray⟩ : ByteArray).size = (recT r).length := by simp [ByteArray.size]
    omega
  unfold parseR parseE
  rw [if_neg hs, if_neg hs, h1]
  simp only [h, if_true, and_self]

set_option maxHeartbeats 4000000 in
set_option maxRecDepth 100000 in
theorem walk (w : World) (r q : Rc) (a1 a2 : Option Addr) (c1 c2 n1 n2 : Nat) (S1 : SlW ec w a1 c1 r.e) (S2 : SlW ec w a2 c2 q.e) (hn1 : n1 = r.e.length) (hn2 : n2 = q.e.length) (s : ByteArray) (hs : s.size ≤ 9223372036854775807) (hg : Gl w) :
    Calls Tryd.prog 4 #[.agg #[.int .i64 r.k, .int .i64 r.s, .int .i64 r.n, .slice a1 n1 c1], .agg #[.int .i64 q.k, .int .i64 q.s, .int .i64 q.n, .slice a2 n2 c2], .string s] w fun e w' => e = .returned (.bool true) ∧ Below w.heap.size w w' := by
  have cP1 := fun W g h => print_is r a1 c1 n1 W g h hn1
  have cP2 := fun W g h => print_is q a2 c2 n2 W g h hn2
  have cS := fun W h1 h2 => same_is r q a1 a2 c1 c2 n1 n2 W h1 h2 hn1 hn2
  have cS1 := fun a7 G7 W h1 h2 => same_is r r a7 a1 G7 c1 n1 n1 W h1 h2 hn1 hn1
  simp only [and_self, decide_true] at cS1
  have cU := fun W g => parse_is s W g hs
  have B1 := (Blk.laid w [.int .i64 r.k, .int .i64 r.s, .int .i64 r.n, .slice a1 n1 c1] 24 _ rfl).keep (newB (Below.refl _ _) (.cells #[.int .i64 q.k, .int .i64 q.s, .int .i64 q.n, .slice a2 n2 c2] 24)) (by simp)
  have B2 := Blk.laid (w.alloc (.cells #[.int .i64 r.k, .int .i64 r.s, .int .i64 r.n, .slice a1 n1 c1] 24)) [.int .i64 q.k, .int .i64 q.s, .int .i64 q.n, .slice a2 n2 c2] 24 (w.heap.size + 1) (by simp)
  have bel := newB (newB (Below.refl w.heap.size w) (.cells #[.int .i64 r.k, .int .i64 r.s, .int .i64 r.n, .slice a1 n1 c1] 24)) (.cells #[.int .i64 q.k, .int .i64 q.s, .int .i64 q.n, .slice a2 n2 c2] 24)
  replace S1 := S1.keep bel (Nat.le_refl _)
  replace S2 := S2.keep bel (Nat.le_refl _)
  have g := hg.call bel
  generalize hw2 : (w.alloc (.cells #[.int .i64 r.k, .int .i64 r.s, .int .i64 r.n, .slice a1 n1 c1] 24)).alloc (.cells #[.int .i64 q.k, .int .i64 q.s, .int .i64 q.n, .slice a2 n2 c2] 24) = w2 at *
  have x0 := B1.cell 0
  have x1 := B1.cell 1
  have x2 := B1.cell 2
  have x3 := B1.cell 3
  have y0 := B2.cell 0
  have y1 := B2.cell 1
  have y2 := B2.cell 2
  have y3 := B2.cell 3
  have l1 := B1.lt
  have l2 := B2.lt
  by_cases h1 : recE r = 0
  · have cT : ∀ W, Gl W → Calls Tryd.prog 6 #[.string ⟨(recT r).toArray⟩] W fun e w' => ∃ a' G, e = .returned (.tuple #[.agg #[.int .i64 r.k, .int .i64 r.s, .int .i64 r.n, .slice a' n1 G], .int .i64 0]) ∧ w'.ownsRow W.heap.size 43 3 (.slice a' n1 G) n1 (r.e.flatMap ec) ∧ Below W.heap.size W w' := by
      intro W gW
      obtain ⟨p1, p2⟩ := print_parse h1
      have c := parse_is ⟨(recT r).toArray⟩ W gW (by have := (back_read h1).2; simp [ByteArray.size]; omega)
      rw [p1, p2, ← hn1] at c
      exact c
    simp only [h1] at cP1
    by_cases h2 : recE q = 0
    · simp only [h2] at cP2
      by_cases hrq : r = q
      · subst hrq
        simp only [and_self, decide_true] at cS
        replace h1 := hide h1
        clear h2
        replace hn1 := hide hn1
        replace hn2 := hide hn2
        generalize (⟨(recT r).toArray⟩ : ByteArray) = tB at *
        go_enter Tryd.func4, Tryd.ntmps4
        go_wp2_with fail
        go_at_call 5
        refine (cP1 _ g S1).mono ?_
        rintro e w3 ⟨rfl, b3⟩
        clear x0 x1 x2 x3 y0 y1 y2 y3 l1 l2
        replace B1 := B1.keep b3 B1.lt
        replace B2 := B2.keep b3 B2.lt
        replace S1 := S1.call b3
        replace S2 := S2.call b3
        replace g := g.call b3
        replace bel := belowCall bel b3
        have x0 := B1.cell 0
        have x1 := B1.cell 1
        have x2 := B1.cell 2
        have x3 := B1.cell 3
        have y0 := B2.cell 0
        have y1 := B2.cell 1
        have y2 := B2.cell 2
        have y3 := B2.cell 3
        have l1 := B1.lt
        have l2 := B2.lt
        go_wp2_with fail
        go_at_call 5
        refine (cP2 _ g S2).mono ?_
        rintro e w4 ⟨rfl, b4⟩
        clear x0 x1 x2 x3 y0 y1 y2 y3 l1 l2
        replace B1 := B1.keep b4 B1.lt
        replace B2 := B2.keep b4 B2.lt
        replace S1 := S1.call b4
        replace S2 := S2.call b4
        replace g := g.call b4
        replace bel := belowCall bel b4
        have x0 := B1.cell 0
        have x1 := B1.cell 1
        have x2 := B1.cell 2
        have x3 := B1.cell 3
        have y0 := B2.cell 0
        have y1 := B2.cell 1
        have y2 := B2.cell 2
        have y3 := B2.cell 3
        have l1 := B1.lt
        have l2 := B2.lt
        go_wp2_with fail
        go_at_call 8
        refine (noted_any _ g).mono ?_
        rintro e w5 ⟨rfl, b5⟩
        clear x0 x1 x2 x3 y0 y1 y2 y3 l1 l2
        replace B1 := B1.keep b5 B1.lt
        replace B2 := B2.keep b5 B2.lt
        replace S1 := S1.call b5
        replace S2 := S2.call b5
        replace g := g.call b5
        replace bel := belowCall bel b5
        have x0 := B1.cell 0
        have x1 := B1.cell 1
        have x2 := B1.cell 2
        have x3 := B1.cell 3
        have y0 := B2.cell 0
        have y1 := B2.cell 1
        have y2 := B2.cell 2
        have y3 := B2.cell 3
        have l1 := B1.lt
        have l2 := B2.lt
        go_wp2_with fail
        go_at_call 10
        refine (cS _ S1 S2).mono ?_
        rintro e w6 ⟨rfl, b6⟩
        clear x0 x1 x2 x3 y0 y1 y2 y3 l1 l2
        replace B1 := B1.keep b6 B1.lt
        replace B2 := B2.keep b6 B2.lt
        replace S1 := S1.call b6
        replace S2 := S2.call b6
        replace g := g.call b6
        replace bel := belowCall bel b6
        have x0 := B1.cell 0
        have x1 := B1.cell 1
        have x2 := B1.cell 2
        have x3 := B1.cell 3
        have y0 := B2.cell 0
        have y1 := B2.cell 1
        have y2 := B2.cell 2
        have y3 := B2.cell 3
        have l1 := B1.lt
        have l2 := B2.lt
        go_wp2_with fail
        go_at_call 6
        refine (cT _ g).mono ?_
        rintro e w7 ⟨a7, G7, rfl, o7, b7⟩
        clear x0 x1 x2 x3 y0 y1 y2 y3 l1 l2
        replace B1 := B1.keep b7 B1.lt
        replace B2 := B2.keep b7 B2.lt
        replace S1 := S1.call b7
        replace S2 := S2.call b7
        replace g := g.call b7
        replace bel := belowCall bel b7
        have S7 : SlW ec w7 a7 G7 r.e := by
          obtain ⟨a8, G8, e8, s8, _, _⟩ := SlW.ofOwn ec_three (by decide) o7
          simp only [Value.slice.injEq, true_and] at e8
          obtain ⟨rfl, rfl⟩ := e8
          exact s8
        have B7 := Blk.laid w7 [.int .i64 r.k, .int .i64 r.s, .int .i64 r.n, .slice a7 n1 G7] 24 _ rfl
        have bq := newB (Below.refl w7.heap.size w7) (.cells #[.int .i64 r.k, .int .i64 r.s, .int .i64 r.n, .slice a7 n1 G7] 24)
        replace S7 := S7.call bq
        replace B1 := B1.keep bq B1.lt
        replace B2 := B2.keep bq B2.lt
        replace S1 := S1.call bq
        replace S2 := S2.call bq
        replace g := g.call bq
        replace bel := belowCall bel bq
        go_upto_region 7 with fail
        generalize w7.heap.size = gQ at *
        generalize w7.alloc _ = w8 at *
        have z0 := B7.cell 0
        have z1 := B7.cell 1
        have z2 := B7.cell 2
        have z3 := B7.cell 3
        have l7 := B7.lt
        have x0 := B1.cell 0
        have x1 := B1.cell 1
        have x2 := B1.cell 2
        have x3 := B1.cell 3
        have y0 := B2.cell 0
        have y1 := B2.cell 1
        have y2 := B2.cell 2
        have y3 := B2.cell 3
        have l1 := B1.lt
        have l2 := B2.lt
        go_wp2_with fail
        go_at_call 10
        refine (cS1 _ _ _ S7 S1).mono ?_
        rintro e w9 ⟨rfl, b9⟩
        clear x0 x1 x2 x3 y0 y1 y2 y3 l1 l2
        clear z0 z1 z2 z3 l7 B7 bq b7 o7 S7
        replace B1 := B1.keep b9 B1.lt
        replace B2 := B2.keep b9 B2.lt
        replace S1 := S1.call b9
        replace S2 := S2.call b9
        replace g := g.call b9
        replace bel := belowCall bel b9
        go_wp2_with fail
        go_at_call 6
        refine (cU _ g).mono ?_
        rintro e wA ⟨aA, GA, rfl, oA, bA⟩
        replace g := g.call bA
        replace bel := belowCall bel bA
        have SA : SlW ec wA aA GA (parseR s).e := by
          obtain ⟨a8, G8, e8, s8, _, _⟩ := SlW.ofOwn ec_three (by decide) oA
          simp only [Value.slice.injEq, true_and] at e8
          obtain ⟨rfl, rfl⟩ := e8
          exact s8
        obtain ⟨E2, hE2⟩ : ∃ E2, E2 = parseE s := ⟨_, rfl⟩
        rw [← hE2]
        obtain ⟨rr, hrr⟩ : ∃ rr, rr = parseR s := ⟨_, rfl⟩
        rw [← hrr] at SA ⊢
        obtain ⟨nr, hnr⟩ : ∃ nr, nr = rr.e.length := ⟨_, rfl⟩
        rw [← hnr]
        by_cases h2 : E2 = 0
        · have hfin := parse_back (s := s) (by rw [← hE2]; exact h2)
          rw [← hrr] at hfin
          obtain ⟨hf1, hf2⟩ := hfin
          have cV := fun W g h => print_is rr aA GA nr W g h hnr
          rw [hf1, hf2] at cV
          subst h2
          have BQ := Blk.laid wA [.int .i64 rr.k, .int .i64 rr.s, .int .i64 rr.n, .slice aA nr GA] 24 _ rfl
          have bq := newB (Below.refl wA.heap.size wA) (.cells #[.int .i64 rr.k, .int .i64 rr.s, .int .i64 rr.n, .slice aA nr GA] 24)
          replace SA := SA.call bq
          replace g := g.call bq
          replace bel := belowCall bel bq
          replace hE2 := hide hE2
          replace hrr := hide hrr
          replace hnr := hide hnr
          replace hf1 := hide hf1
          replace hf2 := hide hf2
          go_upto_region 10 with fail
          generalize wA.heap.size = gQ2 at *
          generalize wA.alloc _ = wB at *
          have z0 := BQ.cell 0
          have z1 := BQ.cell 1
          have z2 := BQ.cell 2
          have z3 := BQ.cell 3
          have lQ := BQ.lt
          go_wp2_with fail
          go_at_call 5
          refine (cV _ g SA).mono ?_
          rintro e wC ⟨rfl, bC⟩
          go_wp2_with fail
          go_ret
          exact ⟨rfl, belowCall bel bC⟩
        · have h2' : decide (E2 = 0) = false := decide_eq_false h2
          replace hE2 := hide hE2
          replace hrr := hide hrr
          replace hnr := hide hnr
          go_wp2_with fail
          go_ret
          exact ⟨rfl, newB bel _⟩
      · have hT : ¬ (⟨(recT r).toArray⟩ : ByteArray) = ⟨(recT q).toArray⟩ := fun e => hrq (recT_inj h1 h2 (by have := bytes_eq.1 e; rw [bytes_mk] at this; exact this))
        have hS : ¬ (r.k = q.k ∧ r.s = q.s ∧ r.n = q.n ∧ r.e = q.e) := by
          rintro ⟨k1, k2, k3, k4⟩
          apply hrq
          cases r
          cases q
          simp only at k1 k2 k3 k4
          subst k1
          subst k2
          subst k3
          subst k4
          rfl
        simp only [decide_eq_false hS] at cS
        replace h1 := hide h1
        replace h2 := hide h2
        replace hrq := hide hrq
        replace hS := hide hS
        replace hn1 := hide hn1
        replace hn2 := hide hn2
        generalize (⟨(recT r).toArray⟩ : ByteArray) = tB at *
        generalize (⟨(recT q).toArray⟩ : ByteArray) = uB at *
        have hT1 : (tB.toList == uB.toList) = false := by
          rw [beq_eq_false_iff_ne, toList_bytes, toList_bytes]
          intro e
          apply hT
          have h3 := bytes_eq.2 e
          rw [show (⟨(bytes tB).toArray⟩ : ByteArray) = tB from bytes_eq.2 rfl] at h3
          exact h3
        go_enter Tryd.func4, Tryd.ntmps4
        go_wp2_with fail
        go_at_call 5
        refine (cP1 _ g S1).mono ?_
        rintro e w3 ⟨rfl, b3⟩
        clear x0 x1 x2 x3 y0 y1 y2 y3 l1 l2
        replace B1 := B1.keep b3 B1.lt
        replace B2 := B2.keep b3 B2.lt
        replace S1 := S1.call b3
        replace S2 := S2.call b3
        replace g := g.call b3
        replace bel := belowCall bel b3
        have x0 := B1.cell 0
        have x1 := B1.cell 1
        have x2 := B1.cell 2
        have x3 := B1.cell 3
        have y0 := B2.cell 0
        have y1 := B2.cell 1
        have y2 := B2.cell 2
        have y3 := B2.cell 3
        have l1 := B1.lt
        have l2 := B2.lt
        go_wp2_with fail
        go_at_call 5
        refine (cP2 _ g S2).mono ?_
        rintro e w4 ⟨rfl, b4⟩
        clear x0 x1 x2 x3 y0 y1 y2 y3 l1 l2
        replace B1 := B1.keep b4 B1.lt
        replace B2 := B2.keep b4 B2.lt
        replace S1 := S1.call b4
        replace S2 := S2.call b4
        replace g := g.call b4
        replace bel := belowCall bel b4
        have x0 := B1.cell 0
        have x1 := B1.cell 1
        have x2 := B1.cell 2
        have x3 := B1.cell 3
        have y0 := B2.cell 0
        have y1 := B2.cell 1
        have y2 := B2.cell 2
        have y3 := B2.cell 3
        have l1 := B1.lt
        have l2 := B2.lt
        go_wp2_with fail
        go_at_call 8
        refine (noted_any _ g).mono ?_
        rintro e w5 ⟨rfl, b5⟩
        clear x0 x1 x2 x3 y0 y1 y2 y3 l1 l2
        replace B1 := B1.keep b5 B1.lt
        replace B2 := B2.keep b5 B2.lt
        replace S1 := S1.call b5
        replace S2 := S2.call b5
        replace g := g.call b5
        replace bel := belowCall bel b5
        have x0 := B1.cell 0
        have x1 := B1.cell 1
        have x2 := B1.cell 2
        have x3 := B1.cell 3
        have y0 := B2.cell 0
        have y1 := B2.cell 1
        have y2 := B2.cell 2
        have y3 := B2.cell 3
        have l1 := B1.lt
        have l2 := B2.lt
        go_wp2_with fail
        go_at_call 10
        refine (cS _ S1 S2).mono ?_
        rintro e w6 ⟨rfl, b6⟩
        clear x0 x1 x2 x3 y0 y1 y2 y3 l1 l2
        replace B1 := B1.keep b6 B1.lt
        replace B2 := B2.keep b6 B2.lt
        replace S1 := S1.call b6
        replace S2 := S2.call b6
        replace g := g.call b6
        replace bel := belowCall bel b6
        have x0 := B1.cell 0
        have x1 := B1.cell 1
        have x2 := B1.cell 2
        have x3 := B1.cell 3
        have y0 := B2.cell 0
        have y1 := B2.cell 1
        have y2 := B2.cell 2
        have y3 := B2.cell 3
        have l1 := B1.lt
        have l2 := B2.lt
        go_wp2_with fail
        go_at_call 6
        refine (cT _ g).mono ?_
        rintro e w7 ⟨a7, G7, rfl, o7, b7⟩
        clear x0 x1 x2 x3 y0 y1 y2 y3 l1 l2
        replace B1 := B1.keep b7 B1.lt
        replace B2 := B2.keep b7 B2.lt
        replace S1 := S1.call b7
        replace S2 := S2.call b7
        replace g := g.call b7
        replace bel := belowCall bel b7
        have S7 : SlW ec w7 a7 G7 r.e := by
          obtain ⟨a8, G8, e8, s8, _, _⟩ := SlW.ofOwn ec_three (by decide) o7
          simp only [Value.slice.injEq, true_and] at e8
          obtain ⟨rfl, rfl⟩ := e8
          exact s8
        have B7 := Blk.laid w7 [.int .i64 r.k, .int .i64 r.s, .int .i64 r.n, .slice a7 n1 G7] 24 _ rfl
        have bq := newB (Below.refl w7.heap.size w7) (.cells #[.int .i64 r.k, .int .i64 r.s, .int .i64 r.n, .slice a7 n1 G7] 24)
        replace S7 := S7.call bq
        replace B1 := B1.keep bq B1.lt
        replace B2 := B2.keep bq B2.lt
        replace S1 := S1.call bq
        replace S2 := S2.call bq
        replace g := g.call bq
        replace bel := belowCall bel bq
        go_upto_region 7 with fail
        generalize w7.heap.size = gQ at *
        generalize w7.alloc _ = w8 at *
        have z0 := B7.cell 0
        have z1 := B7.cell 1
        have z2 := B7.cell 2
        have z3 := B7.cell 3
        have l7 := B7.lt
        have x0 := B1.cell 0
        have x1 := B1.cell 1
        have x2 := B1.cell 2
        have x3 := B1.cell 3
        have y0 := B2.cell 0
        have y1 := B2.cell 1
        have y2 := B2.cell 2
        have y3 := B2.cell 3
        have l1 := B1.lt
        have l2 := B2.lt
        go_wp2_with fail
        go_at_call 10
        refine (cS1 _ _ _ S7 S1).mono ?_
        rintro e w9 ⟨rfl, b9⟩
        clear x0 x1 x2 x3 y0 y1 y2 y3 l1 l2
        clear z0 z1 z2 z3 l7 B7 bq b7 o7 S7
        replace B1 := B1.keep b9 B1.lt
        replace B2 := B2.keep b9 B2.lt
        replace S1 := S1.call b9
        replace S2 := S2.call b9
        replace g := g.call b9
        replace bel := belowCall bel b9
        go_wp2_with fail
        go_at_call 6
        refine (cU _ g).mono ?_
        rintro e wA ⟨aA, GA, rfl, oA, bA⟩
        replace g := g.call bA
        replace bel := belowCall bel bA
        have SA : SlW ec wA aA GA (parseR s).e := by
          obtain ⟨a8, G8, e8, s8, _, _⟩ := SlW.ofOwn ec_three (by decide) oA
          simp only [Value.slice.injEq, true_and] at e8
          obtain ⟨rfl, rfl⟩ := e8
          exact s8
        obtain ⟨E2, hE2⟩ : ∃ E2, E2 = parseE s := ⟨_, rfl⟩
        rw [← hE2]
        obtain ⟨rr, hrr⟩ : ∃ rr, rr = parseR s := ⟨_, rfl⟩
        rw [← hrr] at SA ⊢
        obtain ⟨nr, hnr⟩ : ∃ nr, nr = rr.e.length := ⟨_, rfl⟩
        rw [← hnr]
        by_cases h2 : E2 = 0
        · have hfin := parse_back (s := s) (by rw [← hE2]; exact h2)
          rw [← hrr] at hfin
          obtain ⟨hf1, hf2⟩ := hfin
          have cV := fun W g h => print_is rr aA GA nr W g h hnr
          rw [hf1, hf2] at cV
          subst h2
          have BQ := Blk.laid wA [.int .i64 rr.k, .int .i64 rr.s, .int .i64 rr.n, .slice aA nr GA] 24 _ rfl
          have bq := newB (Below.refl wA.heap.size wA) (.cells #[.int .i64 rr.k, .int .i64 rr.s, .int .i64 rr.n, .slice aA nr GA] 24)
          replace SA := SA.call bq
          replace g := g.call bq
          replace bel := belowCall bel bq
          replace hE2 := hide hE2
          replace hrr := hide hrr
          replace hnr := hide hnr
          replace hf1 := hide hf1
          replace hf2 := hide hf2
          go_upto_region 10 with fail
          generalize wA.heap.size = gQ2 at *
          generalize wA.alloc _ = wB at *
          have z0 := BQ.cell 0
          have z1 := BQ.cell 1
          have z2 := BQ.cell 2
          have z3 := BQ.cell 3
          have lQ := BQ.lt
          go_wp2_with fail
          go_at_call 5
          refine (cV _ g SA).mono ?_
          rintro e wC ⟨rfl, bC⟩
          go_wp2_with fail
          go_ret
          exact ⟨rfl, belowCall bel bC⟩
        · have h2' : decide (E2 = 0) = false := decide_eq_false h2
          replace hE2 := hide hE2
          replace hrr := hide hrr
          replace hnr := hide hnr
          go_wp2_with fail
          go_ret
          exact ⟨rfl, newB bel _⟩
    · obtain ⟨F, hF⟩ : ∃ F, F = recE q := ⟨_, rfl⟩
      rw [← hF] at cP2 h2
      have hF' : decide (F = 0) = false := decide_eq_false h2
      replace hF := hide hF
      replace h1 := hide h1
      replace hn1 := hide hn1
      replace hn2 := hide hn2
      generalize (⟨(recT r).toArray⟩ : ByteArray) = tB at *
      generalize (⟨(recT q).toArray⟩ : ByteArray) = uB at *
      go_enter Tryd.func4, Tryd.ntmps4
      go_wp2_with fail
      go_at_call 5
      refine (cP1 _ g S1).mono ?_
      rintro e w3 ⟨rfl, b3⟩
      clear x0 x1 x2 x3 y0 y1 y2 y3 l1 l2
      replace B1 := B1.keep b3 B1.lt
      replace B2 := B2.keep b3 B2.lt
      replace S1 := S1.call b3
      replace S2 := S2.call b3
      replace g := g.call b3
      replace bel := belowCall bel b3
      have x0 := B1.cell 0
      have x1 := B1.cell 1
      have x2 := B1.cell 2
      have x3 := B1.cell 3
      have y0 := B2.cell 0
      have y1 := B2.cell 1
      have y2 := B2.cell 2
      have y3 := B2.cell 3
      have l1 := B1.lt
      have l2 := B2.lt
      go_wp2_with fail
      go_at_call 5
      refine (cP2 _ g S2).mono ?_
      rintro e w4 ⟨rfl, b4⟩
      clear x0 x1 x2 x3 y0 y1 y2 y3 l1 l2
      replace B1 := B1.keep b4 B1.lt
      replace B2 := B2.keep b4 B2.lt
      replace S1 := S1.call b4
      replace S2 := S2.call b4
      replace g := g.call b4
      replace bel := belowCall bel b4
      have x0 := B1.cell 0
      have x1 := B1.cell 1
      have x2 := B1.cell 2
      have x3 := B1.cell 3
      have y0 := B2.cell 0
      have y1 := B2.cell 1
      have y2 := B2.cell 2
      have y3 := B2.cell 3
      have l1 := B1.lt
      have l2 := B2.lt
      go_wp2_with fail
      go_at_call 8
      refine (noted_any _ g).mono ?_
      rintro e w5 ⟨rfl, b5⟩
      clear x0 x1 x2 x3 y0 y1 y2 y3 l1 l2
      replace B1 := B1.keep b5 B1.lt
      replace B2 := B2.keep b5 B2.lt
      replace S1 := S1.call b5
      replace S2 := S2.call b5
      replace g := g.call b5
      replace bel := belowCall bel b5
      have x0 := B1.cell 0
      have x1 := B1.cell 1
      have x2 := B1.cell 2
      have x3 := B1.cell 3
      have y0 := B2.cell 0
      have y1 := B2.cell 1
      have y2 := B2.cell 2
      have y3 := B2.cell 3
      have l1 := B1.lt
      have l2 := B2.lt
      go_wp2_with fail
      go_at_call 6
      refine (cT _ g).mono ?_
      rintro e w7 ⟨a7, G7, rfl, o7, b7⟩
      clear x0 x1 x2 x3 y0 y1 y2 y3 l1 l2
      replace B1 := B1.keep b7 B1.lt
      replace B2 := B2.keep b7 B2.lt
      replace S1 := S1.call b7
      replace S2 := S2.call b7
      replace g := g.call b7
      replace bel := belowCall bel b7
      have S7 : SlW ec w7 a7 G7 r.e := by
        obtain ⟨a8, G8, e8, s8, _, _⟩ := SlW.ofOwn ec_three (by decide) o7
        simp only [Value.slice.injEq, true_and] at e8
        obtain ⟨rfl, rfl⟩ := e8
        exact s8
      have B7 := Blk.laid w7 [.int .i64 r.k, .int .i64 r.s, .int .i64 r.n, .slice a7 n1 G7] 24 _ rfl
      have bq := newB (Below.refl w7.heap.size w7) (.cells #[.int .i64 r.k, .int .i64 r.s, .int .i64 r.n, .slice a7 n1 G7] 24)
      replace S7 := S7.call bq
      replace B1 := B1.keep bq B1.lt
      replace B2 := B2.keep bq B2.lt
      replace S1 := S1.call bq
      replace S2 := S2.call bq
      replace g := g.call bq
      replace bel := belowCall bel bq
      go_upto_region 7 with fail
      generalize w7.heap.size = gQ at *
      generalize w7.alloc _ = w8 at *
      have z0 := B7.cell 0
      have z1 := B7.cell 1
      have z2 := B7.cell 2
      have z3 := B7.cell 3
      have l7 := B7.lt
      have x0 := B1.cell 0
      have x1 := B1.cell 1
      have x2 := B1.cell 2
      have x3 := B1.cell 3
      have y0 := B2.cell 0
      have y1 := B2.cell 1
      have y2 := B2.cell 2
      have y3 := B2.cell 3
      have l1 := B1.lt
      have l2 := B2.lt
      go_wp2_with fail
      go_at_call 10
      refine (cS1 _ _ _ S7 S1).mono ?_
      rintro e w9 ⟨rfl, b9⟩
      clear x0 x1 x2 x3 y0 y1 y2 y3 l1 l2
      clear z0 z1 z2 z3 l7 B7 bq b7 o7 S7
      replace B1 := B1.keep b9 B1.lt
      replace B2 := B2.keep b9 B2.lt
      replace S1 := S1.call b9
      replace S2 := S2.call b9
      replace g := g.call b9
      replace bel := belowCall bel b9
      go_wp2_with fail
      go_at_call 6
      refine (cU _ g).mono ?_
      rintro e wA ⟨aA, GA, rfl, oA, bA⟩
      replace g := g.call bA
      replace bel := belowCall bel bA
      have SA : SlW ec wA aA GA (parseR s).e := by
        obtain ⟨a8, G8, e8, s8, _, _⟩ := SlW.ofOwn ec_three (by decide) oA
        simp only [Value.slice.injEq, true_and] at e8
        obtain ⟨rfl, rfl⟩ := e8
        exact s8
      obtain ⟨E2, hE2⟩ : ∃ E2, E2 = parseE s := ⟨_, rfl⟩
      rw [← hE2]
      obtain ⟨rr, hrr⟩ : ∃ rr, rr = parseR s := ⟨_, rfl⟩
      rw [← hrr] at SA ⊢
      obtain ⟨nr, hnr⟩ : ∃ nr, nr = rr.e.length := ⟨_, rfl⟩
      rw [← hnr]
      by_cases h2 : E2 = 0
      · have hfin := parse_back (s := s) (by rw [← hE2]; exact h2)
        rw [← hrr] at hfin
        obtain ⟨hf1, hf2⟩ := hfin
        have cV := fun W g h => print_is rr aA GA nr W g h hnr
        rw [hf1, hf2] at cV
        subst h2
        have BQ := Blk.laid wA [.int .i64 rr.k, .int .i64 rr.s, .int .i64 rr.n, .slice aA nr GA] 24 _ rfl
        have bq := newB (Below.refl wA.heap.size wA) (.cells #[.int .i64 rr.k, .int .i64 rr.s, .int .i64 rr.n, .slice aA nr GA] 24)
        replace SA := SA.call bq
        replace g := g.call bq
        replace bel := belowCall bel bq
        replace hE2 := hide hE2
        replace hrr := hide hrr
        replace hnr := hide hnr
        replace hf1 := hide hf1
        replace hf2 := hide hf2
        go_upto_region 10 with fail
        generalize wA.heap.size = gQ2 at *
        generalize wA.alloc _ = wB at *
        have z0 := BQ.cell 0
        have z1 := BQ.cell 1
        have z2 := BQ.cell 2
        have z3 := BQ.cell 3
        have lQ := BQ.lt
        go_wp2_with fail
        go_at_call 5
        refine (cV _ g SA).mono ?_
        rintro e wC ⟨rfl, bC⟩
        go_wp2_with fail
        go_ret
        exact ⟨rfl, belowCall bel bC⟩
      · have h2' : decide (E2 = 0) = false := decide_eq_false h2
        replace hE2 := hide hE2
        replace hrr := hide hrr
        replace hnr := hide hnr
        go_wp2_with fail
        go_ret
        exact ⟨rfl, newB bel _⟩
  · obtain ⟨F, hF⟩ : ∃ F, F = recE r := ⟨_, rfl⟩
    rw [← hF] at cP1 h1
    have hF' : decide (F = 0) = false := decide_eq_false h1
    replace hF := hide hF
    obtain ⟨F2, hF2⟩ : ∃ F2, F2 = recE q := ⟨_, rfl⟩
    rw [← hF2] at cP2
    replace hF2 := hide hF2
    replace hn1 := hide hn1
    replace hn2 := hide hn2
    generalize (⟨(recT r).toArray⟩ : ByteArray) = tB at *
    generalize (⟨(recT q).toArray⟩ : ByteArray) = uB at *
    go_enter Tryd.func4, Tryd.ntmps4
    go_wp2_with fail
    go_at_call 5
    refine (cP1 _ g S1).mono ?_
    rintro e w3 ⟨rfl, b3⟩
    clear x0 x1 x2 x3 y0 y1 y2 y3 l1 l2
    replace B1 := B1.keep b3 B1.lt
    replace B2 := B2.keep b3 B2.lt
    replace S1 := S1.call b3
    replace S2 := S2.call b3
    replace g := g.call b3
    replace bel := belowCall bel b3
    have x0 := B1.cell 0
    have x1 := B1.cell 1
    have x2 := B1.cell 2
    have x3 := B1.cell 3
    have y0 := B2.cell 0
    have y1 := B2.cell 1
    have y2 := B2.cell 2
    have y3 := B2.cell 3
    have l1 := B1.lt
    have l2 := B2.lt
    go_wp2_with fail
    go_at_call 5
    refine (cP2 _ g S2).mono ?_
    rintro e w4 ⟨rfl, b4⟩
    clear x0 x1 x2 x3 y0 y1 y2 y3 l1 l2
    replace B1 := B1.keep b4 B1.lt
    replace B2 := B2.keep b4 B2.lt
    replace S1 := S1.call b4
    replace S2 := S2.call b4
    replace g := g.call b4
    replace bel := belowCall bel b4
    have x0 := B1.cell 0
    have x1 := B1.cell 1
    have x2 := B1.cell 2
    have x3 := B1.cell 3
    have y0 := B2.cell 0
    have y1 := B2.cell 1
    have y2 := B2.cell 2
    have y3 := B2.cell 3
    have l1 := B1.lt
    have l2 := B2.lt
    go_wp2_with fail
    go_at_call 8
    refine (noted_any _ g).mono ?_
    rintro e w5 ⟨rfl, b5⟩
    clear x0 x1 x2 x3 y0 y1 y2 y3 l1 l2
    replace B1 := B1.keep b5 B1.lt
    replace B2 := B2.keep b5 B2.lt
    replace S1 := S1.call b5
    replace S2 := S2.call b5
    replace g := g.call b5
    replace bel := belowCall bel b5
    have x0 := B1.cell 0
    have x1 := B1.cell 1
    have x2 := B1.cell 2
    have x3 := B1.cell 3
    have y0 := B2.cell 0
    have y1 := B2.cell 1
    have y2 := B2.cell 2
    have y3 := B2.cell 3
    have l1 := B1.lt
    have l2 := B2.lt
    go_wp2_with fail
    go_at_call 6
    refine (cU _ g).mono ?_
    rintro e wA ⟨aA, GA, rfl, oA, bA⟩
    replace g := g.call bA
    replace bel := belowCall bel bA
    have SA : SlW ec wA aA GA (parseR s).e := by
      obtain ⟨a8, G8, e8, s8, _, _⟩ := SlW.ofOwn ec_three (by decide) oA
      simp only [Value.slice.injEq, true_and] at e8
      obtain ⟨rfl, rfl⟩ := e8
      exact s8
    obtain ⟨E2, hE2⟩ : ∃ E2, E2 = parseE s := ⟨_, rfl⟩
    rw [← hE2]
    obtain ⟨rr, hrr⟩ : ∃ rr, rr = parseR s := ⟨_, rfl⟩
    rw [← hrr] at SA ⊢
    obtain ⟨nr, hnr⟩ : ∃ nr, nr = rr.e.length := ⟨_, rfl⟩
    rw [← hnr]
    by_cases h2 : E2 = 0
    · have hfin := parse_back (s := s) (by rw [← hE2]; exact h2)
      rw [← hrr] at hfin
      obtain ⟨hf1, hf2⟩ := hfin
      have cV := fun W g h => print_is rr aA GA nr W g h hnr
      rw [hf1, hf2] at cV
      subst h2
      have BQ := Blk.laid wA [.int .i64 rr.k, .int .i64 rr.s, .int .i64 rr.n, .slice aA nr GA] 24 _ rfl
      have bq := newB (Below.refl wA.heap.size wA) (.cells #[.int .i64 rr.k, .int .i64 rr.s, .int .i64 rr.n, .slice aA nr GA] 24)
      replace SA := SA.call bq
      replace g := g.call bq
      replace bel := belowCall bel bq
      replace hE2 := hide hE2
      replace hrr := hide hrr
      replace hnr := hide hnr
      replace hf1 := hide hf1
      replace hf2 := hide hf2
      go_upto_region 10 with fail
      generalize wA.heap.size = gQ2 at *
      generalize wA.alloc _ = wB at *
      have z0 := BQ.cell 0
      have z1 := BQ.cell 1
      have z2 := BQ.cell 2
      have z3 := BQ.cell 3
      have lQ := BQ.lt
      go_wp2_with fail
      go_at_call 5
      refine (cV _ g SA).mono ?_
      rintro e wC ⟨rfl, bC⟩
      go_wp2_with fail
      go_ret
      exact ⟨rfl, belowCall bel bC⟩
    · have h2' : decide (E2 = 0) = false := decide_eq_false h2
      replace hE2 := hide hE2
      replace hrr := hide hrr
      replace hnr := hide hnr
      go_wp2_with fail
      go_ret
      exact ⟨rfl, newB bel _⟩

end Go.Proofs.YtfmlfnddogeegaaDoor.noteBack
