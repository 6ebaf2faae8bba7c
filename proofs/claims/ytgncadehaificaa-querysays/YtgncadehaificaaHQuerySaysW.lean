/-
  Proved: for any shelf, series, range and width, QuerySays returns true and leaves its arguments as they were: Range, Buckets and Last answer as the document does.
-/
import Derived.Test.YtgncadehaificaaRows
import Derived.Deep.RegionHeld3
import Derived.Test.YtgncadehaificaaHAsked
import Derived.Test.YtgncadehaificaaHRefBuck
import Derived.Test.YtgncadehaificaaP36
import Derived.Test.YtgncadehaificaaP38
import Derived.Test.YtgncadehaificaaP24
import Derived.Test.YtgncadehaificaaP06
namespace Go.Proofs.Ytgncadehaificaa.querySays
open Go.ChangeShapes Go.WideShapes Go.ChangeAt Go.RowKit
set_option linter.unusedVariables false

theorem check_ref {C : List Rw} {a : Option Addr} {G : Nat} {W : World} (h : IsS W a G C) :
    Calls Try.prog 15 #[.agg #[.slice a C.length G]] W fun e w' => e = .returned (.int .i64 (shelfE C)) ∧ Below W.heap.size W w' := by
  obtain ⟨rs, rfl, s⟩ := h.ex
  rw [List.length_map]
  exact refShelf_any rs a G W s

theorem buck_all (l : List Pt) (ao : Option Addr) (cap n : Nat) (f t wd : Int) (w : World) (S : SlP w ao cap l) (hn : l.length = n) (few : n ≤ 40) (hr : Rises l) (hv : ∀ p ∈ l, (Lit.int .i64 p.2).wf = true) :
    Calls Try.prog 33 #[.slice ao n cap, .int .i64 f, .int .i64 t, .int .i64 wd] w fun e w' => ∃ a' G', e = .returned (.tuple #[.slice a' (rbL l f t wd).length G', .int .i64 (cutE f t wd)]) ∧ SlW bc w' a' G' (rbL l f t wd) ∧ Below w.heap.size w w' := by
  by_cases h : 0 ≤ f ∧ f ≤ t ∧ t ≤ 100001 ∧ 1 ≤ wd ∧ wd ≤ 100001
  · refine (refBuck_yes l ao cap n f t wd w S hn few hr hv h).mono ?_
    rintro e w' ⟨a', G', rfl, o, b⟩
    exact ⟨a', G', rfl, bus_own o, b⟩
  · have e1 : cutE f t wd = 3 := by unfold cutE; rw [if_neg h]
    have e2 : rbL l f t wd = [] := by unfold rbL; rw [e1]; rfl
    rw [e1, e2]
    refine (refBuck_no ao n cap f t wd w h).mono ?_
    rintro e w' ⟨rfl, rfl⟩
    exact ⟨none, 0, rfl, SlW.ofNil bc _, Below.refl _ _⟩

set_option maxHeartbeats 4000000 in
set_option maxRecDepth 100000 in
theorem walkB (w : World) (a0 : Option Addr) (cap0 cn : Nat) (C : List Rw) (hcn : Hid (cn = C.length)) (S0 : IsS w a0 cap0 C) (s f t wd : Int) (hE : allE C s ≠ 0) :
    Calls Try.prog 6 #[.agg #[.slice a0 cn cap0], .int .i64 s, .int .i64 f, .int .i64 t, .int .i64 wd] w fun e w' => e = .returned (.bool true) ∧ Below w.heap.size w w' := by
  have eA : allL C s = [] := by unfold allL; rw [if_neg hE]
  have eF : bucE C s f t wd = allE C s := by unfold bucE; rw [if_neg hE]
  have eB : bucL C s f t wd = [] := by unfold bucL; rw [eF, if_neg hE]
  have c1 := fun W (h : IsS W a0 cap0 C) => range_is s f t h hcn.out
  have c2 := fun W (h : IsS W a0 cap0 C) => buckets_is s f t wd h hcn.out
  have c3 := fun W (h : IsS W a0 cap0 C) => last_is s h hcn.out
  have c4 := fun W (h : IsS W a0 cap0 C) => check_ref h
  rw [← hcn.out] at c4
  rw [show rngL (allL C s) f t = [] by rw [eA]; rfl] at c1
  rw [eF, eB] at c2
  rw [show lastPt (allL C s) = (0, 0) by rw [eA]; rfl, show someP (allL C s) = false by rw [eA]; rfl] at c3
  simp only [List.length_nil] at c1 c2
  have hEE : (shelfE C ≠ 0 ∧ allE C s = shelfE C) ∨ (shelfE C = 0 ∧ allE C s = 5 ∧ (s < 0 ∨ (¬ s < 0 ∧ 3 < s))) := by
    unfold allE at hE ⊢
    by_cases h0 : shelfE C = 0
    · rw [if_pos h0] at hE ⊢
      right
      by_cases hi : inI s 0 3 = false
      · refine ⟨h0, by rw [if_pos hi], ?_⟩
        unfold inI at hi
        have := of_decide_eq_false hi
        omega
      · rw [if_neg hi] at hE
        exact absurd rfl hE
    · left
      exact ⟨h0, by rw [if_neg h0]⟩
  generalize shelfE C = Z at *
  generalize allE C s = EE at *
  replace c3 : ∀ W, IsS W a0 cap0 C → Calls Try.prog 31 #[.agg #[.slice a0 cn cap0], .int .i64 s] W fun e w' => e = .returned (.tuple #[.agg #[.int .i64 0, .int .i64 0], .bool false, .int .i64 EE]) ∧ Below W.heap.size W w' := c3
  clear eA eF eB
  have B0 := Blk.laid w [.slice a0 cn cap0] 24 _ rfl
  have bel : Below w.heap.size w (w.alloc (.cells #[.slice a0 cn cap0] 24)) := (Below.refl _ _).alloc (Nat.le_refl _) _
  have S1 := S0.alloc (.cells #[.slice a0 cn cap0] 24)
  rcases hEE with ⟨hZ, rfl⟩ | ⟨rfl, rfl, hs | ⟨hs, hs3⟩⟩
  · go_enter Try.func6, Try.ntmps6
    go_wp2_with fail
    generalize w.alloc _ = w1 at *
    go_at_call 29
    refine (c1 _ S1).mono ?_
    rintro e w3 ⟨a3, G3, rfl, o3, b3⟩
    replace B0 := B0.keep b3 B0.lt
    replace bel := belowCall bel b3
    replace S1 := S1.call b3
    clear b3 o3
    have d0 : w3.cell? ⟨w.heap.size, 0, none⟩ = some (.slice a0 cn cap0) := B0.cell 0
    have l0 := B0.lt
    go_wp2_with fail
    go_at_call 30
    refine (c2 _ S1).mono ?_
    rintro e w4 ⟨a4, G4, rfl, o4, b4⟩
    replace B0 := B0.keep b4 B0.lt
    replace bel := belowCall bel b4
    replace S1 := S1.call b4
    clear b4 o4 d0 l0
    have d0 : w4.cell? ⟨w.heap.size, 0, none⟩ = some (.slice a0 cn cap0) := B0.cell 0
    have l0 := B0.lt
    go_wp2_with fail
    go_at_call 31
    refine (c3 _ S1).mono ?_
    rintro e w5 ⟨rfl, b5⟩
    replace B0 := B0.keep b5 B0.lt
    replace bel := belowCall bel b5
    replace S1 := S1.call b5
    clear b5 d0 l0
    go_upto_region 4 with fail
    have BP := Blk.laid w5 [.int .i64 0, .int .i64 0] 44 _ rfl
    replace bel := belowNew bel (.cells #[.int .i64 0, .int .i64 0] 44)
    replace S1 := S1.alloc (.cells #[.int .i64 0, .int .i64 0] 44)
    replace B0 := B0.alc (.cells #[.int .i64 0, .int .i64 0] 44)
    generalize w5.heap.size = gP at *
    generalize w5.alloc _ = w6 at *
    have d0 : w6.cell? ⟨w.heap.size, 0, none⟩ = some (.slice a0 cn cap0) := B0.cell 0
    have l0 := B0.lt
    go_wp2_with fail
    go_at_call 15
    refine (c4 _ S1).mono ?_
    rintro e w7 ⟨rfl, b7⟩
    replace B0 := B0.keep b7 B0.lt
    replace BP := BP.keep b7 BP.lt
    replace bel := belowCall bel b7
    replace S1 := S1.call b7
    clear b7 d0 l0
    go_wp2_with fail
    go_at_call 32
    refine (asked_any _).mono ?_
    rintro e w8 ⟨rfl, b8⟩
    replace B0 := B0.keep b8 B0.lt
    replace BP := BP.keep b8 BP.lt
    replace bel := belowCall bel b8
    replace S1 := S1.call b8
    clear b8
    go_wp2_with fail
    go_at_call 32
    refine (asked_any _).mono ?_
    rintro e w9 ⟨rfl, b9⟩
    replace BP := BP.keep b9 BP.lt
    replace bel := belowCall bel b9
    have q0 : w9.cell? ⟨gP, 0, none⟩ = some (.int .i64 0) := BP.cell 0
    have q1 : w9.cell? ⟨gP, 1, none⟩ = some (.int .i64 0) := BP.cell 1
    go_wp2_with fail
    go_ret
    exact ⟨by simp, bel⟩
  · go_enter Try.func6, Try.ntmps6
    go_wp2_with fail
    generalize w.alloc _ = w1 at *
    go_at_call 29
    refine (c1 _ S1).mono ?_
    rintro e w3 ⟨a3, G3, rfl, o3, b3⟩
    replace B0 := B0.keep b3 B0.lt
    replace bel := belowCall bel b3
    replace S1 := S1.call b3
    clear b3 o3
    have d0 : w3.cell? ⟨w.heap.size, 0, none⟩ = some (.slice a0 cn cap0) := B0.cell 0
    have l0 := B0.lt
    go_wp2_with fail
    go_at_call 30
    refine (c2 _ S1).mono ?_
    rintro e w4 ⟨a4, G4, rfl, o4, b4⟩
    replace B0 := B0.keep b4 B0.lt
    replace bel := belowCall bel b4
    replace S1 := S1.call b4
    clear b4 o4 d0 l0
    have d0 : w4.cell? ⟨w.heap.size, 0, none⟩ = some (.slice a0 cn cap0) := B0.cell 0
    have l0 := B0.lt
    go_wp2_with fail
    go_at_call 31
    refine (c3 _ S1).mono ?_
    rintro e w5 ⟨rfl, b5⟩
    replace B0 := B0.keep b5 B0.lt
    replace bel := belowCall bel b5
    replace S1 := S1.call b5
    clear b5 d0 l0
    go_upto_region 4 with fail
    have BP := Blk.laid w5 [.int .i64 0, .int .i64 0] 44 _ rfl
    replace bel := belowNew bel (.cells #[.int .i64 0, .int .i64 0] 44)
    replace S1 := S1.alloc (.cells #[.int .i64 0, .int .i64 0] 44)
    replace B0 := B0.alc (.cells #[.int .i64 0, .int .i64 0] 44)
    generalize w5.heap.size = gP at *
    generalize w5.alloc _ = w6 at *
    have d0 : w6.cell? ⟨w.heap.size, 0, none⟩ = some (.slice a0 cn cap0) := B0.cell 0
    have l0 := B0.lt
    go_wp2_with fail
    go_at_call 15
    refine (c4 _ S1).mono ?_
    rintro e w7 ⟨rfl, b7⟩
    replace B0 := B0.keep b7 B0.lt
    replace BP := BP.keep b7 BP.lt
    replace bel := belowCall bel b7
    replace S1 := S1.call b7
    clear b7 d0 l0
    go_wp2_with fail
    go_at_call 32
    refine (asked_any _).mono ?_
    rintro e w8 ⟨rfl, b8⟩
    replace B0 := B0.keep b8 B0.lt
    replace BP := BP.keep b8 BP.lt
    replace bel := belowCall bel b8
    replace S1 := S1.call b8
    clear b8
    go_wp2_with fail
    go_at_call 32
    refine (asked_any _).mono ?_
    rintro e w9 ⟨rfl, b9⟩
    replace BP := BP.keep b9 BP.lt
    replace bel := belowCall bel b9
    have q0 : w9.cell? ⟨gP, 0, none⟩ = some (.int .i64 0) := BP.cell 0
    have q1 : w9.cell? ⟨gP, 1, none⟩ = some (.int .i64 0) := BP.cell 1
    go_wp2_with fail
    go_ret
    exact ⟨by simp, bel⟩
  · go_enter Try.func6, Try.ntmps6
    go_wp2_with fail
    generalize w.alloc _ = w1 at *
    go_at_call 29
    refine (c1 _ S1).mono ?_
    rintro e w3 ⟨a3, G3, rfl, o3, b3⟩
    replace B0 := B0.keep b3 B0.lt
    replace bel := belowCall bel b3
    replace S1 := S1.call b3
    clear b3 o3
    have d0 : w3.cell? ⟨w.heap.size, 0, none⟩ = some (.slice a0 cn cap0) := B0.cell 0
    have l0 := B0.lt
    go_wp2_with fail
    go_at_call 30
    refine (c2 _ S1).mono ?_
    rintro e w4 ⟨a4, G4, rfl, o4, b4⟩
    replace B0 := B0.keep b4 B0.lt
    replace bel := belowCall bel b4
    replace S1 := S1.call b4
    clear b4 o4 d0 l0
    have d0 : w4.cell? ⟨w.heap.size, 0, none⟩ = some (.slice a0 cn cap0) := B0.cell 0
    have l0 := B0.lt
    go_wp2_with fail
    go_at_call 31
    refine (c3 _ S1).mono ?_
    rintro e w5 ⟨rfl, b5⟩
    replace B0 := B0.keep b5 B0.lt
    replace bel := belowCall bel b5
    replace S1 := S1.call b5
    clear b5 d0 l0
    go_upto_region 4 with fail
    have BP := Blk.laid w5 [.int .i64 0, .int .i64 0] 44 _ rfl
    replace bel := belowNew bel (.cells #[.int .i64 0, .int .i64 0] 44)
    replace S1 := S1.alloc (.cells #[.int .i64 0, .int .i64 0] 44)
    replace B0 := B0.alc (.cells #[.int .i64 0, .int .i64 0] 44)
    generalize w5.heap.size = gP at *
    generalize w5.alloc _ = w6 at *
    have d0 : w6.cell? ⟨w.heap.size, 0, none⟩ = some (.slice a0 cn cap0) := B0.cell 0
    have l0 := B0.lt
    go_wp2_with fail
    go_at_call 15
    refine (c4 _ S1).mono ?_
    rintro e w7 ⟨rfl, b7⟩
    replace B0 := B0.keep b7 B0.lt
    replace BP := BP.keep b7 BP.lt
    replace bel := belowCall bel b7
    replace S1 := S1.call b7
    clear b7 d0 l0
    go_wp2_with fail
    go_at_call 32
    refine (asked_any _).mono ?_
    rintro e w8 ⟨rfl, b8⟩
    replace B0 := B0.keep b8 B0.lt
    replace BP := BP.keep b8 BP.lt
    replace bel := belowCall bel b8
    replace S1 := S1.call b8
    clear b8
    go_wp2_with fail
    go_at_call 32
    refine (asked_any _).mono ?_
    rintro e w9 ⟨rfl, b9⟩
    replace BP := BP.keep b9 BP.lt
    replace bel := belowCall bel b9
    have q0 : w9.cell? ⟨gP, 0, none⟩ = some (.int .i64 0) := BP.cell 0
    have q1 : w9.cell? ⟨gP, 1, none⟩ = some (.int .i64 0) := BP.cell 1
    go_wp2_with fail
    go_ret
    exact ⟨by simp, bel⟩

set_option maxHeartbeats 4000000 in
set_option maxRecDepth 100000 in
theorem walkG (w : World) (a0 : Option Addr) (cap0 cn : Nat) (C : List Rw) (hcn : Hid (cn = C.length)) (S0 : IsS w a0 cap0 C) (s f t wd : Int) (k : Nat) (hk : k < 4) (ek : s = k) (hE : allE C s = 0) (hz : shelfE C = 0) :
    Calls Try.prog 6 #[.agg #[.slice a0 cn cap0], .int .i64 s, .int .i64 f, .int .i64 t, .int .i64 wd] w fun e w' => e = .returned (.bool true) ∧ Below w.heap.size w w' := by
  subst ek
  have hk3 : ¬ (3 : Int) < k := by omega
  have hk4 : (k : Int) < 4 := by omega
  have hk0 : (0 : Int) ≤ k := by omega
  have hkn : ¬ (k : Int) < 0 := by omega
  obtain ⟨h4, hm⟩ := shelfE_mem hz
  obtain rfl : cn = 4 := by rw [hcn.out]; exact h4
  have hrE : rowE (C.getD k rw0) = 0 := hm _ (getD_mem (by omega))
  have hrL : rowL (C.getD k rw0) = allL C k := by unfold rowL allL; rw [if_pos hrE, if_pos hE, Int.toNat_natCast]
  have hl := allL_len C k
  have hr := allL_rises C k
  have hv : ∀ p ∈ allL C k, (Lit.int .i64 p.2).wf = true := fun p hp => by
    have := ptOk_true ((check_rises (allL_check C k)).2 p hp)
    simp only [Lit.wf, IntKind.min, IntKind.max, IntKind.signed, IntKind.bits, Bool.and_eq_true, decide_eq_true_eq, if_true]
    omega
  have c1 := fun W (h : IsS W a0 cap0 C) => range_is (k : Int) f t h hcn.out
  have c2 := fun W (h : IsS W a0 cap0 C) => buckets_is (k : Int) f t wd h hcn.out
  have c3 := fun W (h : IsS W a0 cap0 C) => last_is (k : Int) h hcn.out
  have c4 := fun W (h : IsS W a0 cap0 C) => check_ref h
  rw [← hcn.out] at c4
  rw [show bucL C k f t wd = rbL (allL C k) f t wd by unfold bucL rbL bucE; rw [if_pos hE], show bucE C k f t wd = cutE f t wd by unfold bucE; rw [if_pos hE]] at c2
  rw [hE] at c1
  simp only [hE] at c3
  rw [hz] at c4
  have hC4 : k < C.length := by omega
  generalize allL C k = A at *
  obtain ⟨n, hn⟩ : ∃ n, n = A.length := ⟨_, rfl⟩
  have c5 := fun a G W (h : SlP W a G A) => buck_all A a G n f t wd W h hn.symm (by omega) hr hv
  have c6 := fun a G W (h : SlP W a G A) => refRng_any A a G n f t W h hn.symm (by omega)
  have hlR := rng_len A f t
  have hlB : (rbL A f t wd).length ≤ 40 := by
    unfold rbL
    split
    · exact Nat.le_trans (runs_len _ _ _ (Nat.le_refl _)) (by omega)
    · simp
  generalize rngL A f t = R at *
  generalize rbL A f t wd = BL at *
  generalize cutE f t wd = CE at *
  obtain ⟨nR, hnR⟩ : ∃ m, m = R.length := ⟨_, rfl⟩
  obtain ⟨nB, hnB⟩ : ∃ m, m = BL.length := ⟨_, rfl⟩
  have hR40 : R.length ≤ 4611686018427387904 := by omega
  have cP := fun a b G H W (h : SlP W a G R) (k : SlP W b H R) => equalPt a b G H R R W h k hR40 hR40
  rw [decide_eq_true (rfl : R = R)] at cP
  rw [← hnR] at c1 c6 cP
  rw [← hnB] at c2 c5
  obtain ⟨X, Y, hXY⟩ : ∃ X Y, lastPt A = (X, Y) := ⟨_, _, rfl⟩
  obtain ⟨sm, hsm⟩ : ∃ b, b = someP A := ⟨_, rfl⟩
  rw [hXY, ← hsm] at c3
  replace hn := hide hn
  replace hnR := hide hnR
  replace hnB := hide hnB
  replace hXY := hide hXY
  replace hsm := hide hsm
  clear hE hz hv hr hm
  have B0 := Blk.laid w [.slice a0 4 cap0] 24 _ rfl
  have bel : Below w.heap.size w (w.alloc (.cells #[.slice a0 4 cap0] 24)) := (Below.refl _ _).alloc (Nat.le_refl _) _
  have S1 := S0.alloc (.cells #[.slice a0 4 cap0] 24)
  go_enter Try.func6, Try.ntmps6
  go_wp2_with fail
  generalize w.alloc _ = w1 at *
  go_at_call 29
  refine (c1 _ S1).mono ?_
  rintro e w3 ⟨a3, G3, rfl, o3, b3⟩
  replace B0 := B0.keep b3 B0.lt
  replace bel := belowCall bel b3
  replace S1 := S1.call b3
  have P3 := pts_own o3
  clear b3 o3
  have d0 : w3.cell? ⟨w.heap.size, 0, none⟩ = some (.slice a0 4 cap0) := B0.cell 0
  have l0 := B0.lt
  go_wp2_with fail
  go_at_call 30
  refine (c2 _ S1).mono ?_
  rintro e w4 ⟨a4, G4, rfl, o4, b4⟩
  replace B0 := B0.keep b4 B0.lt
  replace bel := belowCall bel b4
  replace S1 := S1.call b4
  replace P3 := P3.call b4
  have Q4 := bus_own o4
  clear b4 o4 d0 l0
  have d0 : w4.cell? ⟨w.heap.size, 0, none⟩ = some (.slice a0 4 cap0) := B0.cell 0
  have l0 := B0.lt
  go_wp2_with fail
  go_at_call 31
  refine (c3 _ S1).mono ?_
  rintro e w5 ⟨rfl, b5⟩
  replace B0 := B0.keep b5 B0.lt
  replace bel := belowCall bel b5
  replace S1 := S1.call b5
  replace P3 := P3.call b5
  replace Q4 := Q4.call b5
  clear b5 d0 l0
  go_upto_region 4 with fail
  have BP := Blk.laid w5 [.int .i64 X, .int .i64 Y] 44 _ rfl
  replace bel := belowNew bel (.cells #[.int .i64 X, .int .i64 Y] 44)
  replace S1 := S1.alloc (.cells #[.int .i64 X, .int .i64 Y] 44)
  replace B0 := B0.alc (.cells #[.int .i64 X, .int .i64 Y] 44)
  replace P3 := P3.alloc (.cells #[.int .i64 X, .int .i64 Y] 44)
  replace Q4 := Q4.alloc (.cells #[.int .i64 X, .int .i64 Y] 44)
  generalize w5.heap.size = gP at *
  generalize w5.alloc _ = w6 at *
  have d0 : w6.cell? ⟨w.heap.size, 0, none⟩ = some (.slice a0 4 cap0) := B0.cell 0
  have l0 := B0.lt
  go_wp2_with fail
  go_at_call 15
  refine (c4 _ S1).mono ?_
  rintro e w7 ⟨rfl, b7⟩
  replace B0 := B0.keep b7 B0.lt
  replace BP := BP.keep b7 BP.lt
  replace bel := belowCall bel b7
  replace S1 := S1.call b7
  replace P3 := P3.call b7
  replace Q4 := Q4.call b7
  clear b7 d0 l0
  go_wp2_with fail
  go_at_call 32
  refine (asked_any _).mono ?_
  rintro e w8 ⟨rfl, b8⟩
  replace B0 := B0.keep b8 B0.lt
  replace BP := BP.keep b8 BP.lt
  replace bel := belowCall bel b8
  replace S1 := S1.call b8
  replace P3 := P3.call b8
  replace Q4 := Q4.call b8
  clear b8

  obtain ⟨b, off, r, rfl, hb, r0, r1, gr, er⟩ := S1.at k hC4
  have cR := refRow_any r _ gr
  rw [er, hrE, hrL, ← hn.out] at cR
  unfold Lr.v at cR
  clear er gr
  have d0 : w8.cell? ⟨w.heap.size, 0, none⟩ = some (.slice (some ⟨b, off, none⟩) 4 cap0) := B0.cell 0
  have l0 := B0.lt
  generalize r.bs.length = z1 at *
  generalize r.hd.length = z2 at *
  go_wp2_with fail
  go_at_call 26
  refine cR.mono ?_
  rintro e w9 ⟨a9, G9, rfl, s9, b9⟩
  replace BP := BP.keep b9 BP.lt
  replace bel := belowCall bel b9
  replace P3 := P3.call b9
  replace Q4 := Q4.call b9
  clear b9 d0 l0 r0 r1 hb B0 S1 cR c1 c2 c3 c4
  go_wp2_with fail
  go_at_call 33
  refine (c5 _ _ _ s9).mono ?_
  rintro e w10 ⟨a10, G10, rfl, s10, b10⟩
  replace BP := BP.keep b10 BP.lt
  replace bel := belowCall bel b10
  replace P3 := P3.call b10
  replace Q4 := Q4.call b10
  replace s9 := s9.call b10
  clear b10 c5
  go_wp2_with fail
  go_at_call 34
  refine (c6 _ _ _ s9).mono ?_
  rintro e w11 ⟨a11, G11, rfl, o11, b11⟩
  replace BP := BP.keep b11 BP.lt
  replace bel := belowCall bel b11
  replace P3 := P3.call b11
  replace Q4 := Q4.call b11
  replace s9 := s9.call b11
  replace s10 := s10.call b11
  have s11 := pts_own o11
  clear b11 c6 o11
  go_wp2_with fail
  go_at_call 27
  refine (cP _ _ _ _ _ P3 s11).mono ?_
  rintro e w12 ⟨rfl, q, hq⟩
  have b12 : Below w11.heap.size w11 w12 := by rw [hq]; exact belowDrewN (Below.refl _ _) q
  clear hq
  replace BP := BP.keep b12 BP.lt
  replace bel := belowCall bel b12
  replace Q4 := Q4.call b12
  replace s9 := s9.call b12
  replace s10 := s10.call b12
  clear b12 cP P3 s11
  go_wp2_with fail
  go_at_call 35
  refine (equalBu _ _ _ _ nB BL _ Q4 s10 hnB.out (by have := hnB.out; omega)).mono ?_
  rintro e w13 ⟨rfl, b13⟩
  replace BP := BP.keep b13 BP.lt
  replace bel := belowCall bel b13
  replace s9 := s9.call b13
  clear b13 Q4 s10
  have q0 : w13.cell? ⟨gP, 0, none⟩ = some (.int .i64 X) := BP.cell 0
  have q1 : w13.cell? ⟨gP, 1, none⟩ = some (.int .i64 Y) := BP.cell 1
  by_cases hA0 : A = []
  · obtain rfl : n = 0 := by rw [hn.out, hA0]; rfl
    obtain ⟨rfl, rfl⟩ : X = 0 ∧ Y = 0 := by
      have := hXY.out
      rw [hA0] at this
      simp [lastPt] at this
      exact ⟨this.1.symm, this.2.symm⟩
    obtain rfl : sm = false := by rw [hsm.out, hA0]; rfl
    go_wp2_with fail
    go_ret
    exact ⟨by simp, bel⟩
  · have hn1 : 1 ≤ n := by rw [hn.out]; exact List.length_pos_iff.2 hA0
    obtain rfl : sm = true := by
      rw [hsm.out]
      unfold someP
      cases A with
      | nil => exact absurd rfl hA0
      | cons x r => rfl
    obtain ⟨m, rfl⟩ : ∃ m, n = m + 1 := ⟨n - 1, by omega⟩
    obtain ⟨b9, o9, rfl, hbw⟩ := s9.where hA0
    obtain ⟨x, y, p0, p1, hx, _⟩ := s9.pt m (by rw [← hn.out]; omega)
    obtain ⟨rfl, rfl⟩ : x = X ∧ y = Y := by
      have := hXY.out
      unfold lastPt at this
      rw [← hn.out, Nat.add_sub_cancel, List.getD, hx] at this
      simpa using this
    have hle : m + 1 ≤ G9 := by have := s9.le; rw [← hn.out] at this; exact this
    have hm40 : m + 1 ≤ 40 := by rw [hn.out]; exact hl
    have hmi : (0 : Int) ≤ m := by omega
    have hmi2 : (m : Int) < 40 := by omega
    have hmi3 : (m : Int) < (m : Int) + 1 := by omega
    have hmi4 : (m : Int) + 1 - 1 = m := by omega
    have hmi6 : ((m + 1 : Nat) : Int) = (m : Int) + 1 := by omega
    have u1 : IntKind.i64.wrap ((m : Int) + 1 - 1) = m := by rw [IntKind.wrap_i64]; omega
    have u2 : IntKind.i64.wrap (m : Int) = m := by rw [IntKind.wrap_i64]; omega
    have bel2 := belowDrew bel
    replace hx := hide hx
    replace hA0 := hide hA0
    clear hn1 s9 hl hlR hn
    go_wp2_with fail
    go_region_held3 (fun w' => w'.cell? ⟨gP, 0, none⟩ = some (.int .i64 x) ∧ w'.cell? ⟨gP, 1, none⟩ = some (.int .i64 y) ∧ w'.cell? ⟨b9, o9 + m * 2, none⟩ = some (.int .i64 x) ∧ w'.cell? ⟨b9, o9 + m * 2 + 1, none⟩ = some (.int .i64 y)) (go_keep) (fail)
    all_goals go_wp2_with fail
    all_goals go_ret
    all_goals exact ⟨by simp, bel2⟩

theorem walk (w : World) (a0 : Option Addr) (cap0 : Nat) (l : List Lr) (s0 : SlR w a0 cap0 l) (r0 : cap0 * 48 ≤ 140737488351232) (s : Int) (ws : (Lit.int .i64 s).wf = true) (f : Int) (wf : (Lit.int .i64 f).wf = true) (t : Int) (wt : (Lit.int .i64 t).wf = true) (wd : Int) (ww : (Lit.int .i64 wd).wf = true) :
    Calls Try.prog 6 #[.agg #[.slice a0 l.length cap0], .int .i64 s, .int .i64 f, .int .i64 t, .int .i64 wd] w fun e w' => e = .returned (.bool true) ∧ Below w.heap.size w w' := by
  have S0 := IsS.of s0
  have hcn : l.length = (l.map Lr.rw).length := by rw [List.length_map]
  by_cases hE : allE (l.map Lr.rw) s = 0
  · have hE' := hE
    unfold allE at hE'
    by_cases hz : shelfE (l.map Lr.rw) = 0
    · rw [if_pos hz] at hE'
      by_cases hi : inI s 0 3 = false
      · rw [if_pos hi] at hE'; cases hE'
      · obtain ⟨k, rfl, hk⟩ := inI_nat (by simpa using hi)
        exact walkG w a0 cap0 l.length _ hcn S0 k f t wd k (by omega) rfl hE hz
    · rw [if_neg hz] at hE'; exact absurd hE' hz
  · exact walkB w a0 cap0 l.length _ hcn S0 s f t wd hE

set_option maxRecDepth 100000 in
theorem lifted (os : Os) (started : os.Started) (H : Type) (enc : TypeId × Value → H) :
    ReturnsInHanded {} Try.checked os 6 .any (Rows.querySaysSpec.pre6 enc Try.prog Try.f6 Rows.querySaysRow.domain false) (Rows.querySaysSpec.post enc Try.prog Try.f6 false true false false) := by
  refine returnsInHanded_of_change_sized (C := Try.checked) own started (by kernel_rfl) Try.func6
    (ChangeSpec.witness6 (enc := enc) (C := Try.checked) false ⟨#[], #[.agg #[.slice none 0 0], .int .i64 0, .int .i64 0, .int .i64 0, .int .i64 0], []⟩ 8 (by kernel_rfl) (by kernel_rfl) (by kernel_rfl) (by kernel_rfl)) ?_
  intro W base args ds gs before hval0 hW hcnd hsz0 _
  have hsz : (DataW.weightsEach Try.prog (Try.f6.params.toList ++ Rows.querySaysSpec.plain.varTypes Try.prog) (ds ++ gs)).all (· ≤ reachBytes) = true := hsz0
  have hval : ∀ (j : Nat) t v, Try.f6.params[j]? = some t → args[j]? = some v → Value.okWide Try.prog W .any base t v := hval0
  have hW' := hW
  obtain ⟨p, q, hA0, hV, rfl, hfz, hnd⟩ := hW
  have hA : DataW.TrodAll enc Try.prog W 0 (fun _ => true) true Try.f6.params.toList args.toList ds p := hA0
  rw [Try.params6] at hA hval hsz
  obtain ⟨v0, vs0, d0, ds0, p0, q0, hargs, rfl, rfl, h0, r0⟩ := trodAll_cons hA
  obtain ⟨v1, vs1, d1, ds1, p1, q1, rfl, rfl, rfl, h1, r1⟩ := trodAll_cons r0
  obtain ⟨v2, vs2, d2, ds2, p2, q2, rfl, rfl, rfl, h2, r2⟩ := trodAll_cons r1
  obtain ⟨v3, vs3, d3, ds3, p3, q3, rfl, rfl, rfl, h3, r3⟩ := trodAll_cons r2
  obtain ⟨v4, vs4, d4, ds4, p4, q4, rfl, rfl, rfl, h4, r4⟩ := trodAll_cons r3
  obtain ⟨rfl, rfl, rfl⟩ := trodAll_nil r4
  obtain rfl : args = #[v0, v1, v2, v3, v4] := by cases args; simp_all
  obtain ⟨rfl, rfl⟩ := trodVars_none hV
  have k0 := h0
  have lt0 : ∀ x ∈ p0, x.block < W.heap.size := by obtain ⟨m, hm⟩ := k0; exact DataW.trod_lt m _ _ _ hm
  obtain ⟨l0, a0, cap0, rfl, s0, reach0⟩ := open_shelf (hval 0 24 v0 rfl rfl) h0 (light_of (j := 0) hsz rfl rfl)
  obtain ⟨a1, rfl, rfl, rfl, w1⟩ := open_int Try.underlying3 (hval 1 3 v1 rfl rfl) h1
  obtain ⟨a2, rfl, rfl, rfl, w2⟩ := open_int Try.underlying3 (hval 2 3 v2 rfl rfl) h2
  obtain ⟨a3, rfl, rfl, rfl, w3⟩ := open_int Try.underlying3 (hval 3 3 v3 rfl rfl) h3
  obtain ⟨a4, rfl, rfl, rfl, w4⟩ := open_int Try.underlying3 (hval 4 3 v4 rfl rfl) h4
  clear hA0 hval0 hsz0
  refine (walk W a0 cap0 l0 s0 reach0 a1 w1 a2 w2 a3 w3 a4 w4).mono fun e W' ⟨he, bel⟩ => ?_
  subst he
  exact ⟨_, rfl, _, _, _, [], _, [], hW', trodAll_mk1 (shut_bool Try.underlying4 _), (trodAll_cons_mk (Below.trod laidOut (by kernel_rfl) (of_decide_eq_true (by kernel_rfl)) k0 bel lt0) (trodAll_cons_mk (shut_int Try.underlying3 w1) (trodAll_cons_mk (shut_int Try.underlying3 w2) (trodAll_cons_mk (shut_int Try.underlying3 w3) (trodAll_cons_mk (shut_int Try.underlying3 w4) trodAll_mk0))))), rfl, bel.frame _, fun h => by cases h⟩

theorem over : Rows.querySaysRow.holds Try.pinned (OpenSpec.ofChange Rows.querySaysSpec) :=
  OpenClaim.holds_of_wide 6 Try.f6 rfl rfl rfl rfl rfl rfl rfl ⟨rfl, rfl, rfl, rfl, rfl⟩ rfl rfl rfl rfl rfl (by kernel_rfl) Try.func6 (by kernel_rfl)
    (of_decide_eq_true (by kernel_rfl)) (by unfold Func.isWrapper; first | (rw [if_pos (by decide +kernel)]; kernel_rfl) | (rw [if_neg (by decide +kernel)]; exact ⟨rfl, rfl⟩))
    (fun os started H enc _ => lifted os started H enc)
end Go.Proofs.Ytgncadehaificaa.querySays

namespace Go.Proofs.Ytgncadehaificaa
theorem querySays_holds : Rows.QuerySaysSaid := querySays.over
#print axioms querySays_holds
end Go.Proofs.Ytgncadehaificaa
