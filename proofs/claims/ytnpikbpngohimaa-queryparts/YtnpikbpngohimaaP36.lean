/-
  'at' of the laws: a number brought within bounds; it touches no memory.
-/
import Derived.Test.YtnpikbpngohimaaRows
import Derived.Deep.RegionHeld3
import Derived.Test.YtnpikbpngohimaaP01
import Derived.Test.YtnpikbpngohimaaHAsked
import Derived.Test.YtnpikbpngohimaaP35
import Derived.Test.YtnpikbpngohimaaP31
import Derived.Test.YtnpikbpngohimaaP06
namespace Go.Proofs.Ytnpikbpngohimaa
open Go.RowKit

/-- 'at': a number brought within bounds. -/
theorem at_any (k n : Int) (w : World) (hn : 1 ≤ n) (hn2 : n ≤ 1152921504606846976) :
    Calls Try.prog 28 #[.int .i64 k, .int .i64 n] w fun e w' => e = .returned (.int .i64 (k % n)) ∧ w = w' := by
  go_enter Try.func28, Try.ntmps28
  go_wp2
  · have h : k.tmod n < 0 := by assumption
    go_ret
    have e := tmod_up' hn h
    have b1 := Int.emod_nonneg k (show n ≠ 0 by omega)
    have b2 := Int.emod_lt_of_pos k (show 0 < n by omega)
    exact ⟨ret_int (by rw [e]; unfold wrap64; omega), rfl⟩
  · have h : 0 ≤ k.tmod n := by assumption
    go_ret
    exact ⟨ret_int (tmod_up hn h), rfl⟩

end Go.Proofs.Ytnpikbpngohimaa

/-
  QueryParts, under way: the way where the shelf is wrong.
-/
namespace Go.Proofs.Ytnpikbpngohimaa.queryParts
open Go.ChangeShapes Go.WideShapes Go.ChangeAt Go.RowKit
set_option linter.unusedVariables false

set_option maxHeartbeats 4000000 in
set_option maxRecDepth 100000 in
theorem walkB (w : World) (a0 : Option Addr) (cap0 cn : Nat) (C : List Rw) (hcn : Hid (cn = C.length)) (S0 : IsS w a0 cap0 C) (s f m t wd : Int) (k : Nat) (ek : s % 4 = k) (hE : allE C k ≠ 0) :
    Calls Try.prog 7 #[.agg #[.slice a0 cn cap0], .int .i64 s, .int .i64 f, .int .i64 m, .int .i64 t, .int .i64 wd] w fun e w' => e = .returned (.bool true) ∧ Below w.heap.size w w' := by
  have c1 := fun f t W (h : IsS W a0 cap0 C) => range_is (k : Int) f t h hcn.out
  generalize allE C k = EE at *
  have k1 := fun W => at_any s 4 W (by decide) (by decide)
  rw [ek] at k1
  have k2 := fun W => at_any wd 100001 W (by decide) (by decide)
  have k3 := fun W => at_any f 100002 W (by decide) (by decide)
  have k4 := fun W => at_any m 100002 W (by decide) (by decide)
  have k5 := fun W => at_any t 100002 W (by decide) (by decide)
  have v2 : 0 ≤ wd % 100001 ∧ wd % 100001 < 100001 := by omega
  have v3 : 0 ≤ f % 100002 ∧ f % 100002 < 100002 := by omega
  have v4 : 0 ≤ m % 100002 ∧ m % 100002 < 100002 := by omega
  have v5 : 0 ≤ t % 100002 ∧ t % 100002 < 100002 := by omega
  generalize wd % 100001 = w1d at *
  generalize f % 100002 = f1 at *
  generalize m % 100002 = m1 at *
  generalize t % 100002 = t1 at *
  have u2 : IntKind.i64.wrap (1 + w1d) = 1 + w1d := by rw [IntKind.wrap_i64]; omega
  have B0 := Blk.laid w [.slice a0 cn cap0] 24 _ rfl
  have bel : Below w.heap.size w (w.alloc (.cells #[.slice a0 cn cap0] 24)) := (Below.refl _ _).alloc (Nat.le_refl _) _
  have S1 := S0.alloc (.cells #[.slice a0 cn cap0] 24)
  go_enter Try.func7, Try.ntmps7
  go_wp2_with fail
  generalize w.alloc _ = w1 at *
  go_at_call 28
  refine (k1 _).mono ?_
  rintro e wx ⟨rfl, rfl⟩
  go_wp2_with fail
  go_at_call 28
  refine (k2 _).mono ?_
  rintro e wx ⟨rfl, rfl⟩
  go_wp2_with fail
  go_at_call 28
  refine (k3 _).mono ?_
  rintro e wx ⟨rfl, rfl⟩
  go_wp2_with fail
  go_at_call 28
  refine (k4 _).mono ?_
  rintro e wx ⟨rfl, rfl⟩
  go_wp2_with fail
  go_at_call 28
  refine (k5 _).mono ?_
  rintro e wx ⟨rfl, rfl⟩
  have BL := Blk.laid w1 [.int .i64 f1, .int .i64 m1, .int .i64 t1] 3 _ rfl
  have bn := belowNew bel (.cells #[.int .i64 f1, .int .i64 m1, .int .i64 t1] 3)
  have l1 : w.heap.size ≤ w1.heap.size := bel.size
  replace S1 := S1.alloc (.cells #[.int .i64 f1, .int .i64 m1, .int .i64 t1] 3)
  have ne0 : w.heap.size ≠ w1.heap.size := Nat.ne_of_lt B0.lt
  replace B0 := B0.alc (.cells #[.int .i64 f1, .int .i64 m1, .int .i64 t1] 3)
  go_wp2_with fail
  generalize w1.heap.size = g1 at *
  generalize w1.alloc _ = w2 at *
  go_at_call 36
  refine (sort_any _ _ _ _ _ BL).mono ?_
  rintro e w3 ⟨x, y, z, rfl, BS, hxy, hyz, hx, hy, hz, gS⟩
  have q0 : w3.cell? ⟨g1, 0, none⟩ = some (.int .i64 x) := BS.cell 0
  have q1 : w3.cell? ⟨g1, 1, none⟩ = some (.int .i64 y) := BS.cell 1
  have q2 : w3.cell? ⟨g1, 2, none⟩ = some (.int .i64 z) := BS.cell 2
  replace B0 : Blk w3 w.heap.size [.slice a0 cn cap0] 24 := B0.grown gS (fun k hk => by cases hk; exact Ne.symm ne0)
  replace bel : Below w.heap.size w w3 := bn.grown gS bn.size (fun k hk => by cases hk; exact l1)
  clear S1 gS bn BL
  go_wp2_with fail
  go_region_held3 (fun w' => w'.cell? ⟨g1, 0, none⟩ = some (.int .i64 x) ∧ w'.cell? ⟨g1, 1, none⟩ = some (.int .i64 y) ∧ w'.cell? ⟨g1, 2, none⟩ = some (.int .i64 z)) (go_keep) (fail)
  replace B0 := B0.drewS
  replace bel := belowDrew bel
  clear q0 q1 q2 BS
  generalize w3.drew = w4 at *
  have S1 := S0.keep bel (Nat.le_refl _)
  have d0 : w4.cell? ⟨w.heap.size, 0, none⟩ = some (.slice a0 cn cap0) := B0.cell 0
  have l0 := B0.lt
  go_wp2_with fail
  go_at_call 29
  refine (c1 _ _ _ S1).mono ?_
  rintro e w5 ⟨a5, G5, rfl, o5, b5⟩
  replace B0 := B0.keep b5 B0.lt
  replace bel := belowCall bel b5
  replace S1 := S1.call b5
  have P5 := pts_own o5
  clear b5 o5 d0 l0
  have d0 : w5.cell? ⟨w.heap.size, 0, none⟩ = some (.slice a0 cn cap0) := B0.cell 0
  have l0 := B0.lt
  go_wp2_with fail
  go_at_call 29
  refine (c1 _ _ _ S1).mono ?_
  rintro e w6 ⟨a6, G6, rfl, o6, b6⟩
  replace B0 := B0.keep b6 B0.lt
  replace bel := belowCall bel b6
  replace S1 := S1.call b6
  replace P5 := P5.call b6
  have P6 := pts_own o6
  clear b6 o6 d0 l0
  have d0 : w6.cell? ⟨w.heap.size, 0, none⟩ = some (.slice a0 cn cap0) := B0.cell 0
  have l0 := B0.lt
  go_wp2_with fail
  go_at_call 29
  refine (c1 _ _ _ S1).mono ?_
  rintro e w7 ⟨a7, G7, rfl, o7, b7⟩
  replace B0 := B0.keep b7 B0.lt
  replace bel := belowCall bel b7
  replace S1 := S1.call b7
  replace P5 := P5.call b7
  replace P6 := P6.call b7
  have P7 := pts_own o7
  clear b7 o7 d0 l0
  go_wp2_with fail
  go_at_call 32
  refine (asked_any _).mono ?_
  rintro e w8 ⟨rfl, b8⟩
  replace B0 := B0.keep b8 B0.lt
  replace bel := belowCall bel b8
  replace S1 := S1.call b8
  replace P5 := P5.call b8
  replace P6 := P6.call b8
  replace P7 := P7.call b8
  clear b8

  go_wp2_with fail
  go_at_call 32
  refine (asked_any _).mono ?_
  rintro e w9 ⟨rfl, b9⟩
  replace bel := belowCall bel b9
  go_wp2_with fail
  go_ret
  exact ⟨rfl, bel⟩

end Go.Proofs.Ytnpikbpngohimaa.queryParts
