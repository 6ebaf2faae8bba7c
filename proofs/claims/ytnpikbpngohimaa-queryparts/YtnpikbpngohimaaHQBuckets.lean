/-
  query.Buckets: what it answers, whatever it is handed; its buckets lie in memory of the call's own.
-/
import Derived.Test.YtnpikbpngohimaaHQGroup
namespace Go.Proofs.Ytnpikbpngohimaa
open Go.RowKit

def bucE (C : List Rw) (s f t wd : Int) : Int := if allE C s = 0 then cutE f t wd else allE C s

def bucL (C : List Rw) (s f t wd : Int) : List Bu := if bucE C s f t wd = 0 then runs (startOf f wd) (rngL (allL C s) f t) else []

theorem cutE_zero {f t wd : Int} (h : cutE f t wd = 0) : 0 ≤ f ∧ f ≤ t ∧ t ≤ 100001 ∧ 1 ≤ wd ∧ wd ≤ 100001 ∧ (t - f + wd - 1) / wd ≤ 200 := by
  unfold cutE at h
  split at h
  · rename_i h1
    split at h
    · cases h
    · exact ⟨h1.1, h1.2.1, h1.2.2.1, h1.2.2.2.1, h1.2.2.2.2, by omega⟩
  · cases h

set_option maxHeartbeats 1000000 in
set_option maxRecDepth 100000 in
theorem buckets_is {C : List Rw} {a : Option Addr} {G cn : Nat} {w : World} (s f t wd : Int) (h : IsS w a G C) (hcn : cn = C.length) :
    Calls Try.prog 30 #[.agg #[.slice a cn G], .int .i64 s, .int .i64 f, .int .i64 t, .int .i64 wd] w fun e w' => ∃ a' G', e = .returned (.tuple #[.slice a' (bucL C s f t wd).length G', .int .i64 (bucE C s f t wd)]) ∧
      w'.ownsRow w.heap.size 63 5 (.slice a' (bucL C s f t wd).length G') (bucL C s f t wd).length ((bucL C s f t wd).flatMap bc) ∧ Below w.heap.size w w' := by
  have hl := allL_len C s
  have hlr := rng_len (allL C s) f t
  have c1 := fun W (h : IsS W a G C) => range_is s f t h hcn
  have c2 := fun W => cut_any f t wd W
  have S1 := ((h.alloc (.cells #[.slice a cn G] 24)).alloc (.cells #[.int .i64 f] 3)).alloc (.cells #[.int .i64 wd] 3)
  have Bf := (Blk.laid (w.alloc (.cells #[.slice a cn G] 24)) [.int .i64 f] 3 (w.heap.size + 1) (by simp)).alc (.cells #[.int .i64 wd] 3)
  have Bw := Blk.laid ((w.alloc (.cells #[.slice a cn G] 24)).alloc (.cells #[.int .i64 f] 3)) [.int .i64 wd] 3 (w.heap.size + 2) (by simp)
  have bel := below3 w (.cells #[.slice a cn G] 24) (.cells #[.int .i64 f] 3) (.cells #[.int .i64 wd] 3)
  by_cases hE : allE C s = 0
  · have eB : bucE C s f t wd = cutE f t wd := by unfold bucE; rw [if_pos hE]
    by_cases hc : cutE f t wd = 0
    · obtain ⟨k1, k2, k3, k4, k5, k6⟩ := cutE_zero hc
      have eL : bucL C s f t wd = runs (startOf f wd) (rngL (allL C s) f t) := by unfold bucL; rw [eB, if_pos hc]
      rw [eL, eB, hc]
      rw [hE] at c1
      rw [hc] at c2
      have hq : ∀ p ∈ rngL (allL C s) f t, f ≤ p.1 ∧ p.1 ≤ 100001 := fun p hp => by
        have := rng_mem hp
        omega
      generalize rngL (allL C s) f t = A at *
      obtain ⟨n, hn⟩ : ∃ n, n = A.length := ⟨_, rfl⟩
      have hn40 : n ≤ 40 := by omega
      rw [← hn] at c1
      have c3 := fun ao cap W (S : SlP W ao cap A) (B1 : Blk W (w.heap.size + 1) [.int .i64 f] 3) (B2 : Blk W (w.heap.size + 2) [.int .i64 wd] 3) => group_any A ao cap n f wd (w.heap.size + 1) (w.heap.size + 2) W S hn.symm hn40 B1 B2 k1 k4 k5 hq
      generalize runs (startOf f wd) A = R at *
      obtain ⟨rn, hrn⟩ : ∃ rn, rn = R.length := ⟨_, rfl⟩
      rw [← hrn] at c3 ⊢
      clear hE eB hc eL hl hlr hn hrn hq hcn
      go_enter Try.func30, Try.ntmps30
      go_wp2_with fail
      go_at_call 29
      refine (c1 _ S1).mono ?_
      rintro e w2 ⟨a2, G2, rfl, o2, b2⟩
      replace Bf := Bf.keep b2 Bf.lt
      replace Bw := Bw.keep b2 Bw.lt
      replace bel := belowCall bel b2
      obtain ⟨a3, G3, e3, s3, _, _⟩ := SlP.ofOwn o2
      simp only [Value.slice.injEq, true_and] at e3
      obtain ⟨rfl, rfl⟩ := e3
      have q0 : w2.cell? ⟨w.heap.size + 1, 0, none⟩ = some (.int .i64 f) := Bf.cell 0
      have q1 : w2.cell? ⟨w.heap.size + 2, 0, none⟩ = some (.int .i64 wd) := Bw.cell 0
      have l0 := Bf.lt
      have l1 := Bw.lt
      clear o2 b2 c1
      go_wp2_with fail
      go_at_call 74
      refine (c2 _).mono ?_
      rintro e w3 ⟨rfl, rfl⟩
      go_wp2_with fail
      go_at_call 75
      refine (c3 _ _ _ s3 Bf Bw).mono ?_
      rintro e w4 ⟨a4, G4, rfl, o4, b4⟩
      have o5 := ownDown o4 bel.size
      replace bel := belowCall bel b4
      go_wp2_with fail
      go_ret2
      exact ⟨_, _, rfl, o5, bel⟩
    · have eL : bucL C s f t wd = [] := by unfold bucL; rw [eB, if_neg hc]
      rw [eL, eB]
      rw [hE] at c1
      generalize rngL (allL C s) f t = A at *
      generalize cutE f t wd = E at *
      generalize A.length = n at *
      clear hE eB eL hcn
      go_enter Try.func30, Try.ntmps30
      go_wp2_with fail
      go_at_call 29
      refine (c1 _ S1).mono ?_
      rintro e w2 ⟨a2, G2, rfl, o2, b2⟩
      replace Bf := Bf.keep b2 Bf.lt
      replace Bw := Bw.keep b2 Bw.lt
      replace bel := belowCall bel b2
      have q0 : w2.cell? ⟨w.heap.size + 1, 0, none⟩ = some (.int .i64 f) := Bf.cell 0
      have q1 : w2.cell? ⟨w.heap.size + 2, 0, none⟩ = some (.int .i64 wd) := Bw.cell 0
      have l0 := Bf.lt
      have l1 := Bw.lt
      clear o2 b2 c1
      go_wp2_with fail
      go_at_call 74
      refine (c2 _).mono ?_
      rintro e w3 ⟨rfl, rfl⟩
      go_wp2_with fail
      go_ret2
      exact ⟨none, 0, rfl, World.ownsRow_nil _ _ _ _, bel⟩
  · have eB : bucE C s f t wd = allE C s := by unfold bucE; rw [if_neg hE]
    have eL : bucL C s f t wd = [] := by unfold bucL; rw [eB, if_neg hE]
    rw [eL, eB]
    generalize rngL (allL C s) f t = A at *
    generalize allE C s = E at *
    generalize A.length = n at *
    clear eB eL hcn
    go_enter Try.func30, Try.ntmps30
    go_wp2_with fail
    go_at_call 29
    refine (c1 _ S1).mono ?_
    rintro e w2 ⟨a2, G2, rfl, o2, b2⟩
    replace bel := belowCall bel b2
    go_wp2_with fail
    go_ret2
    exact ⟨none, 0, rfl, World.ownsRow_nil _ _ _ _, bel⟩

end Go.Proofs.Ytnpikbpngohimaa
