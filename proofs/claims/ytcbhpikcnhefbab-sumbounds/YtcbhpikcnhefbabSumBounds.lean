/-
  Proved: for all points, SumBounds returns true and leaves them as they were: no point that is right lies below the least or above the greatest one, both are there, and all together lies between as many of these.
-/
import Derived.Test.YtcbhpikcnhefbabRows
import Derived.Test.YtcbhpikcnhefbabAdded
import Derived.Test.YtcbhpikcnhefbabSumMore
import Derived.Test.YtcbhpikcnhefbabCheck
namespace Go.Proofs.Ytcbhpikcnhefbab.sumBounds
open Go.ChangeShapes Go.WideShapes Go.ChangeAt Go.RowKit
set_option linter.unusedVariables false

theorem chk_all : ∀ (l : List Pt) (a : Int), chk a l = 0 → ∀ p ∈ l, -1000000 ≤ p.2 ∧ p.2 ≤ 1000000
  | [], _, _, p, hp => by simp at hp
  | q :: r, a, h, p, hp => by
    obtain ⟨h1, _, h3⟩ := chk_cons h
    rcases List.mem_cons.1 hp with rfl | hp
    · exact (ptOk_true h1).2.2
    · exact chk_all r _ h3 p hp

theorem few {l : List Pt} (h : checkE l = 0) : l.length ≤ 40 ∧ ∀ p ∈ l, -1000000 ≤ p.2 ∧ p.2 ≤ 1000000 := by
  unfold checkE at h
  split at h
  · cases h
  · exact ⟨by omega, chk_all l _ h⟩

/-- What is known of the sum of right points, with both products. -/
theorem told {l : List Pt} (h : checkE l = 0) : ∃ (lo hi tot M1 M2 : Int), sumS l = ⟨l.length, lo, hi, tot⟩ ∧ (l.length : Int) * lo = M1 ∧ (l.length : Int) * hi = M2 ∧ M1 ≤ tot ∧ tot ≤ M2 ∧ (-40000000 ≤ M1 ∧ M1 ≤ 40000000) ∧ (-40000000 ≤ M2 ∧ M2 ≤ 40000000) ∧
    (∀ p ∈ l, lo ≤ p.2 ∧ p.2 ≤ hi) ∧ (l = [] ∨ ∃ p ∈ l, p.2 = lo) ∧ (l = [] ∨ ∃ p ∈ l, p.2 = hi) := by
  obtain ⟨h40, hv⟩ := few h
  by_cases hne : l = []
  · subst hne
    exact ⟨0, 0, 0, 0, 0, rfl, rfl, rfl, by decide, by decide, by decide, by decide, fun p hp => by simp at hp, .inl rfl, .inl rfl⟩
  · obtain ⟨f, hb, hl, hh⟩ := sumS_bounds l hne h40 hv
    have hn := sumS_n l (by omega)
    obtain ⟨f1, f2, f3, f4, f5, f6, f7, f8⟩ := f
    have g1 : (l.length : Int) * -1000000 ≤ (l.length : Int) * (sumS l).lo := Int.mul_le_mul_of_nonneg_left f2 (by omega)
    have g2 : (l.length : Int) * (sumS l).hi ≤ (l.length : Int) * 1000000 := Int.mul_le_mul_of_nonneg_left f3 (by omega)
    rw [hn] at f5 f6 f7 f8
    refine ⟨(sumS l).lo, (sumS l).hi, (sumS l).tot, _, _, ?_, rfl, rfl, f5, f6, ⟨?_, ?_⟩, ⟨?_, ?_⟩, hb, .inr hl, .inr hh⟩
    · rw [← hn]
    all_goals clear hl hh hb
    all_goals omega

theorem more {y lo : Int} {r : List Pt} (h : false = true ∨ y = lo ∨ ∃ p ∈ r, p.2 = lo) : (y == lo) = true ∨ ∃ p ∈ r, p.2 = lo := by
  rcases h with h | h | h
  · cases h
  · left; simp [h]
  · exact .inr h

set_option maxHeartbeats 1000000 in
set_option maxRecDepth 100000 in
theorem walk (w : World) (a0 : Option Addr) (cap0 : Nat) (l : List Pt) (s0 : SlP w a0 cap0 l) (hreach : cap0 * 16 ≤ 140737488351232) (wf : ∀ p ∈ l, (Lit.int .i64 p.1).wf = true ∧ (Lit.int .i64 p.2).wf = true) :
    Calls Try.prog 8 #[.slice a0 l.length cap0] w fun e w' => e = .returned (.bool true) ∧ Below w.heap.size w w' := by
  have c1 := fun W h => check_any a0 cap0 l W h
  by_cases hc : checkE l = 0
  · rw [hc] at c1
    have h40 := (few hc).1
    obtain ⟨lo, hi, tot, M1, M2, hS, hM1, hM2, hle1, hle2, hb1, hb2, hv, hlo, hhi⟩ := told hc
    have c2 := fun W h => of_any a0 cap0 l W h
    rw [hS] at c2
    unfold smV at c2
    simp only at c2
    obtain ⟨n, hn⟩ : ∃ n, n = l.length := ⟨_, rfl⟩
    rw [← hn] at c1 c2 h40 hM1 hM2 ⊢
    have HL := hide hn
    have HLo := hide hlo
    have HHi := hide hhi
    clear hn wf hreach hc hS hlo hhi
    obtain ⟨hb1a, hb1b⟩ := hb1
    obtain ⟨hb2a, hb2b⟩ := hb2
    go_enter Try.func8, Try.ntmps8
    go_wp2_with fail
    go_at_call 15
    refine (added_any _).mono ?_
    rintro e w1 ⟨rfl, b1⟩
    have s1 := s0.call b1
    go_wp2_with fail
    go_at_call 20
    refine (c1 _ s1).mono ?_
    rintro e w2 ⟨rfl, b2⟩
    have s2 := s1.call b2
    have bel2 := belowCall b1 b2
    clear s1 b1 b2
    go_wp2_with fail
    go_at_call 16
    refine (c2 _ s2).mono ?_
    rintro e w3 ⟨rfl, b3⟩
    have bel3 := belowCall bel2 b3
    clear s2 bel2 b3 c1 c2
    go_wp2_with fail
    have B0 := Blk.laid w3 (Sm.cells ⟨n, lo, hi, tot⟩) 39 _ rfl
    have bel4 : Below w.heap.size w (w3.alloc (.cells (Sm.cells ⟨n, lo, hi, tot⟩).toArray 39)) := bel3.alloc bel3.size _
    have hgw := bel3.size
    unfold Sm.cells at B0 bel4
    simp only at B0 bel4
    clear bel3
    generalize w3.alloc _ = w4 at *
    generalize w3.heap.size = g at *
    have q0 : w4.cell? ⟨g, 0, none⟩ = some (.int .i64 n) := B0.cell 0
    go_quiet (fail)
    go_wp2_with fail
    have B5 : Blk (w4.drewN nq) g (Sm.mk n lo hi tot).cells 39 := B0
    have bel5 := belowDrewN bel4 nq
    clear B0 bel4 q0
    generalize w4.drewN nq = w5 at *
    go_loopw [4, 5, 26] (fun x y i wr => ∃ (k : Nat) (lt mt : Bool), k ≤ n ∧ i = .int .i64 k ∧ x = .bool lt ∧ y = .bool mt ∧ Hid (lt = true ∨ ∃ p ∈ l.drop k, p.2 = lo) ∧ Hid (mt = true ∨ ∃ p ∈ l.drop k, p.2 = hi) ∧ Blk wr g (Sm.mk n lo hi tot).cells 39 ∧ Below w.heap.size w wr) (fun _ _ i _ => n - (intOf i).toNat)
    case atStart =>
      refine ⟨0, ((n : Int) == 0), ((n : Int) == 0), by omega, rfl, rfl, rfl, hide ?_, hide ?_, B5, bel5⟩
      · rcases HLo.out with h | h
        · left; rw [HL.out, h]; rfl
        · right; rw [List.drop_zero]; exact h
      · rcases HHi.out with h | h
        · left; rw [HL.out, h]; rfl
        · right; rw [List.drop_zero]; exact h
    case round =>
      clear B5 bel5 HLo HHi
      obtain ⟨k, lt, mt, hk, rfl, rfl, rfl, HA, HB, B, bel⟩ := hrel
      have c0 : wr.cell? ⟨g, 0, none⟩ = some (.int .i64 n) := B.cell 0
      have c1 : wr.cell? ⟨g, 1, none⟩ = some (.int .i64 lo) := B.cell 1
      have c2 : wr.cell? ⟨g, 2, none⟩ = some (.int .i64 hi) := B.cell 2
      have c3 : wr.cell? ⟨g, 3, none⟩ = some (.int .i64 tot) := B.cell 3
      have hgl := B.lt
      by_cases hlt : k < n
      · have hs := s0.keep bel (Nat.le_refl _)
        obtain ⟨b, off, rfl, hbw⟩ := hs.where (by intro h; rw [HL.out, h] at hlt; simp at hlt)
        obtain ⟨x, y, e0, e1, hx, hd⟩ := hs.pt k (by rw [← HL.out]; exact hlt)
        obtain ⟨hy1, hy2⟩ := hv (x, y) (List.mem_of_getElem? hx)
        simp only at hy1 hy2
        have HA' : Hid (lt = true ∨ y = lo ∨ ∃ p ∈ l.drop (k + 1), p.2 = lo) := hide (by
          rcases HA.out with h | ⟨p, hp, e⟩
          · exact .inl h
          · rw [hd] at hp
            rcases List.mem_cons.1 hp with rfl | hp
            · exact .inr (.inl e)
            · exact .inr (.inr ⟨p, hp, e⟩))
        have HB' : Hid (mt = true ∨ y = hi ∨ ∃ p ∈ l.drop (k + 1), p.2 = hi) := hide (by
          rcases HB.out with h | ⟨p, hp, e⟩
          · exact .inl h
          · rw [hd] at hp
            rcases List.mem_cons.1 hp with rfl | hp
            · exact .inr (.inl e)
            · exact .inr (.inr ⟨p, hp, e⟩))
        clear HA HB hx hd hv s0 hs
        go_wp2_with fail
        cases lt with
        | true =>
          cases mt with
          | true =>
            go_quiet (fail)
            go_wp2_with fail
            go_roundw
            case rel => exact ⟨k + 1, true, true, by omega, by go_num, rfl, rfl, hide (.inl rfl), hide (.inl rfl), (B.alc _), belowDrewN (bel.alloc bel.size _) _⟩
            case measure => simp [intOf]; omega
          | false =>
            go_quiet (fail)
            go_wp2_with fail
            go_roundw
            case rel => exact ⟨k + 1, true, (y == hi), by omega, by go_num, rfl, rfl, hide (.inl rfl), hide (more HB'.out), (B.alc _), belowDrewN (bel.alloc bel.size _) _⟩
            case measure => simp [intOf]; omega
        | false =>
          cases mt with
          | true =>
            go_quiet (fail)
            go_wp2_with fail
            go_roundw
            case rel => exact ⟨k + 1, (y == lo), true, by omega, by go_num, rfl, rfl, hide (more HA'.out), hide (.inl rfl), (B.alc _), belowDrewN (bel.alloc bel.size _) _⟩
            case measure => simp [intOf]; omega
          | false =>
            go_quiet (fail)
            go_wp2_with fail
            go_roundw
            case rel => exact ⟨k + 1, (y == lo), (y == hi), by omega, by go_num, rfl, rfl, hide (more HA'.out), hide (more HB'.out), (B.alc _), belowDrewN (bel.alloc bel.size _) _⟩
            case measure => simp [intOf]; omega
      · obtain rfl : k = n := by omega
        have hA : lt = true := by
          rcases HA.out with h | ⟨p, hp, _⟩
          · exact h
          · rw [HL.out, List.drop_length] at hp; simp at hp
        have hB : mt = true := by
          rcases HB.out with h | ⟨p, hp, _⟩
          · exact h
          · rw [HL.out, List.drop_length] at hp; simp at hp
        subst hA hB
        clear HA HB
        go_wp2_with fail
        go_ret
        exact ⟨by simp, bel⟩
  · generalize checkE l = E at *
    go_enter Try.func8, Try.ntmps8
    go_wp2_with fail
    go_at_call 15
    refine (added_any _).mono ?_
    rintro e w1 ⟨rfl, b1⟩
    have s1 := s0.call b1
    go_wp2_with fail
    go_at_call 20
    refine (c1 _ s1).mono ?_
    rintro e w2 ⟨rfl, b2⟩
    have bel2 := belowCall b1 b2
    go_wp2_with fail
    go_at_call 15
    refine (added_any _).mono ?_
    rintro e w3 ⟨rfl, b3⟩
    go_wp2_with fail
    go_ret
    exact ⟨rfl, belowCall bel2 b3⟩

set_option maxRecDepth 100000 in
theorem lifted (os : Os) (started : os.Started) (H : Type) (enc : TypeId × Value → H) :
    ReturnsInHanded {} Try.checked os 8 .any (Rows.sumBoundsSpec.pre6 enc Try.prog Try.f8 Rows.sumBoundsRow.domain false) (Rows.sumBoundsSpec.post enc Try.prog Try.f8 false true false false) := by
  refine returnsInHanded_of_change_sized (C := Try.checked) own started (by kernel_rfl) Try.func8
    (ChangeSpec.witness6 (enc := enc) (C := Try.checked) false ⟨#[], #[.slice none 0 0], []⟩ 8 (by kernel_rfl) (by kernel_rfl) (by kernel_rfl) (by kernel_rfl)) ?_
  intro W base args ds gs before hval0 hW hcnd hsz0 _
  have hsz : (DataW.weightsEach Try.prog (Try.f8.params.toList ++ Rows.sumBoundsSpec.plain.varTypes Try.prog) (ds ++ gs)).all (· ≤ reachBytes) = true := hsz0
  have hval : ∀ (j : Nat) t v, Try.f8.params[j]? = some t → args[j]? = some v → Value.okWide Try.prog W .any base t v := hval0
  have hW' := hW
  obtain ⟨p, q, hA0, hV, rfl, hfz, hnd⟩ := hW
  have hA : DataW.TrodAll enc Try.prog W 0 (fun _ => true) true Try.f8.params.toList args.toList ds p := hA0
  rw [Try.params8] at hA hval hsz
  obtain ⟨v0, vs0, d0, ds0, p0, q0, hargs, rfl, rfl, h0, r0⟩ := trodAll_cons hA
  obtain ⟨rfl, rfl, rfl⟩ := trodAll_nil r0
  obtain rfl : args = #[v0] := by cases args; simp_all
  obtain ⟨rfl, rfl⟩ := trodVars_none hV
  obtain ⟨a0, len0, cap0, rfl⟩ := okWide_slice Try.underlying22 (hval 0 22 v0 rfl rfl)
  have k0 := h0
  have lt0 : ∀ x ∈ p0, x.block < W.heap.size := by obtain ⟨m, hm⟩ := k0; exact DataW.trod_lt m _ _ _ hm
  obtain ⟨l0, rfl, s0, wf0, dd0⟩ := open_points Try.underlying22 Try.underlying32 (by kernel_rfl) rfl rfl (by kernel_rfl) (by kernel_rfl) Try.underlying3 Try.underlying3 h0
  have reach0 := reach_of (j := 0) (bytes := 16) hsz rfl rfl Try.underlying22 (by kernel_rfl) dd0
  clear hA0 hval0 hsz0
  refine (walk W a0 cap0 l0 s0 reach0 wf0).mono fun e W' ⟨he, bel⟩ => ?_
  subst he
  exact ⟨_, rfl, _, _, _, [], _, [], hW', trodAll_mk1 (shut_bool Try.underlying4 _), (trodAll_cons_mk (Below.trod laidOut (by kernel_rfl) (of_decide_eq_true (by kernel_rfl)) k0 bel lt0) trodAll_mk0), rfl, bel.frame _, fun h => by cases h⟩

theorem over : Rows.sumBoundsRow.holds Try.pinned (OpenSpec.ofChange Rows.sumBoundsSpec) :=
  OpenClaim.holds_of_wide 8 Try.f8 rfl rfl rfl rfl rfl rfl rfl ⟨rfl, rfl, rfl, rfl, rfl⟩ rfl rfl rfl rfl rfl (by kernel_rfl) Try.func8 (by kernel_rfl)
    (of_decide_eq_true (by kernel_rfl)) (by unfold Func.isWrapper; first | (rw [if_pos (by decide +kernel)]; kernel_rfl) | (rw [if_neg (by decide +kernel)]; exact ⟨rfl, rfl⟩))
    (fun os started H enc _ => lifted os started H enc)
end Go.Proofs.Ytcbhpikcnhefbab.sumBounds

namespace Go.Proofs.Ytcbhpikcnhefbab
theorem sumBounds_holds : Rows.SumBoundsSaid := sumBounds.over
#print axioms sumBounds_holds
end Go.Proofs.Ytcbhpikcnhefbab
