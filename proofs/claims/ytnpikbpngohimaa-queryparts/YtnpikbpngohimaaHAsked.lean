/-
  The closed fact of chapter 7: two buckets.
-/
import Derived.Deep.RegionHeld3
import Derived.Test.YtnpikbpngohimaaP31
import Derived.Test.YtnpikbpngohimaaHQBuckets
import Derived.Test.YtnpikbpngohimaaP33
import Derived.Test.YtnpikbpngohimaaP13
namespace Go.Proofs.Ytnpikbpngohimaa
open Go.RowKit

/-- The condition may be made narrower on the way. -/
theorem wpAnyH_less {P : Program} {md : Region.Mode} {ops : Array Oper} {Q : Exit → Act → World → Prop} {S S' : World → Prop} (hSS : ∀ w, S' w → S w) :
    ∀ {fuel : Nat} {listed : Array Bool} {a : Act} {w : World}, wpAnyH P md ops Q S' fuel listed a w → wpAnyH P md ops Q S fuel listed a w
  | 0, _, _, _, h => h
  | _ + 1, _, _, _, h => ⟨h.1, fun i hi => wpOp_mono (fun _ w' h' => ⟨hSS w' h'.1, wpAnyH_less hSS h'.2⟩) (h.2 i hi)⟩

def bu2 : List Bu := [⟨5, ⟨2, 5, 5, 10⟩⟩, ⟨25, ⟨1, 7, 7, 7⟩⟩]

set_option maxRecDepth 100000 in
theorem ask_all : allE smallL 1 = 0 ∧ allL smallL 1 = pts3 := ⟨by decide +kernel, by kernel_rfl⟩

theorem ask_runs : runs (startOf 5 20) pts3 = bu2 := by
  have e1 := runs_split (startOf 5 20) 5 [(10, 5), (20, 5)] [(30, 7)] (by decide +kernel) (fun p hp => by simp at hp; subst hp; decide +kernel) (by simp)
  have e2 := runs_split (startOf 5 20) 25 [(30, 7)] [] (by decide +kernel) (fun p hp => by simp at hp) (by simp)
  rw [List.append_nil, runs_nil] at e2
  show runs (startOf 5 20) ([(10, 5), (20, 5)] ++ [(30, 7)]) = bu2
  rw [e1, e2]
  unfold bu2
  rw [show sumS [(10, 5), (20, 5)] = ⟨2, 5, 5, 10⟩ by kernel_rfl, show sumS [(30, 7)] = ⟨1, 7, 7, 7⟩ by kernel_rfl]

theorem pts_own {w : World} {base n : Nat} {a : Option Addr} {G : Nat} {l : List Pt} (o : w.ownsRow base 44 2 (.slice a n G) n (cellsP l)) : SlP w a G l := by
  obtain ⟨a3, G3, e3, s3, _, _⟩ := SlP.ofOwn o
  simp only [Value.slice.injEq, true_and] at e3
  obtain ⟨rfl, rfl⟩ := e3
  exact s3

theorem bus_own {w : World} {base n : Nat} {a : Option Addr} {G : Nat} {l : List Bu} (o : w.ownsRow base 63 5 (.slice a n G) n (l.flatMap bc)) : SlW bc w a G l := by
  obtain ⟨a3, G3, e3, s3, _, _⟩ := SlW.ofOwn bc_five (by decide) o
  simp only [Value.slice.injEq, true_and] at e3
  obtain ⟨rfl, rfl⟩ := e3
  exact s3

theorem ask_range (a : Option Addr) (G : Nat) (W : World) (h : IsS W a G smallL) : Calls Try.prog 29 #[.agg #[.slice a 4 G], .int .i64 1, .int .i64 10, .int .i64 30] W fun e w' => ∃ a' G', e = .returned (.tuple #[.slice a' 2 G', .int .i64 0]) ∧ SlP w' a' G' ptsTwo ∧ Below W.heap.size W w' := by
  have c := range_is 1 10 30 h (cn := 4) rfl
  rw [ask_all.1, ask_all.2, show rngL pts3 10 30 = ptsTwo by decide +kernel] at c
  refine c.mono ?_
  rintro e w' ⟨a', G', rfl, o, b⟩
  exact ⟨a', G', rfl, pts_own o, b⟩

theorem ask_buckets (a : Option Addr) (G : Nat) (W : World) (h : IsS W a G smallL) : Calls Try.prog 30 #[.agg #[.slice a 4 G], .int .i64 1, .int .i64 5, .int .i64 35, .int .i64 20] W fun e w' => ∃ a' G', e = .returned (.tuple #[.slice a' 2 G', .int .i64 0]) ∧ SlW bc w' a' G' bu2 ∧ Below W.heap.size W w' := by
  have c := buckets_is 1 5 35 20 h (cn := 4) rfl
  have e1 : bucE smallL 1 5 35 20 = 0 := by unfold bucE; rw [ask_all.1]; decide +kernel
  have e2 : bucL smallL 1 5 35 20 = bu2 := by unfold bucL; rw [e1, if_pos rfl, ask_all.2, show rngL pts3 5 35 = pts3 by decide +kernel, ask_runs]
  rw [e1, e2] at c
  refine c.mono ?_
  rintro e w' ⟨a', G', rfl, o, b⟩
  exact ⟨a', G', rfl, bus_own o, b⟩

theorem ask_many (a : Option Addr) (G : Nat) (W : World) (h : IsS W a G smallL) : Calls Try.prog 30 #[.agg #[.slice a 4 G], .int .i64 1, .int .i64 0, .int .i64 1000, .int .i64 1] W fun e w' => ∃ a' G', e = .returned (.tuple #[.slice a' 0 G', .int .i64 2]) ∧ Below W.heap.size W w' := by
  have c := buckets_is 1 0 1000 1 h (cn := 4) rfl
  have e1 : bucE smallL 1 0 1000 1 = 2 := by unfold bucE; rw [ask_all.1]; decide +kernel
  have e2 : bucL smallL 1 0 1000 1 = [] := by unfold bucL; rw [e1]; rfl
  rw [e1, e2] at c
  refine c.mono ?_
  rintro e w' ⟨a', G', rfl, o, b⟩
  exact ⟨a', G', rfl, b⟩

theorem ask_last (a : Option Addr) (G : Nat) (W : World) (h : IsS W a G smallL) : Calls Try.prog 31 #[.agg #[.slice a 4 G], .int .i64 1] W fun e w' => e = .returned (.tuple #[.agg #[.int .i64 30, .int .i64 7], .bool true, .int .i64 0]) ∧ Below W.heap.size W w' := by
  have c := last_is 1 h (cn := 4) rfl
  rw [ask_all.1, ask_all.2] at c
  exact c

theorem ask_none (a : Option Addr) (G : Nat) (W : World) (h : IsS W a G smallL) : Calls Try.prog 31 #[.agg #[.slice a 4 G], .int .i64 0] W fun e w' => e = .returned (.tuple #[.agg #[.int .i64 0, .int .i64 0], .bool false, .int .i64 0]) ∧ Below W.heap.size W w' := by
  have c := last_is 0 h (cn := 4) rfl
  rw [show allE smallL 0 = 0 by decide +kernel, show allL smallL 0 = [] by kernel_rfl] at c
  exact c

theorem ask_small (W : World) : Calls Try.prog 55 #[] W fun e w' => ∃ a G, e = .returned (.agg #[.slice a 4 G]) ∧ IsS w' a G smallL ∧ Below W.heap.size W w' := by
  refine (small_any W).mono ?_
  rintro e w' ⟨rs, a, G, rfl, h1, h2, h3⟩
  exact ⟨a, G, rfl, ⟨rs, h1, h2⟩, h3⟩

set_option maxHeartbeats 2000000 in
set_option maxRecDepth 100000 in
theorem asked_any (w : World) :
    Calls Try.prog 32 #[] w fun e w' => e = .returned (.bool true) ∧ Below w.heap.size w w' := by
  go_enter Try.func32, Try.ntmps32
  go_wp2_with fail
  go_at_call 55
  refine (ask_small _).mono ?_
  rintro e w1 ⟨a1, G1, rfl, s1, bel⟩
  go_wp2_with fail
  go_at_call 29
  refine (ask_range _ _ _ s1).mono ?_
  rintro e w2 ⟨a2, G2, rfl, PL, b2⟩
  replace bel := belowCall bel b2
  clear s1 b2
  go_wp2_with fail
  go_at_call 55
  refine (ask_small _).mono ?_
  rintro e w3 ⟨a3, G3, rfl, s3, b3⟩
  replace bel := belowCall bel b3
  replace PL := PL.call b3
  clear b3
  go_wp2_with fail
  go_at_call 30
  refine (ask_buckets _ _ _ s3).mono ?_
  rintro e w4 ⟨a4, G4, rfl, QB, b4⟩
  replace bel := belowCall bel b4
  replace PL := PL.call b4
  clear s3 b4
  go_wp2_with fail
  go_at_call 55
  refine (ask_small _).mono ?_
  rintro e w5 ⟨a5, G5, rfl, s5, b5⟩
  replace bel := belowCall bel b5
  replace PL := PL.call b5
  replace QB := QB.call b5
  clear b5
  go_wp2_with fail
  go_at_call 31
  refine (ask_last _ _ _ s5).mono ?_
  rintro e w6 ⟨rfl, b6⟩
  replace bel := belowCall bel b6
  replace PL := PL.call b6
  replace QB := QB.call b6
  clear s5 b6
  go_wp2_with fail
  have BP := Blk.laid w6 [.int .i64 30, .int .i64 7] 44 _ rfl
  replace bel := belowNew bel (.cells #[.int .i64 30, .int .i64 7] 44)
  replace PL := PL.alloc (.cells #[.int .i64 30, .int .i64 7] 44)
  replace QB := QB.alloc (.cells #[.int .i64 30, .int .i64 7] 44)
  generalize w6.heap.size = gP at *
  generalize w6.alloc _ = w7 at *
  go_at_call 55
  refine (ask_small _).mono ?_
  rintro e w8 ⟨a8, G8, rfl, s8, b8⟩
  replace bel := belowCall bel b8
  replace PL := PL.call b8
  replace QB := QB.call b8
  replace BP := BP.keep b8 BP.lt
  clear b8
  go_wp2_with fail
  go_at_call 31
  refine (ask_none _ _ _ s8).mono ?_
  rintro e w9 ⟨rfl, b9⟩
  replace bel := belowCall bel b9
  replace PL := PL.call b9
  replace QB := QB.call b9
  replace BP := BP.keep b9 BP.lt
  clear s8 b9
  go_wp2_with fail
  replace bel := belowNew bel (.cells #[.int .i64 0, .int .i64 0] 44)
  replace PL := PL.alloc (.cells #[.int .i64 0, .int .i64 0] 44)
  replace QB := QB.alloc (.cells #[.int .i64 0, .int .i64 0] 44)
  replace BP := BP.alc (.cells #[.int .i64 0, .int .i64 0] 44)
  generalize w9.heap.size = gN at *
  generalize w9.alloc _ = w10 at *
  go_at_call 55
  refine (ask_small _).mono ?_
  rintro e w11 ⟨a11, G11, rfl, s11, b11⟩
  replace bel := belowCall bel b11
  replace PL := PL.call b11
  replace QB := QB.call b11
  replace BP := BP.keep b11 BP.lt
  clear b11
  go_wp2_with fail
  go_at_call 30
  refine (ask_many _ _ _ s11).mono ?_
  rintro e w12 ⟨a12, G12, rfl, b12⟩
  replace bel := belowCall bel b12
  replace PL := PL.call b12
  replace QB := QB.call b12
  replace BP := BP.keep b12 BP.lt
  clear s11 b12
  go_wp2_with fail
  have q0 : w12.cell? ⟨gP, 0, none⟩ = some (.int .i64 30) := BP.cell 0
  have q1 : w12.cell? ⟨gP, 1, none⟩ = some (.int .i64 7) := BP.cell 1
  have K0 : Below w12.heap.size w12 w12.drew := belowDrew (Below.refl _ _)
  have over : ∀ {f : Nat} {args : Array Value} {v : Value} {W : World}, Below w12.heap.size w12 W → Calls Try.prog f args W (fun e w' => e = .returned v ∧ Below W.heap.size W w') → Calls Try.prog f args W (fun e w' => e = .returned v ∧ w'.cell? ⟨gP, 0, none⟩ = some (.int .i64 30) ∧ w'.cell? ⟨gP, 1, none⟩ = some (.int .i64 7) ∧ Below w12.heap.size w12 w') := by
    intro f args v W h c
    refine c.mono ?_
    rintro e w' ⟨he, hb⟩
    have hb' := belowCall h hb
    exact ⟨he, (BP.keep hb' BP.lt).cell 0, (BP.keep hb' BP.lt).cell 1, hb'⟩
  have dPts : ∀ W, Below w12.heap.size w12 W → Calls Try.prog 56 #[] W (fun e w' => ∃ xb xo, e = .returned (.slice (some ⟨xb, xo, none⟩) 3 3) ∧ SlP w' (some ⟨xb, xo, none⟩) 3 ptsTwo ∧ w'.cell? ⟨xb, xo + 4, none⟩ = some (.int .i64 30) ∧ w'.cell? ⟨xb, xo + 4 + 1, none⟩ = some (.int .i64 7) ∧ w'.cell? ⟨gP, 0, none⟩ = some (.int .i64 30) ∧ w'.cell? ⟨gP, 1, none⟩ = some (.int .i64 7) ∧ Below w12.heap.size w12 w' ∧ Below w12.heap.size w12 (w'.alloc (.cells #[.int .i64 5, .int .i64 2, .int .i64 5, .int .i64 5, .int .i64 10, .int .i64 25, .int .i64 1, .int .i64 7, .int .i64 7, .int .i64 7] 63))) := by
    intro W h
    refine (points_any W).mono ?_
    rintro e w' ⟨x, rfl, sx, hb⟩
    obtain ⟨xb, xo, rfl, _⟩ := sx.where (by decide)
    obtain ⟨u, v, e0, e1, hx, _⟩ := sx.pt 2 (by decide)
    simp [pts3] at hx
    obtain ⟨rfl, rfl⟩ := hx
    have hb' := belowCall h hb
    exact ⟨xb, xo, rfl, sx.front 2, e0, e1, (BP.keep hb' BP.lt).cell 0, (BP.keep hb' BP.lt).cell 1, hb', belowNew hb' _⟩
  have cP := fun b H W (h : Below w12.heap.size w12 W) (k : SlP W b H ptsTwo) => equalPt a2 b G2 H ptsTwo ptsTwo W (PL.keep h (Nat.le_refl _)) k (by decide) (by decide)
  have cP2 : ∀ b H W, Below w12.heap.size w12 W → SlP W b H ptsTwo → Calls Try.prog 27 #[.slice a2 2 G2, .slice b 2 H] W fun e w' => e = .returned (.bool true) ∧ Below W.heap.size W w' := by
    intro b H W h k
    have p := cP b H W h k
    rw [show decide (ptsTwo = ptsTwo) = true by decide +kernel] at p
    refine p.mono ?_
    rintro e w' ⟨he, q, rfl⟩
    exact ⟨he, belowDrewN (Below.refl _ _) q⟩
  have cB : ∀ W : World, Below w12.heap.size w12 (W.alloc (.cells #[.int .i64 5, .int .i64 2, .int .i64 5, .int .i64 5, .int .i64 10, .int .i64 25, .int .i64 1, .int .i64 7, .int .i64 7, .int .i64 7] 63)) → Calls Try.prog 35 #[.slice a4 2 G4, .slice (some ⟨W.heap.size, 0, none⟩) 2 2] (W.alloc (.cells #[.int .i64 5, .int .i64 2, .int .i64 5, .int .i64 5, .int .i64 10, .int .i64 25, .int .i64 1, .int .i64 7, .int .i64 7, .int .i64 7] 63)) fun e w' => e = .returned (.bool true) ∧ Below (W.alloc (.cells #[.int .i64 5, .int .i64 2, .int .i64 5, .int .i64 5, .int .i64 10, .int .i64 25, .int .i64 1, .int .i64 7, .int .i64 7, .int .i64 7] 63)).heap.size (W.alloc (.cells #[.int .i64 5, .int .i64 2, .int .i64 5, .int .i64 5, .int .i64 10, .int .i64 25, .int .i64 1, .int .i64 7, .int .i64 7, .int .i64 7] 63)) w' := by
    intro W h
    have r := Row.laid W (bu2.flatMap bc) 63 _ rfl
    exact equalBu a4 (some ⟨W.heap.size, 0, none⟩) G4 2 2 bu2 _ (QB.keep h (Nat.le_refl _)) ⟨r, by decide, by decide, fun e => by cases e⟩ rfl (by decide)
  clear cP
  refine wp_region_held_drew (S := (fun w' => w'.cell? ⟨gP, 0, none⟩ = some (.int .i64 30) ∧ w'.cell? ⟨gP, 1, none⟩ = some (.int .i64 7) ∧ Below w12.heap.size w12 w')) (by kernel_rfl) ⟨by simp [q0], by simp [q1], K0⟩ (fun hHeld => ?_)
  refine wpAnyH_take (i := 0) (v := ?_) rfl (by kernel_rfl) (by kernel_rfl) (by kernel_rfl) (fun _ _ _ h => h) (Or.inl ⟨by rfl, ?_⟩) (by assumption) ?_
  rotate_left
  · intro w hSw; (try dsimp only at hSw); go_simp; all_goals with_reducible rfl
  simp only [Act.put, List.setIfInBounds_toArray, List.set_cons_zero, List.set_cons_succ, List.getElem_toArray, List.getElem_cons_zero]
  refine wpAnyH_take (i := 1) (v := ?_) rfl (by kernel_rfl) (by kernel_rfl) (by kernel_rfl) (fun _ _ _ h => h) (Or.inl ⟨by rfl, ?_⟩) (by assumption) ?_
  rotate_left
  · intro w hSw; (try dsimp only at hSw); go_simp; all_goals with_reducible rfl
  simp only [Act.put, List.setIfInBounds_toArray, List.set_cons_zero, List.set_cons_succ, List.getElem_toArray, List.getElem_cons_zero, List.getElem_cons_succ]
  refine wpAnyH_take (i := 2) (v := ?_) rfl (by kernel_rfl) (by kernel_rfl) (by kernel_rfl) (fun _ _ _ h => h) (Or.inl ⟨by rfl, ?_⟩) (by assumption) ?_
  rotate_left
  · intro w hSw; (try dsimp only at hSw); go_simp; all_goals with_reducible rfl
  simp only [Act.put, List.setIfInBounds_toArray, List.set_cons_zero, List.set_cons_succ, List.getElem_toArray, List.getElem_cons_zero, List.getElem_cons_succ]
  refine wpAnyH_take (i := 3) (v := ?_) rfl (by kernel_rfl) (by kernel_rfl) (by kernel_rfl) (fun _ _ _ h => h) (Or.inl ⟨by rfl, ?_⟩) (by assumption) ?_
  rotate_left
  · intro w hSw; (try dsimp only at hSw); go_simp; all_goals with_reducible rfl
  simp only [Act.put, List.setIfInBounds_toArray, List.set_cons_zero, List.set_cons_succ, List.getElem_toArray, List.getElem_cons_zero, List.getElem_cons_succ]
  refine wpAnyH_take (i := 4) (v := ?_) rfl (by kernel_rfl) (by kernel_rfl) (by kernel_rfl) (fun _ _ _ h => h) (Or.inl ⟨by rfl, ?_⟩) (by assumption) ?_
  rotate_left
  · intro w hSw; (try dsimp only at hSw); go_simp; all_goals with_reducible rfl
  simp only [Act.put, List.setIfInBounds_toArray, List.set_cons_zero, List.set_cons_succ, List.getElem_toArray, List.getElem_cons_zero, List.getElem_cons_succ]
  refine wpAnyH_take (i := 5) (v := ?_) rfl (by kernel_rfl) (by kernel_rfl) (by kernel_rfl) (fun _ _ _ h => h) (Or.inl ⟨by rfl, ?_⟩) (by assumption) ?_
  rotate_left
  · intro w hSw; (try dsimp only at hSw); go_simp; all_goals with_reducible rfl
  simp only [Act.put, List.setIfInBounds_toArray, List.set_cons_zero, List.set_cons_succ, List.getElem_toArray, List.getElem_cons_zero, List.getElem_cons_succ]
  refine wpAnyH_take (i := 6) (v := ?_) rfl (by kernel_rfl) (by kernel_rfl) (by kernel_rfl) (fun _ _ _ h => h) (Or.inl ⟨by rfl, ?_⟩) (by assumption) ?_
  rotate_left
  · intro w hSw; (try dsimp only at hSw); go_simp; all_goals with_reducible rfl
  simp only [Act.put, List.setIfInBounds_toArray, List.set_cons_zero, List.set_cons_succ, List.getElem_toArray, List.getElem_cons_zero, List.getElem_cons_succ]
  refine wpAnyH_take (i := 7) (v := ?_) rfl (by kernel_rfl) (by kernel_rfl) (by kernel_rfl) (fun _ _ _ h => h) (Or.inl ⟨by rfl, ?_⟩) (by assumption) ?_
  rotate_left
  · intro w hSw; (try dsimp only at hSw); go_simp; all_goals with_reducible rfl
  simp only [Act.put, List.setIfInBounds_toArray, List.set_cons_zero, List.set_cons_succ, List.getElem_toArray, List.getElem_cons_zero, List.getElem_cons_succ]
  refine wpAnyH_take (i := 8) (v := ?_) rfl (by kernel_rfl) (by kernel_rfl) (by kernel_rfl) (fun _ _ _ h => h) (Or.inl ⟨by rfl, ?_⟩) (by assumption) ?_
  rotate_left
  · intro w hSw; (try dsimp only at hSw); go_simp; all_goals with_reducible rfl
  simp only [Act.put, List.setIfInBounds_toArray, List.set_cons_zero, List.set_cons_succ, List.getElem_toArray, List.getElem_cons_zero, List.getElem_cons_succ]
  refine wpAnyH_take (i := 9) (v := ?_) rfl (by kernel_rfl) (by kernel_rfl) (by kernel_rfl) (fun _ _ _ h => h) (Or.inl ⟨by rfl, ?_⟩) (by assumption) ?_
  rotate_left
  · intro w hSw; (try dsimp only at hSw); go_simp; all_goals with_reducible rfl
  simp only [Act.put, List.setIfInBounds_toArray, List.set_cons_zero, List.set_cons_succ, List.getElem_toArray, List.getElem_cons_zero, List.getElem_cons_succ]
  refine wpAnyH_take (i := 10) (v := ?_) rfl (by kernel_rfl) (by kernel_rfl) (by kernel_rfl) (fun _ _ _ h => h) (Or.inl ⟨by rfl, ?_⟩) (by assumption) ?_
  rotate_left
  · intro w hSw; (try dsimp only at hSw); go_simp; all_goals with_reducible rfl
  simp only [Act.put, List.setIfInBounds_toArray, List.set_cons_zero, List.set_cons_succ, List.getElem_toArray, List.getElem_cons_zero, List.getElem_cons_succ]
  refine wpAnyH_take (i := 11) (v := ?_) rfl (by kernel_rfl) (by kernel_rfl) (by kernel_rfl) (fun _ _ _ h => h) (Or.inl ⟨by rfl, ?_⟩) (by assumption) ?_
  rotate_left
  · intro w hSw; (try dsimp only at hSw); go_simp; all_goals with_reducible rfl
  simp only [Act.put, List.setIfInBounds_toArray, List.set_cons_zero, List.set_cons_succ, List.getElem_toArray, List.getElem_cons_zero, List.getElem_cons_succ]
  refine wpAnyH_take (i := 12) (v := ?_) rfl (by kernel_rfl) (by kernel_rfl) (by kernel_rfl) (fun _ _ _ h => h) (Or.inl ⟨by rfl, ?_⟩) (by assumption) ?_
  rotate_left
  · intro w hSw; (try dsimp only at hSw); go_simp; all_goals with_reducible rfl
  simp only [Act.put, List.setIfInBounds_toArray, List.set_cons_zero, List.set_cons_succ, List.getElem_toArray, List.getElem_cons_zero, List.getElem_cons_succ]
  refine wpAnyH_take (i := 13) (v := ?_) rfl (by kernel_rfl) (by kernel_rfl) (by kernel_rfl) (fun _ _ _ h => h) (Or.inl ⟨by rfl, ?_⟩) (by assumption) ?_
  rotate_left
  · intro w hSw; (try dsimp only at hSw); go_simp; all_goals with_reducible rfl
  simp only [Act.put, List.setIfInBounds_toArray, List.set_cons_zero, List.set_cons_succ, List.getElem_toArray, List.getElem_cons_zero, List.getElem_cons_succ]
  refine wpAnyH_take (i := 14) (v := ?_) rfl (by kernel_rfl) (by kernel_rfl) (by kernel_rfl) (fun _ _ _ h => h) (Or.inl ⟨by rfl, ?_⟩) (by assumption) ?_
  rotate_left
  · intro w hSw; (try dsimp only at hSw); go_simp; all_goals with_reducible rfl
  simp only [Act.put, List.setIfInBounds_toArray, List.set_cons_zero, List.set_cons_succ, List.getElem_toArray, List.getElem_cons_zero, List.getElem_cons_succ]
  refine wpAnyH_take (i := 15) (v := ?_) rfl (by kernel_rfl) (by kernel_rfl) (by kernel_rfl) (fun _ _ _ h => h) (Or.inl ⟨by rfl, ?_⟩) (by assumption) ?_
  rotate_left
  · intro w hSw; (try dsimp only at hSw); go_simp; all_goals with_reducible rfl
  simp only [Act.put, List.setIfInBounds_toArray, List.set_cons_zero, List.set_cons_succ, List.getElem_toArray, List.getElem_cons_zero, List.getElem_cons_succ]
  refine wpAnyH_take (i := 16) (v := ?_) rfl (by kernel_rfl) (by kernel_rfl) (by kernel_rfl) (fun _ _ _ h => h) (Or.inl ⟨by rfl, ?_⟩) (by assumption) ?_
  rotate_left
  · intro w hSw; (try dsimp only at hSw); go_simp; all_goals with_reducible rfl
  simp only [Act.put, List.setIfInBounds_toArray, List.set_cons_zero, List.set_cons_succ, List.getElem_toArray, List.getElem_cons_zero, List.getElem_cons_succ]
  refine wpAnyH_take (i := 17) (v := ?_) rfl (by kernel_rfl) (by kernel_rfl) (by kernel_rfl) (fun _ _ _ h => h) (Or.inl ⟨by rfl, ?_⟩) (by assumption) ?_
  rotate_left
  · intro w hSw; (try dsimp only at hSw); go_simp; all_goals with_reducible rfl
  simp only [Act.put, List.setIfInBounds_toArray, List.set_cons_zero, List.set_cons_succ, List.getElem_toArray, List.getElem_cons_zero, List.getElem_cons_succ]
  refine wpAnyH_take (i := 18) (v := ?_) rfl (by kernel_rfl) (by kernel_rfl) (by kernel_rfl) (fun _ _ _ h => h) (Or.inl ⟨by rfl, ?_⟩) (by assumption) ?_
  rotate_left
  · intro w hSw; (try dsimp only at hSw); go_simp; all_goals with_reducible rfl
  simp only [Act.put, List.setIfInBounds_toArray, List.set_cons_zero, List.set_cons_succ, List.getElem_toArray, List.getElem_cons_zero, List.getElem_cons_succ]
  refine wpAnyH_take (i := 19) (v := ?_) rfl (by kernel_rfl) (by kernel_rfl) (by kernel_rfl) (fun _ _ _ h => h) (Or.inl ⟨by rfl, ?_⟩) (by assumption) ?_
  rotate_left
  · intro w hSw; (try dsimp only at hSw); go_simp; all_goals with_reducible rfl
  simp only [Act.put, List.setIfInBounds_toArray, List.set_cons_zero, List.set_cons_succ, List.getElem_toArray, List.getElem_cons_zero, List.getElem_cons_succ]
  refine wpAnyH_take (i := 20) (v := ?_) rfl (by kernel_rfl) (by kernel_rfl) (by kernel_rfl) (fun _ _ _ h => h) (Or.inl ⟨by rfl, ?_⟩) (by assumption) ?_
  rotate_left
  · intro w hSw; (try dsimp only at hSw); go_simp; all_goals with_reducible rfl
  simp only [Act.put, List.setIfInBounds_toArray, List.set_cons_zero, List.set_cons_succ, List.getElem_toArray, List.getElem_cons_zero, List.getElem_cons_succ]
  refine wpAnyH_take (i := 21) (v := ?_) rfl (by kernel_rfl) (by kernel_rfl) (by kernel_rfl) (fun _ _ _ h => h) (Or.inl ⟨by rfl, ?_⟩) (by assumption) ?_
  rotate_left
  · intro w hSw; (try dsimp only at hSw); go_simp; all_goals with_reducible rfl
  simp only [Act.put, List.setIfInBounds_toArray, List.set_cons_zero, List.set_cons_succ, List.getElem_toArray, List.getElem_cons_zero, List.getElem_cons_succ]
  refine wpAnyH_take (i := 22) (v := ?_) rfl (by kernel_rfl) (by kernel_rfl) (by kernel_rfl) (fun _ _ _ h => h) (Or.inl ⟨by rfl, ?_⟩) (by assumption) ?_
  rotate_left
  · intro w hSw; (try dsimp only at hSw); go_simp; all_goals with_reducible rfl
  simp only [Act.put, List.setIfInBounds_toArray, List.set_cons_zero, List.set_cons_succ, List.getElem_toArray, List.getElem_cons_zero, List.getElem_cons_succ]
  refine wpAnyH_take (i := 23) (v := ?_) rfl (by kernel_rfl) (by kernel_rfl) (by kernel_rfl) (fun _ _ _ h => h) (Or.inl ⟨by rfl, ?_⟩) (by assumption) ?_
  rotate_left
  · intro w hSw; (try dsimp only at hSw); go_simp; all_goals with_reducible rfl
  simp only [Act.put, List.setIfInBounds_toArray, List.set_cons_zero, List.set_cons_succ, List.getElem_toArray, List.getElem_cons_zero, List.getElem_cons_succ]
  refine wpAnyH_take (i := 24) (v := ?_) rfl (by kernel_rfl) (by kernel_rfl) (by kernel_rfl) (fun _ _ _ h => h) (Or.inl ⟨by rfl, ?_⟩) (by assumption) ?_
  rotate_left
  · intro w hSw; (try dsimp only at hSw); go_simp; all_goals with_reducible rfl
  simp only [Act.put, List.setIfInBounds_toArray, List.set_cons_zero, List.set_cons_succ, List.getElem_toArray, List.getElem_cons_zero, List.getElem_cons_succ]
  refine wpAnyH_take (i := 25) (v := ?_) rfl (by kernel_rfl) (by kernel_rfl) (by kernel_rfl) (fun _ _ _ h => h) (Or.inl ⟨by rfl, ?_⟩) (by assumption) ?_
  rotate_left
  · intro w hSw; (try dsimp only at hSw); go_simp; all_goals with_reducible rfl
  simp only [Act.put, List.setIfInBounds_toArray, List.set_cons_zero, List.set_cons_succ, List.getElem_toArray, List.getElem_cons_zero, List.getElem_cons_succ]
  refine wpAnyH_take (i := 26) (v := ?_) rfl (by kernel_rfl) (by kernel_rfl) (by kernel_rfl) (fun _ _ _ h => h) (Or.inl ⟨by rfl, ?_⟩) (by assumption) ?_
  rotate_left
  · intro w hSw; (try dsimp only at hSw); go_simp; all_goals with_reducible rfl
  simp only [Act.put, List.setIfInBounds_toArray, List.set_cons_zero, List.set_cons_succ, List.getElem_toArray, List.getElem_cons_zero, List.getElem_cons_succ]
  refine wpAnyH_ready (rs := [27]) (by kernel_rfl) (by simp) ?_
  refine AllReadyH.cons rfl (fun K hK => ?_) AllReadyH.nil
  go_simp
  refine (dPts _ (by first | assumption | exact belowDrew (by assumption))).mono ?_
  rintro e wA ⟨xA, oA, rfl, sA, y0, y1, z0, z1, z2, zA⟩
  go_wp2_with fail
  refine hK.out _ _ (⟨z0, z1, z2⟩) (fun hHeld => ?_)
  clear hK K
  refine wpAnyH_take (i := 28) (v := ?_) rfl (by kernel_rfl) (by kernel_rfl) (by kernel_rfl) (fun _ _ _ h => h) (Or.inl ⟨by rfl, ?_⟩) (by assumption) ?_
  rotate_left
  · intro w hSw; (try dsimp only at hSw); go_simp; all_goals with_reducible rfl
  simp only [Act.put, List.setIfInBounds_toArray, List.set_cons_zero, List.set_cons_succ, List.getElem_toArray, List.getElem_cons_zero, List.getElem_cons_succ]
  refine wpAnyH_ready (rs := [29]) (by kernel_rfl) (by simp) ?_
  refine AllReadyH.cons rfl (fun K hK => ?_) AllReadyH.nil
  go_simp
  refine (over z2 (cP2 _ _ _ z2 sA)).mono ?_
  clear z0 z1 y0 y1 zA
  rintro e wB ⟨rfl, z0, z1, zB⟩
  go_wp2_with fail
  refine hK.out _ _ (⟨z0, z1, zB⟩) (fun hHeld => ?_)
  clear hK K
  clear z2 sA
  refine wpAnyH_take (i := 30) (v := ?_) rfl (by kernel_rfl) (by kernel_rfl) (by kernel_rfl) (fun _ _ _ h => h) (Or.inl ⟨by rfl, ?_⟩) (by assumption) ?_
  rotate_left
  · intro w hSw; (try dsimp only at hSw); go_simp; all_goals with_reducible rfl
  simp only [Act.put, List.setIfInBounds_toArray, List.set_cons_zero, List.set_cons_succ, List.getElem_toArray, List.getElem_cons_zero, List.getElem_cons_succ]
  refine wpAnyH_take (i := 31) (v := ?_) rfl (by kernel_rfl) (by kernel_rfl) (by kernel_rfl) (fun _ _ _ h => h) (Or.inl ⟨by rfl, ?_⟩) (by assumption) ?_
  rotate_left
  · intro w hSw; (try dsimp only at hSw); go_simp; all_goals with_reducible rfl
  simp only [Act.put, List.setIfInBounds_toArray, List.set_cons_zero, List.set_cons_succ, List.getElem_toArray, List.getElem_cons_zero, List.getElem_cons_succ]
  refine wpAnyH_take (i := 32) (v := ?_) rfl (by kernel_rfl) (by kernel_rfl) (by kernel_rfl) (fun _ _ _ h => h) (Or.inl ⟨by rfl, ?_⟩) (by assumption) ?_
  rotate_left
  · intro w hSw; (try dsimp only at hSw); go_simp; all_goals with_reducible rfl
  simp only [Act.put, List.setIfInBounds_toArray, List.set_cons_zero, List.set_cons_succ, List.getElem_toArray, List.getElem_cons_zero, List.getElem_cons_succ]
  refine wpAnyH_ready (rs := [33]) (by kernel_rfl) (by simp) ?_
  refine AllReadyH.cons rfl (fun K hK => ?_) AllReadyH.nil
  go_simp
  clear z0 z1
  refine (dPts _ zB).mono ?_
  rintro e wA ⟨xA, oA, rfl, sA, y0, y1, z0, z1, z2, zA⟩
  go_wp2_with fail
  refine hK.out _ _ (⟨z0, z1, z2⟩) (fun hHeld => ?_)
  clear hK K
  refine wpAnyH_less (S' := (fun w' => (w'.cell? ⟨gP, 0, none⟩ = some (.int .i64 30) ∧ w'.cell? ⟨gP, 1, none⟩ = some (.int .i64 7) ∧ Below w12.heap.size w12 w') ∧ w'.cell? ⟨xA, oA + 4, none⟩ = some (.int .i64 30) ∧ w'.cell? ⟨xA, oA + 4 + 1, none⟩ = some (.int .i64 7))) (fun _ h => h.1) ?_
  replace hHeld : (fun w' => (w'.cell? ⟨gP, 0, none⟩ = some (.int .i64 30) ∧ w'.cell? ⟨gP, 1, none⟩ = some (.int .i64 7) ∧ Below w12.heap.size w12 w') ∧ w'.cell? ⟨xA, oA + 4, none⟩ = some (.int .i64 30) ∧ w'.cell? ⟨xA, oA + 4 + 1, none⟩ = some (.int .i64 7)) _ := ⟨hHeld, y0, y1⟩
  refine wpAnyH_take (i := 34) (v := ?_) rfl (by kernel_rfl) (by kernel_rfl) (by kernel_rfl) (fun _ _ _ h => h) (Or.inl ⟨by rfl, ?_⟩) (by assumption) ?_
  rotate_left
  · intro w hSw; (try dsimp only at hSw); go_simp; all_goals with_reducible rfl
  simp only [Act.put, List.setIfInBounds_toArray, List.set_cons_zero, List.set_cons_succ, List.getElem_toArray, List.getElem_cons_zero, List.getElem_cons_succ]
  refine wpAnyH_take (i := 35) (v := ?_) rfl (by kernel_rfl) (by kernel_rfl) (by kernel_rfl) (fun _ _ _ h => h) (Or.inl ⟨by rfl, ?_⟩) (by assumption) ?_
  rotate_left
  · intro w hSw; (try dsimp only at hSw); go_simp; all_goals with_reducible rfl
  simp only [Act.put, List.setIfInBounds_toArray, List.set_cons_zero, List.set_cons_succ, List.getElem_toArray, List.getElem_cons_zero, List.getElem_cons_succ]
  refine wpAnyH_take (i := 36) (v := ?_) rfl (by kernel_rfl) (by kernel_rfl) (by kernel_rfl) (fun _ _ _ h => h) (Or.inl ⟨by rfl, ?_⟩) (by assumption) ?_
  rotate_left
  · intro w hSw; (try dsimp only at hSw); go_simp; all_goals with_reducible rfl
  simp only [Act.put, List.setIfInBounds_toArray, List.set_cons_zero, List.set_cons_succ, List.getElem_toArray, List.getElem_cons_zero, List.getElem_cons_succ]
  refine wpAnyH_take (i := 37) (v := ?_) rfl (by kernel_rfl) (by kernel_rfl) (by kernel_rfl) (fun _ _ _ h => h) (Or.inl ⟨by rfl, ?_⟩) (by assumption) ?_
  rotate_left
  · intro w hSw; (try dsimp only at hSw); go_simp; all_goals with_reducible rfl
  simp only [Act.put, List.setIfInBounds_toArray, List.set_cons_zero, List.set_cons_succ, List.getElem_toArray, List.getElem_cons_zero, List.getElem_cons_succ]
  refine wpAnyH_take (i := 38) (v := ?_) rfl (by kernel_rfl) (by kernel_rfl) (by kernel_rfl) (fun _ _ _ h => h) (Or.inl ⟨by rfl, ?_⟩) (by assumption) ?_
  rotate_left
  · intro w hSw; (try dsimp only at hSw); go_simp; all_goals with_reducible rfl
  simp only [Act.put, List.setIfInBounds_toArray, List.set_cons_zero, List.set_cons_succ, List.getElem_toArray, List.getElem_cons_zero, List.getElem_cons_succ]
  refine wpAnyH_take (i := 39) (v := ?_) rfl (by kernel_rfl) (by kernel_rfl) (by kernel_rfl) (fun _ _ _ h => h) (Or.inl ⟨by rfl, ?_⟩) (by assumption) ?_
  rotate_left
  · intro w hSw; (try dsimp only at hSw); go_simp; all_goals with_reducible rfl
  simp only [Act.put, List.setIfInBounds_toArray, List.set_cons_zero, List.set_cons_succ, List.getElem_toArray, List.getElem_cons_zero, List.getElem_cons_succ]
  refine wpAnyH_take (i := 40) (v := ?_) rfl (by kernel_rfl) (by kernel_rfl) (by kernel_rfl) (fun _ _ _ h => h) (Or.inl ⟨by rfl, ?_⟩) (by assumption) ?_
  rotate_left
  · intro w hSw; (try dsimp only at hSw); go_simp; all_goals with_reducible rfl
  simp only [Act.put, List.setIfInBounds_toArray, List.set_cons_zero, List.set_cons_succ, List.getElem_toArray, List.getElem_cons_zero, List.getElem_cons_succ]
  refine wpAnyH_take (i := 41) (v := ?_) rfl (by kernel_rfl) (by kernel_rfl) (by kernel_rfl) (fun _ _ _ h => h) (Or.inl ⟨by rfl, ?_⟩) (by assumption) ?_
  rotate_left
  · intro w hSw; (try dsimp only at hSw); go_simp; all_goals with_reducible rfl
  simp only [Act.put, List.setIfInBounds_toArray, List.set_cons_zero, List.set_cons_succ, List.getElem_toArray, List.getElem_cons_zero, List.getElem_cons_succ]
  refine wpAnyH_take (i := 42) (v := ?_) rfl (by kernel_rfl) (by kernel_rfl) (by kernel_rfl) (fun _ _ _ h => h) (Or.inl ⟨by rfl, ?_⟩) (by assumption) ?_
  rotate_left
  · intro w hSw; (try dsimp only at hSw); go_simp; all_goals with_reducible rfl
  simp only [Act.put, List.setIfInBounds_toArray, List.set_cons_zero, List.set_cons_succ, List.getElem_toArray, List.getElem_cons_zero, List.getElem_cons_succ]
  refine wpAnyH_take (i := 43) (v := ?_) rfl (by kernel_rfl) (by kernel_rfl) (by kernel_rfl) (fun _ _ _ h => h) (Or.inl ⟨by rfl, ?_⟩) (by assumption) ?_
  rotate_left
  · intro w hSw; (try dsimp only at hSw); go_simp; all_goals with_reducible rfl
  simp only [Act.put, List.setIfInBounds_toArray, List.set_cons_zero, List.set_cons_succ, List.getElem_toArray, List.getElem_cons_zero, List.getElem_cons_succ]
  refine wpAnyH_ready (rs := [44]) (by kernel_rfl) (by simp) ?_
  refine AllReadyH.cons rfl (fun K hK => ?_) AllReadyH.nil
  go_simp
  refine hK.out _ _ (⟨⟨by simp [*, World.cell?_alloc_some], by simp [*, World.cell?_alloc_some], zA⟩, by simp [*, World.cell?_alloc_some], by simp [*, World.cell?_alloc_some]⟩) (fun hHeld => ?_)
  clear hK K
  have yy0 := hHeld.2.1
  have yy1 := hHeld.2.2
  refine wpAnyH_ready (rs := [45]) (by kernel_rfl) (by simp) ?_
  refine AllReadyH.cons rfl (fun K hK => ?_) AllReadyH.nil
  go_simp
  refine (cB _ zA).mono ?_
  rintro e wC ⟨rfl, hC⟩
  have zC := belowCall zA hC
  go_wp2_with fail
  refine hK.out _ _ (⟨⟨(BP.keep zC BP.lt).cell 0, (BP.keep zC BP.lt).cell 1, zC⟩, (hC.cell (World.block_lt_of_cell? _ _ yy0)).trans yy0, (hC.cell (World.block_lt_of_cell? _ _ yy1)).trans yy1⟩) (fun hHeld => ?_)
  clear hK K
  refine wpAnyH_take (i := 46) (v := ?_) rfl (by kernel_rfl) (by kernel_rfl) (by kernel_rfl) (fun _ _ _ h => h) (Or.inl ⟨by rfl, ?_⟩) (by assumption) ?_
  rotate_left
  · intro w hSw; (try dsimp only at hSw); go_simp; all_goals with_reducible rfl
  simp only [Act.put, List.setIfInBounds_toArray, List.set_cons_zero, List.set_cons_succ, List.getElem_toArray, List.getElem_cons_zero, List.getElem_cons_succ]
  refine wpAnyH_take (i := 47) (v := ?_) rfl (by kernel_rfl) (by kernel_rfl) (by kernel_rfl) (fun _ _ _ h => h) (Or.inl ⟨by rfl, ?_⟩) (by assumption) ?_
  rotate_left
  · intro w hSw; (try dsimp only at hSw); go_simp; all_goals with_reducible rfl
  simp only [Act.put, List.setIfInBounds_toArray, List.set_cons_zero, List.getElem_toArray, List.getElem_cons_zero, List.getElem_cons_succ]
  refine wpAnyH_done (by kernel_rfl) ?_ _
  go_wp2_with fail
  go_ret
  exact ⟨by simp, bel.trans (zC.mono bel.size)⟩

end Go.Proofs.Ytnpikbpngohimaa
