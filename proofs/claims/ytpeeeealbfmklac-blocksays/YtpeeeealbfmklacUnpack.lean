/-
  line.Unpack: what it returns, for all bits and every number; nothing that was there is written.
-/
import Derived.Test.YtpeeeealbfmklacPack
namespace Go.Proofs.Ytpeeeealbfmklac
open Go.RowKit

theorem infoPt : (Try.prog.info? 36).map (fun i => (i.zero, i.size, i.bytes)) = some (some (.agg #[.int .i64 0, .int .i64 0]), 2, 16) := by kernel_rfl

/-- A slice of so many does not lie in this block, or is empty. -/
def Clear (h : Nat) (ao : Option Addr) (X : List Bool) : Prop := X.length = 0 ∨ Off h ao

theorem Clear.kin {h B : Nat} {ao a' : Option Addr} {X Y : List Bool} (hc : Clear h ao X) (hk : Kin B ao a') (hh : h < B) (hl : Y.length ≤ X.length) : Clear h a' Y := by
  rcases hc with hc | hc
  · exact .inl (by omega)
  · exact .inr (hc.kin hk hh)

theorem Sl.clear {w w' : World} {ao : Option Addr} {cap h : Nat} {X : List Bool} (s : Sl w ao cap (X.map Value.bool)) (hg : w.grownBy w' (some h)) (hc : Clear h ao X) : Sl w' ao cap (X.map Value.bool) := by
  rcases hc with hc | hc
  · obtain rfl := List.eq_nil_of_length_eq_zero hc
    exact ⟨.inl rfl, s.le, s.max, s.nil⟩
  · exact s.off hg hc

theorem Sl.clearNew {w : World} {ao : Option Addr} {cap h : Nat} {X : List Bool} (s : Sl w ao cap (X.map Value.bool)) (hg : w.heap.size ≤ h) : Clear h ao X := by
  by_cases hX : X = []
  · exact .inl (by rw [hX]; rfl)
  · exact .inr (s.offNew hg (by simpa using hX))

theorem bothN_length (b : List Bool) : (bothN b).2.2.1.length ≤ b.length := by
  unfold bothN
  split
  · simp
  split
  · simp
  · exact Nat.le_trans (zigR_length _) (zigR_length _)

def wrapU (O : List Pt) (R : List Pt × Int) : List Pt × Int := (if R.2 = 0 then O ++ R.1 else [], R.2)

theorem unp_err {X : List Bool} (O : List Pt) (m : Nat) (t v s last : Int) (h : ¬ (bothN X).2.2.2 = 0) : wrapU O (unp (m + 1) t v s last X) = ([], (bothN X).2.2.2) := by
  unfold bothN at h ⊢
  rw [unp]
  by_cases h1 : zigF X ≠ 0
  · rw [if_pos h1] at h ⊢
    rw [if_pos h1]
    simp only [wrapU]
    rw [if_neg h1]
  · rw [if_neg h1] at h ⊢
    rw [if_neg h1]
    by_cases h2 : zigF (zigR X) ≠ 0
    · rw [if_pos h2] at h ⊢
      rw [if_pos h2]
      simp only [wrapU]
      rw [if_neg h2]
    · rw [if_neg h2] at h
      exact absurd rfl h

theorem unp_step {X : List Bool} (m : Nat) (t v s last : Int) (h : (bothN X).2.2.2 = 0) :
    ((-4000000 ≤ (bothN X).1 ∧ (bothN X).1 ≤ 4000000) ∧ (-4000000 ≤ (bothN X).2.1 ∧ (bothN X).2.1 ≤ 4000000)) ∧
    unp (m + 1) t v s last X = if ptOk (t + (s + (bothN X).1), v + (bothN X).2.1) = false then ([], 3) else if t + (s + (bothN X).1) ≤ last then ([], 7) else
      (if (unp m (t + (s + (bothN X).1)) (v + (bothN X).2.1) (s + (bothN X).1) (t + (s + (bothN X).1)) (bothN X).2.2.1).2 = 0 then (t + (s + (bothN X).1), v + (bothN X).2.1) :: (unp m (t + (s + (bothN X).1)) (v + (bothN X).2.1) (s + (bothN X).1) (t + (s + (bothN X).1)) (bothN X).2.2.1).1 else [],
        (unp m (t + (s + (bothN X).1)) (v + (bothN X).2.1) (s + (bothN X).1) (t + (s + (bothN X).1)) (bothN X).2.2.1).2) := by
  rw [unp]
  unfold bothN at h ⊢
  by_cases h1 : zigF X ≠ 0
  · rw [if_pos h1] at h
    exact absurd h h1
  · rw [if_neg h1] at h ⊢
    rw [if_neg h1]
    by_cases h2 : zigF (zigR X) ≠ 0
    · rw [if_pos h2] at h
      exact absurd h h2
    · rw [if_neg h2] at h ⊢
      rw [if_neg h2]
      exact ⟨⟨zigN_bound (by simpa using h1), zigN_bound (by simpa using h2)⟩, rfl⟩

theorem wrap_next (O : List Pt) (p : Pt) (R : List Pt × Int) : wrapU O (if R.2 = 0 then p :: R.1 else [], R.2) = wrapU (O ++ [p]) R := by
  unfold wrapU
  simp only
  by_cases h : R.2 = 0
  · rw [if_pos h, if_pos h, if_pos h]; simp
  · rw [if_neg h, if_neg h]

def badE (last : Int) (p : Pt) : Int := if ptOk p = false then 3 else if p.1 ≤ last then 7 else 0

theorem unp_bad (O : List Pt) (p : Pt) (last : Int) (R : List Pt × Int) (h : ¬ badE last p = 0) : wrapU O (if ptOk p = false then ([], 3) else if p.1 ≤ last then ([], 7) else R) = ([], badE last p) := by
  unfold badE at h ⊢
  by_cases h1 : ptOk p = false
  · rw [if_pos h1, if_pos h1]; rfl
  rw [if_neg h1] at h
  rw [if_neg h1, if_neg h1]
  by_cases h2 : p.1 ≤ last
  · rw [if_pos h2, if_pos h2]; rfl
  · rw [if_neg h2] at h; exact absurd rfl h

theorem unp_good {p : Pt} {last : Int} (h : badE last p = 0) : ptOk p = true ∧ ¬ p.1 ≤ last := by
  unfold badE at h
  by_cases h1 : ptOk p = false
  · rw [if_pos h1] at h; cases h
  rw [if_neg h1] at h
  by_cases h2 : p.1 ≤ last
  · rw [if_pos h2] at h; cases h
  · exact ⟨by simpa using h1, h2⟩

theorem checkE_snoc {O : List Pt} (p : Pt) (hO : O.length < 40) (hc : chk (-1) O = 0) : checkE (O ++ [p]) = badE (lastT (-1) O) p := by
  unfold checkE
  rw [if_neg (by rw [List.length_append]; simp; omega), chk_append, if_pos hc]
  rfl

theorem chk_snoc {O : List Pt} {p : Pt} (hc : chk (-1) O = 0) (h : badE (lastT (-1) O) p = 0) : chk (-1) (O ++ [p]) = 0 := by
  obtain ⟨h1, h2⟩ := unp_good h
  rw [chk_append, if_pos hc, chk, if_neg (by rw [h1]; decide), if_neg h2]
  rfl

/-- What is owned stays while a block ahead of it is written. -/
theorem ownOff {w w' : World} {base : Nat} {e : TypeId} {size n g : Nat} {u : Value} {xs : List Value} (h : w.ownsRow base e size u n xs) (hg : w.grownBy w' (some g)) (hb : g < base) : w'.ownsRow base e size u n xs :=
  h.kept hg (by
    cases hu : u.ownBlock with
    | none => exact .inl rfl
    | some k => exact .inr (fun e => by have := (h.lt k hu).1; have := Option.some.inj e; omega))

theorem Sl.clearOwn {w w' : World} {ao : Option Addr} {cap : Nat} {X : List Bool} {v : Value} (s : Sl w ao cap (X.map Value.bool)) (hg : w.grownBy w' v.ownBlock) (hc : ∀ h, v.ownBlock = some h → Clear h ao X) : Sl w' ao cap (X.map Value.bool) := by
  cases hu : v.ownBlock with
  | none =>
    rw [hu] at hg
    exact s.call ⟨hg.os, hg.tape, hg.output, hg.size, fun k hk => hg.block k hk (by simp)⟩
  | some h =>
    rw [hu] at hg
    exact s.clear hg (hc h hu)

theorem unp_none (n : Nat) (t v s last : Int) (b : List Bool) (h : ¬ (unp n t v s last b).2 = 0) : (unp n t v s last b).1 = [] := by
  cases n with
  | zero => rfl
  | succ n =>
    rw [unp] at h ⊢
    by_cases h1 : zigF b ≠ 0
    · rw [if_pos h1]
    rw [if_neg h1] at h ⊢
    by_cases h2 : zigF (zigR b) ≠ 0
    · rw [if_pos h2]
    rw [if_neg h2] at h ⊢
    by_cases h3 : ptOk (t + (s + zigN b), v + zigN (zigR b)) = false
    · rw [if_pos h3]
    rw [if_neg h3] at h ⊢
    by_cases h4 : t + (s + zigN b) ≤ last
    · rw [if_pos h4]
    rw [if_neg h4] at h ⊢
    exact if_neg h

set_option maxHeartbeats 1000000 in
set_option maxRecDepth 100000 in
theorem unpack_ok (ao : Option Addr) (cap : Nat) (b : List Bool) (N : Nat) (w : World) (hr : Sl w ao cap (b.map Value.bool)) (hl : b.length ≤ 140737488355328) (hN : N ≤ 40) :
    Calls Try.prog 18 #[.slice ao b.length cap, .int .i64 N] w fun e w' =>
      ∃ a' G, e = .returned (.tuple #[.slice a' (unp N 0 0 0 (-1) b).1.length G, .int .i64 (unp N 0 0 0 (-1) b).2]) ∧ SlP w' a' G (unp N 0 0 0 (-1) b).1 ∧ Below w.heap.size w w' := by
  obtain ⟨D, hD⟩ : ∃ D, D = unp N 0 0 0 (-1) b := ⟨_, rfl⟩
  rw [← hD]
  have HD : Hid (D = wrapU [] (unp (N - 0) 0 0 0 (-1) b)) := by
    refine hide ?_
    rw [Nat.sub_zero, ← hD]
    unfold wrapU
    by_cases h : D.2 = 0
    · rw [if_pos h]; rfl
    · rw [if_neg h]
      have : D.1 = [] := by rw [hD] at h ⊢; exact unp_none _ _ _ _ _ _ h
      exact Prod.ext this rfl
  clear hD
  have hN' : (N : Int) ≤ 40 := by omega
  obtain ⟨i0, hi, hz0, hz1, hz2⟩ := info_parts infoPt
  obtain ⟨g, hg⟩ : ∃ g, g = w.heap.size := ⟨_, rfl⟩
  have hgw : w.heap.size ≤ g := by omega
  go_enter Try.func18, Try.ntmps18
  go_wp2_with (at_make; refine wpList_make_own _ rfl (.const (.int .i64 0)) (.tmp 19) 22 rfl (w.heap.size + 1) 36 i0 (.agg #[.int .i64 0, .int .i64 0]) 2 Try.underlying22 hi hz0 hz1 _ _ _ N rfl rfl rfl (by rw [hz2]; omega) (by unfold maxLen; omega) (by simp) ?_)
  intro w3 own hgrow
  have bel3 : Below w.heap.size w w3 := ((Below.refl _ _).alloc (Nat.le_refl _) _).grown hgrow (by simp) (fun k h => by cases h)
  have B3 : Blk w3 g (spot 0 0 0) 49 := (Blk.laid w (spot 0 0 0) 49 g hg).grown hgrow (fun k h => by cases h)
  have S3 := hr.keep bel3 (Nat.le_refl _)
  have C3 : Clear g ao b := hr.clearNew hgw
  have D3 : ∀ h, (Value.slice (some ⟨w.heap.size + 1, 0, none⟩) 0 N).ownBlock = some h → Clear h ao b := by
    intro h hh
    cases hh
    exact hr.clearNew (Nat.le_succ _)
  clear hgrow
  go_wp2_with fail
  rw [← hg] at own D3 ⊢
  clear hg
  generalize Value.slice (some ⟨g + 1, 0, none⟩) 0 N = v0 at *
  go_loopw [0, 7, 22] (fun bs o i wr => ∃ (k G : Nat) (t v s : Int) (a' : Option Addr) (X : List Bool) (O : List Pt), k ≤ N ∧ i = .int .i64 k ∧ bs = .slice a' X.length G ∧ (0 ≤ t ∧ t ≤ 100000) ∧ (-1000000 ≤ v ∧ v ≤ 1000000) ∧ (-100000 ≤ s ∧ s ≤ 100000) ∧ X.length ≤ b.length ∧ Hid (O.length = k ∧ chk (-1) O = 0) ∧ Hid (D = wrapU O (unp (N - k) t v s (lastT (-1) O) X)) ∧ Blk wr g (spot t v s) 49 ∧ wr.ownsRow (g + 1) 36 2 o k (cellsP O) ∧ Sl wr a' G (X.map Value.bool) ∧ Clear g a' X ∧ (∀ h, o.ownBlock = some h → Clear h a' X) ∧ Below w.heap.size w wr) (fun _ _ i _ => N - (intOf i).toNat)
  case atStart => exact ⟨0, cap, 0, 0, 0, ao, b, [], by omega, rfl, rfl, by omega, by omega, by omega, Nat.le_refl _, hide ⟨rfl, rfl⟩, HD, B3, own, S3, C3, D3, bel3⟩
  case round =>
    clear HD B3 own S3 C3 D3 bel3 w3
    obtain ⟨k, G, t, v, s, a', X, O, hk, rfl, rfl, ht, hv, hs, hX, HO, HD, B, own, S, cg, co, bel⟩ := hrel
    by_cases hlt : k < N
    · have HD' := HD.out
      clear HD
      rw [show N - k = (N - (k + 1)) + 1 by omega] at HD'
      have TB := fun W h => takeBoth_any a' G X W h (by omega)
      have hlen := bothN_length X
      by_cases hF : (bothN X).2.2.2 = 0
      · obtain ⟨⟨hx, hy⟩, hstep⟩ := unp_step (N - (k + 1)) t v s (lastT (-1) O) hF
        rw [hstep] at HD'
        rw [hF] at TB
        clear hstep hF
        generalize (bothN X).1 = x at *
        generalize (bothN X).2.1 = y at *
        generalize (bothN X).2.2.1 = Y at *
        have BY := fun W h => by_any g t v s x y W h ht hv hs hx hy
        have CH : ∀ a c W, SlP W a c (O ++ [(t + (s + x), v + y)]) → Calls Try.prog 15 #[.slice a (k + 1) c] W fun e w' => e = .returned (.int .i64 (badE (lastT (-1) O) (t + (s + x), v + y))) ∧ Below W.heap.size W w' := by
          intro a c W h
          have h2 := check_any a c _ W h
          rw [checkE_snoc _ (by rw [HO.out.1]; omega) HO.out.2, List.length_append, HO.out.1] at h2
          exact h2
        by_cases hE : badE (lastT (-1) O) (t + (s + x), v + y) = 0
        · obtain ⟨hp, hlate⟩ := unp_good hE
          have hp' := ptOk_true hp
          rw [if_neg (by rw [hp]; decide), if_neg hlate, wrap_next] at HD'
          rw [hE] at CH
          have HE := hide (chk_snoc HO.out.2 hE)
          have HD2 : Hid (D = wrapU (O ++ [(t + (s + x), v + y)]) (unp (N - (k + 1)) (t + (s + x)) (v + y) (s + x) (lastT (-1) (O ++ [(t + (s + x), v + y)])) Y)) := by
            refine hide ?_
            rw [lastT_snoc]
            exact HD'
          have HL2 : Hid ((O ++ [(t + (s + x), v + y)]).length = k + 1) := by
            refine hide ?_
            rw [List.length_append, HO.out.1]
            rfl
          clear HD' hp hlate hE
          go_wp2_with fail
          go_at_call 27
          refine (TB _ S).mono ?_
          rintro e w4 ⟨a4, G4, rfl, S4, b4, k4⟩
          have B4 := B.keep b4 B.lt
          have own4 := ownCall own b4
          have bel4 := belowCall bel b4
          have cg4 : Clear g a4 Y := cg.kin k4 B.lt hlen
          have co4 : ∀ h, u7.ownBlock = some h → Clear h a4 Y := fun h hh => (co h hh).kin k4 (own.lt h hh).2 hlen
          clear k4
          go_wp2_with fail
          go_at_call 28
          refine (BY _ B4).mono ?_
          rintro e w5 ⟨rfl, B5, g5⟩
          have own5 := ownOff own4 g5 (Nat.lt_succ_self _)
          have bel5 : Below w.heap.size w w5 := bel4.grown g5 bel4.size (fun j hj => by cases hj; exact hgw)
          have S5 := S4.clear g5 cg4
          clear g5
          go_wp2_with (at_builtin; refine wpList_append_new _ rfl (.tmp 34) (.tmp 38) 22 rfl (g + 1) 36 i0 _ 2 16 Try.underlying22 hi hz0 hz1 hz2 rfl (by decide) _ k _ rfl own5 1 _ _ rfl rfl (by simp [Value.oneCell']) (by decide) (by unfold maxLen; omega) (by omega) B5.lt ?_)
          intro v6 w6 own6 grow6 went6
          have own7 : w6.ownsRow (g + 1) 36 2 v6 (k + 1) (cellsP (O ++ [(t + (s + x), v + y)])) := by rw [cellsP_append]; exact own6
          have bel6 := belowGrown bel5 own5 grow6 (by omega) bel5.size
          have B6 := B5.grown grow6 (fun j hj => by have := (own5.lt j hj).1; omega)
          have S6 := S5.clearOwn grow6 co4
          have co6 : ∀ h, v6.ownBlock = some h → Clear h a4 Y := by
            intro h hh
            rcases went6 with e | e
            · exact co4 h (e ▸ hh)
            · exact S5.clearNew (e h hh)
          obtain ⟨a6, c6, rfl, sp6, -, -⟩ := SlP.ofOwn own7
          clear own6 grow6 went6
          generalize O ++ [(t + (s + x), v + y)] = O' at *
          go_wp2_with fail
          go_at_call 15
          refine (CH _ _ _ sp6).mono ?_
          rintro e w7 ⟨rfl, b7⟩
          go_wp2_with fail
          go_roundw
          case rel => exact ⟨k + 1, G4, t + (s + x), v + y, s + x, a4, Y, O', by omega, by go_num, rfl, ⟨hp'.1, hp'.2.1⟩, hp'.2.2, by omega, by omega, hide ⟨HL2.out, HE.out⟩, HD2, B6.keep b7 B6.lt, ownCall own7 b7, S6.call b7, cg4, co6, belowCall bel6 b7⟩
          case measure => simp [intOf]; omega
        · rw [unp_bad _ _ _ _ hE] at HD'
          generalize badE (lastT (-1) O) (t + (s + x), v + y) = E at *
          subst HD'
          go_wp2_with fail
          go_at_call 27
          refine (TB _ S).mono ?_
          rintro e w4 ⟨a4, G4, rfl, S4, b4, k4⟩
          have B4 := B.keep b4 B.lt
          have own4 := ownCall own b4
          have bel4 := belowCall bel b4
          clear S4 k4
          go_wp2_with fail
          go_at_call 28
          refine (BY _ B4).mono ?_
          rintro e w5 ⟨rfl, B5, g5⟩
          have own5 := ownOff own4 g5 (Nat.lt_succ_self _)
          have bel5 : Below w.heap.size w w5 := bel4.grown g5 bel4.size (fun j hj => by cases hj; exact hgw)
          clear g5
          go_wp2_with (at_builtin; refine wpList_append_new _ rfl (.tmp 34) (.tmp 38) 22 rfl (g + 1) 36 i0 _ 2 16 Try.underlying22 hi hz0 hz1 hz2 rfl (by decide) _ k _ rfl own5 1 _ _ rfl rfl (by simp [Value.oneCell']) (by decide) (by unfold maxLen; omega) (by omega) B5.lt ?_)
          intro v6 w6 own6 grow6 went6
          have own7 : w6.ownsRow (g + 1) 36 2 v6 (k + 1) (cellsP (O ++ [(t + (s + x), v + y)])) := by rw [cellsP_append]; exact own6
          obtain ⟨a6, c6, rfl, sp6, -, -⟩ := SlP.ofOwn own7
          have bel6 := belowGrown bel5 own5 grow6 (by omega) bel5.size
          clear own6 own7 grow6 went6
          go_wp2_with fail
          go_at_call 15
          refine (CH _ _ _ sp6).mono ?_
          rintro e w7 ⟨rfl, b7⟩
          go_wp2_with fail
          go_ret2
          exact ⟨none, 0, rfl, SlP.ofNil _, belowCall bel6 b7⟩
      · rw [unp_err _ _ _ _ _ _ hF] at HD'
        generalize (bothN X).1 = x at *
        generalize (bothN X).2.1 = y at *
        generalize (bothN X).2.2.1 = Y at *
        generalize (bothN X).2.2.2 = F at *
        subst HD'
        go_wp2_with fail
        go_at_call 27
        refine (TB _ S).mono ?_
        rintro e w4 ⟨a4, G4, rfl, S4, b4, k4⟩
        go_wp2_with fail
        go_ret2
        exact ⟨none, 0, rfl, SlP.ofNil _, belowCall bel b4⟩
    · obtain rfl : k = N := by omega
      have HD' := HD.out
      rw [Nat.sub_self, unp] at HD'
      by_cases hz : X.length = 0
      · rw [if_pos hz, wrapU, if_pos rfl, List.append_nil] at HD'
        obtain ⟨a6, c6, rfl, sp6, hl6, -⟩ := SlP.ofOwn own
        have hz' : (X.length : Int) = 0 := by omega
        subst HD'
        go_wp2_with fail
        go_ret2
        exact ⟨a6, c6, rfl, sp6, bel⟩
      · rw [if_neg hz, wrapU, if_neg (by decide)] at HD'
        subst HD'
        have hz' : (0 : Int) < (X.length : Int) := by omega
        go_wp2_with fail
        go_ret2
        exact ⟨none, 0, rfl, SlP.ofNil _, bel⟩

theorem unpack_no (ao : Option Addr) (len cap : Nat) (n : Int) (w : World) (h : unpIn n = false) :
    Calls Try.prog 18 #[.slice ao len cap, .int .i64 n] w fun e w' => e = .returned (.tuple #[.slice none 0 0, .int .i64 2]) ∧ w = w' := by
  have hn := (of_decide_eq_false h : ¬ (0 ≤ n ∧ n ≤ 40))
  clear h
  by_cases h0 : n < 0
  · go_enter Try.func18, Try.ntmps18
    go_wp2_with fail
    go_ret2
    exact ⟨rfl, rfl⟩
  · have h1 : 40 < n := by omega
    have h2 : ¬ n < 0 := h0
    go_enter Try.func18, Try.ntmps18
    go_wp2_with fail
    go_ret2
    exact ⟨rfl, rfl⟩

/-- Unpack, whatever it is handed. -/
theorem unpack_any (ao : Option Addr) (cap : Nat) (b : List Bool) (n : Int) (w : World) (hr : Sl w ao cap (b.map Value.bool)) (hl : b.length ≤ 140737488355328) :
    Calls Try.prog 18 #[.slice ao b.length cap, .int .i64 n] w fun e w' =>
      ∃ a' G, e = .returned (.tuple #[.slice a' (unpL b n).length G, .int .i64 (unpE b n)]) ∧ SlP w' a' G (unpL b n) ∧ Below w.heap.size w w' := by
  cases h : unpIn n with
  | true =>
    have hn := (of_decide_eq_true h : 0 ≤ n ∧ n ≤ 40)
    obtain ⟨N, rfl⟩ := Int.eq_ofNat_of_zero_le hn.1
    have e1 : unpL b N = (unp N 0 0 0 (-1) b).1 := by rw [unpL, if_pos h]; rfl
    have e2 : unpE b N = (unp N 0 0 0 (-1) b).2 := by rw [unpE, if_pos h]; rfl
    rw [e1, e2]
    exact unpack_ok ao cap b N w hr hl (by omega)
  | false =>
    have e1 : unpL b n = [] := by rw [unpL, h]; rfl
    have e2 : unpE b n = 2 := by rw [unpE, h]; rfl
    rw [e1, e2]
    refine (unpack_no ao b.length cap n w h).mono ?_
    rintro e w' ⟨rfl, rfl⟩
    exact ⟨none, 0, rfl, SlP.ofNil _, Below.refl _ _⟩

theorem unp_length : ∀ (n : Nat) (t v s last : Int) (b : List Bool), (unp n t v s last b).1.length ≤ n
  | 0, _, _, _, _, _ => Nat.le_refl _
  | n + 1, t, v, s, last, b => by
    rw [unp]
    have h := unp_length n (t + (s + zigN b)) (v + zigN (zigR b)) (s + zigN b) (t + (s + zigN b)) (zigR (zigR b))
    by_cases h1 : zigF b ≠ 0
    · rw [if_pos h1]; exact Nat.zero_le _
    rw [if_neg h1]
    by_cases h2 : zigF (zigR b) ≠ 0
    · rw [if_pos h2]; exact Nat.zero_le _
    rw [if_neg h2]
    by_cases h3 : ptOk (t + (s + zigN b), v + zigN (zigR b)) = false
    · rw [if_pos h3]; exact Nat.zero_le _
    rw [if_neg h3]
    by_cases h4 : t + (s + zigN b) ≤ last
    · rw [if_pos h4]; exact Nat.zero_le _
    rw [if_neg h4]
    simp only
    split
    · simp only [List.length_cons]; omega
    · exact Nat.zero_le _

theorem unpL_length (b : List Bool) (n : Int) : (unpL b n).length ≤ 40 := by
  unfold unpL
  cases h : unpIn n with
  | true =>
    have hn := (of_decide_eq_true h : 0 ≤ n ∧ n ≤ 40)
    rw [if_pos rfl]
    have := unp_length n.toNat 0 0 0 (-1) b
    omega
  | false => exact Nat.zero_le _

end Go.Proofs.Ytpeeeealbfmklac
