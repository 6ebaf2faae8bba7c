/-
  query.Last: what it answers, whatever it is handed.
-/
import Derived.Deep.RegionHeld3
import Derived.Test.YtnpikbpngohimaaP24
import Derived.Test.YtnpikbpngohimaaP01
import Derived.Test.YtnpikbpngohimaaP12
import Derived.Test.YtnpikbpngohimaaP27
import Derived.Test.YtnpikbpngohimaaP15
namespace Go.Proofs.Ytnpikbpngohimaa
open Go.RowKit

def lastPt (l : List Pt) : Pt := l.getD (l.length - 1) (0, 0)

def someP (l : List Pt) : Bool := !l.isEmpty

set_option maxHeartbeats 1000000 in
set_option maxRecDepth 100000 in
theorem last_is {C : List Rw} {a : Option Addr} {G cn : Nat} {w : World} (s : Int) (h : IsS w a G C) (hcn : cn = C.length) :
    Calls Try.prog 31 #[.agg #[.slice a cn G], .int .i64 s] w fun e w' =>
      e = .returned (.tuple #[.agg #[.int .i64 (lastPt (allL C s)).1, .int .i64 (lastPt (allL C s)).2], .bool (someP (allL C s)), .int .i64 (allE C s)]) ∧ Below w.heap.size w w' := by
  have hl := allL_len C s
  have c1 := fun W (h : IsS W a G C) => all_is s h
  rw [← hcn] at c1
  have S1 := (h.alloc (.cells #[.slice a cn G] 24)).alloc (.cells #[.int .i64 0, .int .i64 0] 44)
  have BR := Blk.laid (w.alloc (.cells #[.slice a cn G] 24)) [.int .i64 0, .int .i64 0] 44 (w.heap.size + 1) (by simp)
  have bel := below2 w (.cells #[.slice a cn G] 24) (.cells #[.int .i64 0, .int .i64 0] 44)
  obtain ⟨A, hA⟩ : ∃ A, A = allL C s := ⟨_, rfl⟩
  have hEA : allE C s ≠ 0 → A = [] := fun hE => by rw [hA]; unfold allL; rw [if_neg hE]
  rw [← hA] at c1 hl ⊢
  generalize allE C s = E at *
  obtain ⟨n, hn⟩ : ∃ n, n = A.length := ⟨_, rfl⟩
  rw [← hn] at c1 hl
  replace hn := hide hn
  clear hA hcn
  by_cases h0 : E ≠ 0 ∨ A = []
  · have hA0 : A = [] := by
      rcases h0 with h0 | h0
      · exact hEA h0
      · exact h0
    obtain rfl : n = 0 := by rw [hn.out, hA0]; rfl
    have e1 : lastPt A = (0, 0) := by rw [hA0]; rfl
    have e2 : someP A = false := by rw [hA0]; rfl
    rw [e1, e2]
    clear e1 e2 hEA h0
    by_cases hE : E = 0
    · subst hE
      go_enter Try.func31, Try.ntmps31
      go_wp2_with fail
      go_at_call 10
      refine (c1 _ S1).mono ?_
      rintro e w2 ⟨a2, G2, rfl, o2, b2⟩
      replace BR := BR.keep b2 BR.lt
      replace bel := belowCall bel b2
      have q0 : w2.cell? ⟨w.heap.size + 1, 0, none⟩ = some (.int .i64 0) := BR.cell 0
      have q1 : w2.cell? ⟨w.heap.size + 1, 1, none⟩ = some (.int .i64 0) := BR.cell 1
      have f0 := BR.free 0
      have f1 := BR.free 1
      have lR := BR.lt
      go_wp2_with fail
      exact bodyPost_ret (v := .tuple #[.agg #[.int .i64 0, .int .i64 0], .bool false, .int .i64 0]) (by simp [results, Try.results31, go_sem, q0, q1]) rfl ⟨rfl, (bel.setCell (p := ⟨w.heap.size + 1, 0, none⟩) (Nat.le_succ _) _).setCell (p := ⟨w.heap.size + 1, 1, none⟩) (Nat.le_succ _) _⟩
    · go_enter Try.func31, Try.ntmps31
      go_wp2_with fail
      go_at_call 10
      refine (c1 _ S1).mono ?_
      rintro e w2 ⟨a2, G2, rfl, o2, b2⟩
      replace BR := BR.keep b2 BR.lt
      replace bel := belowCall bel b2
      have q0 : w2.cell? ⟨w.heap.size + 1, 0, none⟩ = some (.int .i64 0) := BR.cell 0
      have q1 : w2.cell? ⟨w.heap.size + 1, 1, none⟩ = some (.int .i64 0) := BR.cell 1
      have f0 := BR.free 0
      have f1 := BR.free 1
      have lR := BR.lt
      go_wp2_with fail
      exact bodyPost_ret (v := .tuple #[.agg #[.int .i64 0, .int .i64 0], .bool false, .int .i64 E]) (by simp [results, Try.results31, go_sem, q0, q1]) rfl ⟨rfl, (bel.setCell (p := ⟨w.heap.size + 1, 0, none⟩) (Nat.le_succ _) _).setCell (p := ⟨w.heap.size + 1, 1, none⟩) (Nat.le_succ _) _⟩
  · have hE : E = 0 := by
      by_cases hE : E = 0
      · exact hE
      · exact absurd (.inl hE) h0
    have hA0 : A ≠ [] := fun e => h0 (.inr e)
    subst hE
    have hn1 : 1 ≤ n := by rw [hn.out]; exact List.length_pos_iff.2 hA0
    have e2 : someP A = true := by
      unfold someP
      cases A with
      | nil => exact absurd rfl hA0
      | cons x r => rfl
    rw [e2]
    obtain ⟨m, rfl⟩ : ∃ m, n = m + 1 := ⟨n - 1, by omega⟩
    clear hEA h0 e2 hn1
    obtain ⟨X, Y, hXY⟩ : ∃ X Y, lastPt A = (X, Y) := ⟨_, _, rfl⟩
    rw [hXY]
    replace hXY := hide hXY
    replace hA0 := hide hA0
    go_enter Try.func31, Try.ntmps31
    go_wp2_with fail
    go_at_call 10
    refine (c1 _ S1).mono ?_
    rintro e w2 ⟨a2, G2, rfl, o2, b2⟩
    replace BR := BR.keep b2 BR.lt
    replace bel := belowCall bel b2
    have q0 : w2.cell? ⟨w.heap.size + 1, 0, none⟩ = some (.int .i64 0) := BR.cell 0
    have q1 : w2.cell? ⟨w.heap.size + 1, 1, none⟩ = some (.int .i64 0) := BR.cell 1
    have f0 := BR.free 0
    have f1 := BR.free 1
    have lR := BR.lt
    obtain ⟨a3, G3, e3, s3, _, _⟩ := SlP.ofOwn o2
    simp only [Value.slice.injEq, true_and] at e3
    obtain ⟨rfl, rfl⟩ := e3
    obtain ⟨b, off, rfl, hbw⟩ := s3.where hA0.out
    obtain ⟨x, y, p0, p1, hx, _⟩ := s3.pt m (by rw [← hn.out]; omega)
    obtain ⟨rfl, rfl⟩ : x = X ∧ y = Y := by
      have := hXY.out
      unfold lastPt at this
      rw [← hn.out, Nat.add_sub_cancel, List.getD, hx] at this
      simpa using this
    replace hx := hide hx
    have hle : m + 1 ≤ G2 := by have := s3.le; rw [← hn.out] at this; exact this
    have hmi : (0 : Int) ≤ m := by omega
    have hmi2 : (m : Int) < 40 := by omega
    clear o2 b2 s3
    go_wp2_with fail
    exact bodyPost_ret (v := .tuple #[.agg #[.int .i64 x, .int .i64 y], .bool true, .int .i64 0]) (by simp [results, Try.results31, go_sem, q0, q1]) rfl ⟨rfl, (bel.setCell (p := ⟨w.heap.size + 1, 0, none⟩) (Nat.le_succ _) _).setCell (p := ⟨w.heap.size + 1, 1, none⟩) (Nat.le_succ _) _⟩

end Go.Proofs.Ytnpikbpngohimaa

/-
  The three points that the closed facts speak of.
-/
namespace Go.Proofs.Ytnpikbpngohimaa
open Go.RowKit

def pts3 : List Pt := [(10, 5), (20, 5), (30, 7)]

theorem points_any (w : World) :
    Calls Try.prog 56 #[] w fun e w' => ∃ a', e = .returned (.slice a' 3 3) ∧ SlP w' a' 3 pts3 ∧ Below w.heap.size w w' := by
  go_enter Try.func56, Try.ntmps56
  go_wp2_with fail
  go_ret
  exact ⟨_, rfl, SlP.laid w pts3 _ rfl _ _ rfl 3 rfl (by decide), (Below.refl _ _).alloc (Nat.le_refl _) _⟩

end Go.Proofs.Ytnpikbpngohimaa

/-
  The small shelf that the closed facts speak of.
-/
namespace Go.Proofs.Ytnpikbpngohimaa
open Go.RowKit

theorem ownFull {w : World} {base size g n : Nat} {t : TypeId} {xs : List Value} (h : w.ownsRow base t size (.slice (some ⟨g, 0, none⟩) n n) n xs) : Blk w g xs t ∧ base ≤ g := by
  rcases h.2 with ⟨h', _⟩ | ⟨g', cap', cur, h', hb, hg, _, _, hs, htake⟩
  · simp at h'
  · simp only [Value.slice.injEq, Option.some.injEq, Addr.mk.injEq, and_true, true_and] at h'
    obtain ⟨rfl, rfl⟩ := h'
    have e : xs = cur.toList := by
      rw [← htake]
      apply List.take_of_length_le
      rw [Array.length_toList, hs]
      exact Nat.le_refl _
    refine ⟨?_, hb⟩
    unfold Blk
    rw [e]
    simpa using hg

set_option maxHeartbeats 400000 in
set_option maxRecDepth 100000 in
theorem refFresh_own (w : World) :
    Calls Try.prog 21 #[] w fun e w' => ∃ g, e = .returned (.agg #[.slice (some ⟨g, 0, none⟩) 4 4]) ∧ Blk w' g (fresh4.flatMap Lr.cells) 41 ∧ w.heap.size ≤ g ∧ Below w.heap.size w w' := by
  obtain ⟨i0, hi, hz0, hz1, hz2⟩ := info_parts infoR
  have B0 := Blk.laid w [.slice none 0 0] 24 _ rfl
  go_enter Try.func21, Try.ntmps21
  go_wp2_with (at_make; refine wpList_make_full _ rfl (.const (.int .i64 4)) (.const (.int .i64 4)) 22 rfl (w.heap.size + 1) 41 i0 (.agg #[.slice none 0 0, .slice none 0 0]) 2 Try.underlying22 hi hz0 hz1 _ _ _ _ 4 rfl rfl rfl rfl (by rw [hz2]; omega) (by unfold maxLen; omega) (by simp) ?_)
  intro w1 own grow
  rw [show (madeCells #[Value.slice none 0 0, Value.slice none 0 0] 8).toList = fresh4.flatMap Lr.cells by kernel_rfl] at own
  have bel : Below w.heap.size w w1 := ((Below.refl _ _).alloc (Nat.le_refl _) _).grown grow (by simp) (fun k h => by cases h)
  have B1 := B0.grown grow (fun k h => by cases h)
  have f0 := B1.free 0
  have d0 : w1.cell? ⟨w.heap.size, 0, none⟩ = some (.slice none 0 0) := B1.cell 0
  have hgl := B1.lt
  go_wp2_with fail
  have own2 := own.kept (row := some w.heap.size) (grownSet (grownRefl w1 (some w.heap.size)) 0 (.slice (some ⟨w.heap.size + 1, 0, none⟩) 4 4)) (.inr (by intro e; have : w.heap.size + 1 = w.heap.size := Option.some.inj e; omega))
  refine bodyPost_ret (v := .agg #[.slice (some ⟨w.heap.size + 1, 0, none⟩) 4 4]) (by simp [results, Try.results21, go_sem, d0]) rfl ?_
  exact ⟨_, rfl, (ownFull own2).1, Nat.le_succ _, bel.setCell (Nat.le_refl _) _⟩

theorem setOverNew {w : World} {g i : Nat} {o : Obj} {v : Value} (h : g < w.heap.size) : (w.alloc o).setCell ⟨g, i, none⟩ v = (w.setCell ⟨g, i, none⟩ v).alloc o := by
  simp [go_sem, h]

def ptsTwo : List Pt := [(10, 5), (20, 5)]
def ptsOne : List Pt := [(30, 7)]
def smallL : List Rw := [rw0, ⟨[makeB ptsTwo], ptsOne⟩, rw0, rw0]

set_option maxHeartbeats 2000000 in
set_option maxRecDepth 100000 in
theorem small_any (w : World) :
    Calls Try.prog 55 #[] w fun e w' => ∃ rs a G, e = .returned (.agg #[.slice a 4 G]) ∧ rs.map Lr.rw = smallL ∧ SlR w' a G rs ∧ Below w.heap.size w w' := by
  have c2 : ∀ a c W, SlP W a c ptsTwo → Calls Try.prog 66 #[.slice a 2 c] W fun e w' => ∃ a' G, e = .returned (.tuple #[bkV (makeB ptsTwo) a' G, .int .i64 0]) ∧ Sl w' a' G ((makeB ptsTwo).bits.map Value.bool) ∧ Below W.heap.size W w' :=
    fun a c W h => refMake_any a c ptsTwo W h
  have lM := makeB_bits ptsTwo
  obtain ⟨M, hM⟩ : ∃ M, M = makeB ptsTwo := ⟨_, rfl⟩
  rw [← hM] at c2 lM
  replace hM := hide hM
  unfold bkV at c2
  go_enter Try.func55, Try.ntmps55
  go_wp2_with fail
  have BR := Blk.laid w [.slice none 0 0] 24 _ rfl
  have bel : Below w.heap.size w (w.alloc (.cells #[.slice none 0 0] 24)) := (Below.refl _ _).alloc (Nat.le_refl _) _
  generalize w.alloc _ = w1 at *
  go_at_call 56
  refine (points_any _).mono ?_
  rintro e w2 ⟨a2, rfl, s2, b2⟩
  obtain ⟨xb, xo, rfl, _⟩ := s2.where (by decide)
  replace BR := BR.keep b2 BR.lt
  replace bel := belowCall bel b2
  clear b2
  go_wp2_with fail
  go_at_call 66
  refine (c2 _ _ _ (s2.front 2)).mono ?_
  rintro e w3 ⟨a3, G3, rfl, t3, b3⟩
  replace BR := BR.keep b3 BR.lt
  replace bel := belowCall bel b3
  clear b3 s2 c2
  go_wp2_with fail
  have H1 := Held.laid M t3
  replace BR := BR.alc (.cells #[.int .i64 M.n, .int .i64 M.fr, .int .i64 M.to, .slice a3 M.bits.length G3] 83)
  replace bel := belowNew bel (.cells #[.int .i64 M.n, .int .i64 M.fr, .int .i64 M.to, .slice a3 M.bits.length G3] 83)
  clear t3
  generalize w3.heap.size = g1 at *
  generalize w3.alloc _ = w4 at *
  go_at_call 21
  refine (refFresh_own _).mono ?_
  rintro e w5 ⟨g, rfl, BG, hg, b5⟩
  have nRg : w.heap.size ≠ g := by have := BR.lt; omega
  have hlo : w.heap.size ≤ g := by have := BR.lt; omega
  have n1g : g1 ≠ g := by have := H1.blk.lt; omega
  replace BR := BR.keep b5 BR.lt
  replace bel := belowCall bel b5
  replace H1 := H1.call b5
  clear b5 hg
  go_wp2_with fail
  have B3 := Blk.laid w5 [.slice (some ⟨g, 0, none⟩) 4 4] 24 _ rfl
  replace BR := BR.alc (.cells #[.slice (some ⟨g, 0, none⟩) 4 4] 24)
  replace bel := belowNew bel (.cells #[.slice (some ⟨g, 0, none⟩) 4 4] 24)
  replace H1 := H1.alloc (.cells #[.slice (some ⟨g, 0, none⟩) 4 4] 24)
  have n3g : w5.heap.size ≠ g := by have := BG.lt; omega
  replace BG := BG.alc (.cells #[.slice (some ⟨g, 0, none⟩) 4 4] 24)
  generalize w5.heap.size = g3 at *
  generalize w5.alloc _ = w6 at *
  have q0 : w6.cell? ⟨g3, 0, none⟩ = some (.slice (some ⟨g, 0, none⟩) 4 4) := B3.cell 0
  obtain ⟨p0, p1, p2, p3⟩ := H1.cells
  have l1 := H1.blk.lt
  have l3 := B3.lt
  have lg := BG.lt
  have fin : ∀ (W : World) (bg : Nat) (pa : Option Addr), Below w6.heap.size w6 W → Blk W bg (M.cells a3 G3) 83 → SlP W pa 1 ptsOne →
      ∃ rs : List Lr, rs.map Lr.rw = smallL ∧ SlR (((W.setCell ⟨g, 2, none⟩ (.slice (some ⟨bg, 0, none⟩) 1 1)).setCell ⟨g, 3, none⟩ (.slice pa 1 1)).setCell ⟨w.heap.size, 0, none⟩ (.slice (some ⟨g, 0, none⟩) 4 4)) (some ⟨g, 0, none⟩) 4 rs ∧
        Below w.heap.size w (((W.setCell ⟨g, 2, none⟩ (.slice (some ⟨bg, 0, none⟩) 1 1)).setCell ⟨g, 3, none⟩ (.slice pa 1 1)).setCell ⟨w.heap.size, 0, none⟩ (.slice (some ⟨g, 0, none⟩) 4 4)) := by
    intro W bg pa hW BB sp
    have F0 : FinS W w.heap.size g fresh4 := ⟨BG.keep hW lg, hlo, fun r hr => by
      simp only [fresh4, List.mem_cons, List.not_mem_nil, or_false, or_self] at hr
      subst hr
      exact lr0_good _⟩
    have gx : Lr.Good W ⟨[⟨M, a3, G3⟩], some ⟨bg, 0, none⟩, 1, ptsOne, pa, 1⟩ :=
      ⟨⟨⟨BB.row 0 _ (fun i v hv => by rw [Nat.zero_add]; exact hv), Nat.le_refl _, by show (1 : Nat) ≤ _; decide, fun e => by cases e⟩, fun x hx => by
        simp only [List.mem_singleton] at hx
        subst hx
        exact ⟨(H1.bits.keep hW (Nat.le_refl _)), by show M.bits.length ≤ _; omega⟩⟩, sp, by show (1 : Nat) ≤ _; decide, by show (1 : Nat) ≤ _; decide⟩
    have F1 := F0.put 1 (by decide) ⟨[⟨M, a3, G3⟩], some ⟨bg, 0, none⟩, 1, ptsOne, pa, 1⟩ gx
    have BR1 := ((BR.keep hW BR.lt).other 2 (.slice (some ⟨bg, 0, none⟩) 1 1) nRg.symm).other 3 (.slice pa 1 1) nRg.symm
    have F2 := F1.offSl (grownSet (grownRefl _ (some w.heap.size)) 0 (.slice (some ⟨g, 0, none⟩) 4 4)) BR1 (onlyOne _ _ _) nRg
    have b1 : Below w.heap.size w W := bel.trans (hW.mono bel.size)
    refine ⟨_, ?_, F2.slr 4 rfl (by decide), ((b1.setCell (p := ⟨g, 2, none⟩) hlo _).setCell (p := ⟨g, 3, none⟩) hlo _).setCell (p := ⟨w.heap.size, 0, none⟩) (Nat.le_refl _) _⟩
    rw [List.map_set]
    unfold smallL
    rw [← hM.out]
    rfl
  have cPt : ∀ W, Below w6.heap.size w6 W → Calls Try.prog 56 #[] W fun e w' => ∃ xb xo, e = .returned (.slice (some ⟨xb, xo, none⟩) 3 3) ∧ SlP w' (some ⟨xb, xo + 4, none⟩) 1 ptsOne ∧ Below W.heap.size W w' ∧ Below w6.heap.size w6 w' ∧ w'.cell? ⟨g3, 0, none⟩ = some (.slice (some ⟨g, 0, none⟩) 4 4) ∧ w'.cell? ⟨g1, 0, none⟩ = some (.int .i64 M.n) ∧ w'.cell? ⟨g1, 1, none⟩ = some (.int .i64 M.fr) ∧ w'.cell? ⟨g1, 2, none⟩ = some (.int .i64 M.to) ∧ w'.cell? ⟨g1, 3, none⟩ = some (.slice a3 M.bits.length G3) ∧ g < w'.heap.size ∧
      w'.cell? ⟨g, 2, none⟩ = some (.slice none 0 0) ∧ w'.cell? ⟨g, 3, none⟩ = some (.slice none 0 0) ∧ w'.frozen? ⟨g, 2, none⟩ = false ∧ w'.frozen? ⟨g, 3, none⟩ = false ∧ w'.cell? ⟨w.heap.size, 0, none⟩ = some (.slice none 0 0) ∧ w'.frozen? ⟨w.heap.size, 0, none⟩ = false ∧ w.heap.size < w'.heap.size := by
    intro W hW
    refine (points_any _).mono ?_
    rintro e w' ⟨a', rfl, s', b'⟩
    obtain ⟨xb, xo, rfl, _⟩ := s'.where (by decide)
    have bb := hW.trans (b'.mono hW.size)
    have h1 := (Held.cells ⟨H1.blk.keep bb l1, H1.bits.keep bb (Nat.le_refl _)⟩ : _)
    have G' := BG.keep bb lg
    have R' := BR.keep bb BR.lt
    have q := s'.part 2 3 (by decide) (by decide)
    exact ⟨xb, xo, rfl, q, b', bb, (B3.keep bb l3).cell 0, h1.1, h1.2.1, h1.2.2.1, h1.2.2.2, G'.lt, G'.cell 2, G'.cell 3, G'.free 2, G'.free 3, R'.cell 0, R'.free 0, R'.lt⟩
  have m1 : ¬ g = g3 := fun e => n3g e.symm
  have m2 : ¬ g = g1 := fun e => n1g e.symm
  go_region_held3 (fun w' => w'.cell? ⟨g3, 0, none⟩ = some (.slice (some ⟨g, 0, none⟩) 4 4) ∧ w'.cell? ⟨g1, 0, none⟩ = some (.int .i64 M.n) ∧ w'.cell? ⟨g1, 1, none⟩ = some (.int .i64 M.fr) ∧ w'.cell? ⟨g1, 2, none⟩ = some (.int .i64 M.to) ∧ w'.cell? ⟨g1, 3, none⟩ = some (.slice a3 M.bits.length G3))
    (go_keep)
    (first | (go_at_call 56; refine (cPt _ ?_).mono ?_; (first | exact belowDrew (Below.refl _ _) | exact belowDrew (belowNew (Below.refl _ _) _)); rintro e w7 ⟨xb, xo, rfl, s7, b7, bb7, z0, z1, z2, z3, z4, z5, z6, z7, z8, z9, y0, y1, y2⟩))
  all_goals (
    go_wp2_with fail
    first
      | (obtain ⟨rs, E1, E2, E3⟩ := fin _ _ _ bb7 ((Blk.laid w6.drew (M.cells a3 G3) 83 w6.heap.size rfl).keep b7 (by simp)) s7
         exact bodyPost_ret (v := .agg #[.slice (some ⟨g, 0, none⟩) 4 4]) (by simp [results, Try.results55, go_sem, y0]) rfl ⟨rs, _, _, rfl, E1, E2, E3⟩)
      | (obtain ⟨rs, E1, E2, E3⟩ := fin _ _ _ (belowNew bb7 (.cells #[.int .i64 M.n, .int .i64 M.fr, .int .i64 M.to, .slice a3 M.bits.length G3] 83)) (Blk.laid w7 (M.cells a3 G3) 83 _ rfl) (s7.alloc _)
         rw [setOverNew z5, setOverNew (by simpa using z5), setOverNew (by simpa using y2)] at E2 E3
         exact bodyPost_ret (v := .agg #[.slice (some ⟨g, 0, none⟩) 4 4]) (by simp [results, Try.results55, go_sem, y0, y2]) rfl ⟨rs, _, _, rfl, E1, E2, E3⟩))

end Go.Proofs.Ytnpikbpngohimaa
