/-
  rainbookref.BlockOf: what it answers, whatever it is handed; nothing that was there is written.
-/
import Derived.Deep.RegionHeld3
import Derived.Test.YtgncadehaificaaP05
import Derived.Test.YtgncadehaificaaHRefUnpack
import Derived.Test.YtgncadehaificaaP01
import Derived.Test.YtgncadehaificaaP07
import Derived.Test.YtgncadehaificaaP09
import Derived.Test.YtgncadehaificaaP20
namespace Go.Proofs.Ytgncadehaificaa
open Go.RowKit

set_option maxHeartbeats 400000 in
set_option maxRecDepth 100000 in
theorem refMake_ok (ao : Option Addr) (cap : Nat) (l : List Pt) (w : World) (hr : SlP w ao cap l) (h : checkE l = 0) (hl : 0 < l.length) :
    Calls Try.prog 66 #[.slice ao l.length cap] w fun e w' =>
      ∃ a' G, e = .returned (.tuple #[.agg #[.int .i64 l.length, .int .i64 (firstT l), .int .i64 (endT l), .slice a' (packL l).length G], .int .i64 0]) ∧ Sl w' a' G ((packL l).map Value.bool) ∧ Below w.heap.size w w' := by
  have c1 := fun W h => refPack_any ao cap l W h
  rw [h] at c1
  have h40 := (checkE_zero h).1
  obtain ⟨b, off, rfl, hb⟩ := hr.where (by intro e; rw [e] at hl; simp at hl)
  have s0 := fun W (h : SlP W (some ⟨b, off, none⟩) cap l) => h.first hl
  have s1 := fun W (h : SlP W (some ⟨b, off, none⟩) cap l) => h.last hl
  generalize packL l = P at *
  generalize firstT l = X at *
  generalize endT l = Y at *
  obtain ⟨n, hn⟩ : ∃ n, n + 1 = l.length := ⟨l.length - 1, by omega⟩
  rw [← hn] at c1 s1 h40 ⊢
  clear hn hl h
  go_enter Try.func66, Try.ntmps66
  go_wp2_with fail
  go_at_call 90
  refine (c1 _ (hr.alloc _)).mono ?_
  rintro e w1 ⟨a1, G1, rfl, t1, b1⟩
  have B0 := (Blk.laid w [.int .i64 0, .int .i64 0, .int .i64 0, .slice none 0 0] 83 _ rfl).keep b1 (by simp)
  have bel := belowCall ((Below.refl _ _).alloc (Nat.le_refl _) _) b1
  have hr1 := (hr.alloc _).call b1
  have e0 := s0 _ hr1
  have e1 := s1 _ hr1
  clear c1 s0 s1 b1
  simp only [Nat.add_sub_cancel] at e1
  have f0 := B0.free 0
  have f1 := B0.free 1
  have f2 := B0.free 2
  have f3 := B0.free 3
  have d0 : w1.cell? ⟨w.heap.size, 0, none⟩ = some (.int .i64 0) := B0.cell 0
  have d1 : w1.cell? ⟨w.heap.size, 1, none⟩ = some (.int .i64 0) := B0.cell 1
  have d2 : w1.cell? ⟨w.heap.size, 2, none⟩ = some (.int .i64 0) := B0.cell 2
  have d3 : w1.cell? ⟨w.heap.size, 3, none⟩ = some (.slice none 0 0) := B0.cell 3
  have hgl := B0.lt
  go_wp2_with fail
  go_region
  go_wp2_with fail
  have B4 := (B0.put4 (.int .i64 ((n : Int) + 1)) (.int .i64 X) (.int .i64 Y) (.slice a1 P.length G1)).drewS
  have bel4 := belowDrew (below4 bel (g := w.heap.size) (Nat.le_refl _) (.int .i64 ((n : Int) + 1)) (.int .i64 X) (.int .i64 Y) (.slice a1 P.length G1))
  have t4 := (t1.put4 B0 (.int .i64 ((n : Int) + 1)) (.int .i64 X) (.int .i64 Y) (.slice a1 P.length G1)).drewS
  generalize (World.setCell _ _ _).drew = w5 at *
  have i0 : w5.cell? ⟨w.heap.size, 0, none⟩ = some (.int .i64 ((n : Int) + 1)) := B4.cell 0
  have i1 : w5.cell? ⟨w.heap.size, 1, none⟩ = some (.int .i64 X) := B4.cell 1
  have i2 : w5.cell? ⟨w.heap.size, 2, none⟩ = some (.int .i64 Y) := B4.cell 2
  have i3 : w5.cell? ⟨w.heap.size, 3, none⟩ = some (.slice a1 P.length G1) := B4.cell 3
  exact bodyPost_ret (v := .tuple #[.agg #[.int .i64 ((n : Int) + 1), .int .i64 X, .int .i64 Y, .slice a1 P.length G1], .int .i64 0]) (by simp [results, Try.results66, go_sem, i0, i1, i2, i3]) rfl ⟨a1, G1, by simp, t4, bel4⟩

set_option maxHeartbeats 400000 in
set_option maxRecDepth 100000 in
theorem refMake_no (ao : Option Addr) (cap : Nat) (l : List Pt) (w : World) (hr : SlP w ao cap l) (h : ¬ makeE l = 0) :
    Calls Try.prog 66 #[.slice ao l.length cap] w fun e w' =>
      e = .returned (.tuple #[.agg #[.int .i64 0, .int .i64 0, .int .i64 0, .slice none 0 0], .int .i64 (makeE l)]) ∧ Below w.heap.size w w' := by
  have c1 := fun W h => refPack_any ao cap l W h
  unfold makeE at h ⊢
  by_cases h0 : checkE l = 0
  · rw [h0] at c1
    rw [if_pos h0] at h ⊢
    by_cases h1 : l.length = 0
    · rw [if_pos h1, h1]
      rw [h1] at c1
      generalize packL l = P at *
      clear h h0 h1
      go_enter Try.func66, Try.ntmps66
      go_wp2_with fail
      go_at_call 90
      refine (c1 _ (hr.alloc _)).mono ?_
      rintro e w1 ⟨a1, G1, rfl, t1, b1⟩
      have B0 := (Blk.laid w [.int .i64 0, .int .i64 0, .int .i64 0, .slice none 0 0] 83 _ rfl).keep b1 (by simp)
      have bel := belowCall ((Below.refl _ _).alloc (Nat.le_refl _) _) b1
      clear c1 b1
      have f0 := B0.free 0
      have f1 := B0.free 1
      have f2 := B0.free 2
      have f3 := B0.free 3
      have d0 : w1.cell? ⟨w.heap.size, 0, none⟩ = some (.int .i64 0) := B0.cell 0
      have d1 : w1.cell? ⟨w.heap.size, 1, none⟩ = some (.int .i64 0) := B0.cell 1
      have d2 : w1.cell? ⟨w.heap.size, 2, none⟩ = some (.int .i64 0) := B0.cell 2
      have d3 : w1.cell? ⟨w.heap.size, 3, none⟩ = some (.slice none 0 0) := B0.cell 3
      have hgl := B0.lt
      go_wp2_with fail
      have B4 := B0.put4 (.int .i64 0) (.int .i64 0) (.int .i64 0) (.slice none 0 0)
      have bel4 := below4 bel (g := w.heap.size) (Nat.le_refl _) (.int .i64 0) (.int .i64 0) (.int .i64 0) (.slice none 0 0)
      generalize World.setCell _ _ _ = w5 at *
      have i0 : w5.cell? ⟨w.heap.size, 0, none⟩ = some (.int .i64 0) := B4.cell 0
      have i1 : w5.cell? ⟨w.heap.size, 1, none⟩ = some (.int .i64 0) := B4.cell 1
      have i2 : w5.cell? ⟨w.heap.size, 2, none⟩ = some (.int .i64 0) := B4.cell 2
      have i3 : w5.cell? ⟨w.heap.size, 3, none⟩ = some (.slice none 0 0) := B4.cell 3
      exact bodyPost_ret (v := .tuple #[.agg #[.int .i64 0, .int .i64 0, .int .i64 0, .slice none 0 0], .int .i64 4]) (by simp [results, Try.results66, go_sem, i0, i1, i2, i3]) rfl ⟨rfl, bel4⟩
    · rw [if_neg h1] at h
      exact absurd rfl h
  · rw [if_neg h0]
    generalize packL l = P at *
    generalize checkE l = E at *
    generalize l.length = n at *
    clear h
    go_enter Try.func66, Try.ntmps66
    go_wp2_with fail
    go_at_call 90
    refine (c1 _ (hr.alloc _)).mono ?_
    rintro e w1 ⟨a1, G1, rfl, t1, b1⟩
    have B0 := (Blk.laid w [.int .i64 0, .int .i64 0, .int .i64 0, .slice none 0 0] 83 _ rfl).keep b1 (by simp)
    have bel := belowCall ((Below.refl _ _).alloc (Nat.le_refl _) _) b1
    clear c1 b1
    have f0 := B0.free 0
    have f1 := B0.free 1
    have f2 := B0.free 2
    have f3 := B0.free 3
    have d0 : w1.cell? ⟨w.heap.size, 0, none⟩ = some (.int .i64 0) := B0.cell 0
    have d1 : w1.cell? ⟨w.heap.size, 1, none⟩ = some (.int .i64 0) := B0.cell 1
    have d2 : w1.cell? ⟨w.heap.size, 2, none⟩ = some (.int .i64 0) := B0.cell 2
    have d3 : w1.cell? ⟨w.heap.size, 3, none⟩ = some (.slice none 0 0) := B0.cell 3
    have hgl := B0.lt
    go_wp2_with fail
    have B4 := B0.put4 (.int .i64 0) (.int .i64 0) (.int .i64 0) (.slice none 0 0)
    have bel4 := below4 bel (g := w.heap.size) (Nat.le_refl _) (.int .i64 0) (.int .i64 0) (.int .i64 0) (.slice none 0 0)
    generalize World.setCell _ _ _ = w5 at *
    have i0 : w5.cell? ⟨w.heap.size, 0, none⟩ = some (.int .i64 0) := B4.cell 0
    have i1 : w5.cell? ⟨w.heap.size, 1, none⟩ = some (.int .i64 0) := B4.cell 1
    have i2 : w5.cell? ⟨w.heap.size, 2, none⟩ = some (.int .i64 0) := B4.cell 2
    have i3 : w5.cell? ⟨w.heap.size, 3, none⟩ = some (.slice none 0 0) := B4.cell 3
    exact bodyPost_ret (v := .tuple #[.agg #[.int .i64 0, .int .i64 0, .int .i64 0, .slice none 0 0], .int .i64 E]) (by simp [results, Try.results66, go_sem, i0, i1, i2, i3]) rfl ⟨rfl, bel4⟩

/-- BlockOf, whatever it is handed. -/
theorem refMake_any (ao : Option Addr) (cap : Nat) (l : List Pt) (w : World) (hr : SlP w ao cap l) :
    Calls Try.prog 66 #[.slice ao l.length cap] w fun e w' =>
      ∃ a' G, e = .returned (.tuple #[bkV (makeB l) a' G, .int .i64 (makeE l)]) ∧ Sl w' a' G ((makeB l).bits.map Value.bool) ∧ Below w.heap.size w w' := by
  by_cases h : makeE l = 0
  · have hc : checkE l = 0 ∧ 0 < l.length := by
      unfold makeE at h
      by_cases h0 : checkE l = 0
      · rw [if_pos h0] at h
        refine ⟨h0, ?_⟩
        by_cases h1 : l.length = 0
        · rw [if_pos h1] at h; cases h
        · omega
      · rw [if_neg h0] at h
        exact absurd h h0
    rw [makeB_eq hc.1 hc.2, h]
    exact refMake_ok ao cap l w hr hc.1 hc.2
  · have e : makeB l = bk0 := if_neg h
    rw [e]
    refine (refMake_no ao cap l w hr h).mono ?_
    rintro e w' ⟨rfl, b⟩
    exact ⟨none, 0, rfl, Sl.ofNil _, b⟩

end Go.Proofs.Ytgncadehaificaa

/-
  The three points that the closed facts speak of.
-/
namespace Go.Proofs.Ytgncadehaificaa
open Go.RowKit

def pts3 : List Pt := [(10, 5), (20, 5), (30, 7)]

theorem points_any (w : World) :
    Calls Try.prog 56 #[] w fun e w' => ∃ a', e = .returned (.slice a' 3 3) ∧ SlP w' a' 3 pts3 ∧ Below w.heap.size w w' := by
  go_enter Try.func56, Try.ntmps56
  go_wp2_with fail
  go_ret
  exact ⟨_, rfl, SlP.laid w pts3 _ rfl _ _ rfl 3 rfl (by decide), (Below.refl _ _).alloc (Nat.le_refl _) _⟩

end Go.Proofs.Ytgncadehaificaa

/-
  The small shelf that the closed facts speak of.
-/
namespace Go.Proofs.Ytgncadehaificaa
open Go.RowKit

theorem ownFull {w : World} {base size g n : Nat} {t : TypeId} {xs : List Value} (h : w.ownsRow base t size (.slice (some ⟨g, 0, none⟩) n n) n xs) : Blk w g xs t ∧ base ≤ g := by
  rcases h.2 with ⟨h', _⟩ | ⟨g', cap', cur, h', hb, hg, _, _, hs, htake⟩
  · simp at h'
  · simp only [Value.slice.injEq, Option.some.injEq, Addr.mk.injEq, and_true, true_and] at h'
    obtain ⟨rfl, rfl⟩ := h'
    have e : xs = cur.toList := by
      rw [← htake]
      apply List.take_of_length_le
      rw [Array.length_toList, hs]
      exact Nat.le_refl _
    refine ⟨?_, hb⟩
    unfold Blk
    rw [e]
    simpa using hg

set_option maxHeartbeats 400000 in
set_option maxRecDepth 100000 in
theorem refFresh_own (w : World) :
    Calls Try.prog 21 #[] w fun e w' => ∃ g, e = .returned (.agg #[.slice (some ⟨g, 0, none⟩) 4 4]) ∧ Blk w' g (fresh4.flatMap Lr.cells) 41 ∧ w.heap.size ≤ g ∧ Below w.heap.size w w' := by
  obtain ⟨i0, hi, hz0, hz1, hz2⟩ := info_parts infoR
  have B0 := Blk.laid w [.slice none 0 0] 24 _ rfl
  go_enter Try.func21, Try.ntmps21
  go_wp2_with (at_make; refine wpList_make_full _ rfl (.const (.int .i64 4)) (.const (.int .i64 4)) 22 rfl (w.heap.size + 1) 41 i0 (.agg #[.slice none 0 0, .slice none 0 0]) 2 Try.underlying22 hi hz0 hz1 _ _ _ _ 4 rfl rfl rfl rfl (by rw [hz2]; omega) (by unfold maxLen; omega) (by simp) ?_)
  intro w1 own grow
  rw [show (madeCells #[Value.slice none 0 0, Value.slice none 0 0] 8).toList = fresh4.flatMap Lr.cells by kernel_rfl] at own
  have bel : Below w.heap.size w w1 := ((Below.refl _ _).alloc (Nat.le_refl _) _).grown grow (by simp) (fun k h => by cases h)
  have B1 := B0.grown grow (fun k h => by cases h)
  have f0 := B1.free 0
  have d0 : w1.cell? ⟨w.heap.size, 0, none⟩ = some (.slice none 0 0) := B1.cell 0
  have hgl := B1.lt
  go_wp2_with fail
  have own2 := own.kept (row := some w.heap.size) (grownSet (grownRefl w1 (some w.heap.size)) 0 (.slice (some ⟨w.heap.size + 1, 0, none⟩) 4 4)) (.inr (by intro e; have : w.heap.size + 1 = w.heap.size := Option.some.inj e; omega))
  refine bodyPost_ret (v := .agg #[.slice (some ⟨w.heap.size + 1, 0, none⟩) 4 4]) (by simp [results, Try.results21, go_sem, d0]) rfl ?_
  exact ⟨_, rfl, (ownFull own2).1, Nat.le_succ _, bel.setCell (Nat.le_refl _) _⟩

theorem setOverNew {w : World} {g i : Nat} {o : Obj} {v : Value} (h : g < w.heap.size) : (w.alloc o).setCell ⟨g, i, none⟩ v = (w.setCell ⟨g, i, none⟩ v).alloc o := by
  simp [go_sem, h]

def ptsTwo : List Pt := [(10, 5), (20, 5)]
def ptsOne : List Pt := [(30, 7)]
def smallL : List Rw := [rw0, ⟨[makeB ptsTwo], ptsOne⟩, rw0, rw0]

set_option maxHeartbeats 2000000 in
set_option maxRecDepth 100000 in
theorem small_any (w : World) :
    Calls Try.prog 55 #[] w fun e w' => ∃ rs a G, e = .returned (.agg #[.slice a 4 G]) ∧ rs.map Lr.rw = smallL ∧ SlR w' a G rs ∧ Below w.heap.size w w' := by
  have c2 : ∀ a c W, SlP W a c ptsTwo → Calls Try.prog 66 #[.slice a 2 c] W fun e w' => ∃ a' G, e = .returned (.tuple #[bkV (makeB ptsTwo) a' G, .int .i64 0]) ∧ Sl w' a' G ((makeB ptsTwo).bits.map Value.bool) ∧ Below W.heap.size W w' :=
    fun a c W h => refMake_any a c ptsTwo W h
  have lM := makeB_bits ptsTwo
  obtain ⟨M, hM⟩ : ∃ M, M = makeB ptsTwo := ⟨_, rfl⟩
  rw [← hM] at c2 lM
  replace hM := hide hM
  unfold bkV at c2
  go_enter Try.func55, Try.ntmps55
  go_wp2_with fail
  have BR := Blk.laid w [.slice none 0 0] 24 _ rfl
  have bel : Below w.heap.size w (w.alloc (.cells #[.slice none 0 0] 24)) := (Below.refl _ _).alloc (Nat.le_refl _) _
  generalize w.alloc _ = w1 at *
  go_at_call 56
  refine (points_any _).mono ?_
  rintro e w2 ⟨a2, rfl, s2, b2⟩
  obtain ⟨xb, xo, rfl, _⟩ := s2.where (by decide)
  replace BR := BR.keep b2 BR.lt
  replace bel := belowCall bel b2
  clear b2
  go_wp2_with fail
  go_at_call 66
  refine (c2 _ _ _ (s2.front 2)).mono ?_
  rintro e w3 ⟨a3, G3, rfl, t3, b3⟩
  replace BR := BR.keep b3 BR.lt
  replace bel := belowCall bel b3
  clear b3 s2 c2
  go_wp2_with fail
  have H1 := Held.laid M t3
  replace BR := BR.alc (.cells #[.int .i64 M.n, .int .i64 M.fr, .int .i64 M.to, .slice a3 M.bits.length G3] 83)
  replace bel := belowNew bel (.cells #[.int .i64 M.n, .int .i64 M.fr, .int .i64 M.to, .slice a3 M.bits.length G3] 83)
  clear t3
  generalize w3.heap.size = g1 at *
  generalize w3.alloc _ = w4 at *
  go_at_call 21
  refine (refFresh_own _).mono ?_
  rintro e w5 ⟨g, rfl, BG, hg, b5⟩
  have nRg : w.heap.size ≠ g := by have := BR.lt; omega
  have hlo : w.heap.size ≤ g := by have := BR.lt; omega
  have n1g : g1 ≠ g := by have := H1.blk.lt; omega
  replace BR := BR.keep b5 BR.lt
  replace bel := belowCall bel b5
  replace H1 := H1.call b5
  clear b5 hg
  go_wp2_with fail
  have B3 := Blk.laid w5 [.slice (some ⟨g, 0, none⟩) 4 4] 24 _ rfl
  replace BR := BR.alc (.cells #[.slice (some ⟨g, 0, none⟩) 4 4] 24)
  replace bel := belowNew bel (.cells #[.slice (some ⟨g, 0, none⟩) 4 4] 24)
  replace H1 := H1.alloc (.cells #[.slice (some ⟨g, 0, none⟩) 4 4] 24)
  have n3g : w5.heap.size ≠ g := by have := BG.lt; omega
  replace BG := BG.alc (.cells #[.slice (some ⟨g, 0, none⟩) 4 4] 24)
  generalize w5.heap.size = g3 at *
  generalize w5.alloc _ = w6 at *
  have q0 : w6.cell? ⟨g3, 0, none⟩ = some (.slice (some ⟨g, 0, none⟩) 4 4) := B3.cell 0
  obtain ⟨p0, p1, p2, p3⟩ := H1.cells
  have l1 := H1.blk.lt
  have l3 := B3.lt
  have lg := BG.lt
  have fin : ∀ (W : World) (bg : Nat) (pa : Option Addr), Below w6.heap.size w6 W → Blk W bg (M.cells a3 G3) 83 → SlP W pa 1 ptsOne →
      ∃ rs : List Lr, rs.map Lr.rw = smallL ∧ SlR (((W.setCell ⟨g, 2, none⟩ (.slice (some ⟨bg, 0, none⟩) 1 1)).setCell ⟨g, 3, none⟩ (.slice pa 1 1)).setCell ⟨w.heap.size, 0, none⟩ (.slice (some ⟨g, 0, none⟩) 4 4)) (some ⟨g, 0, none⟩) 4 rs ∧
        Below w.heap.size w (((W.setCell ⟨g, 2, none⟩ (.slice (some ⟨bg, 0, none⟩) 1 1)).setCell ⟨g, 3, none⟩ (.slice pa 1 1)).setCell ⟨w.heap.size, 0, none⟩ (.slice (some ⟨g, 0, none⟩) 4 4)) := by
    intro W bg pa hW BB sp
    have F0 : FinS W w.heap.size g fresh4 := ⟨BG.keep hW lg, hlo, fun r hr => by
      simp only [fresh4, List.mem_cons, List.not_mem_nil, or_false, or_self] at hr
      subst hr
      exact lr0_good _⟩
    have gx : Lr.Good W ⟨[⟨M, a3, G3⟩], some ⟨bg, 0, none⟩, 1, ptsOne, pa, 1⟩ :=
      ⟨⟨⟨BB.row 0 _ (fun i v hv => by rw [Nat.zero_add]; exact hv), Nat.le_refl _, by show (1 : Nat) ≤ _; decide, fun e => by cases e⟩, fun x hx => by
        simp only [List.mem_singleton] at hx
        subst hx
        exact ⟨(H1.bits.keep hW (Nat.le_refl _)), by show M.bits.length ≤ _; omega⟩⟩, sp, by show (1 : Nat) ≤ _; decide, by show (1 : Nat) ≤ _; decide⟩
    have F1 := F0.put 1 (by decide) ⟨[⟨M, a3, G3⟩], some ⟨bg, 0, none⟩, 1, ptsOne, pa, 1⟩ gx
    have BR1 := ((BR.keep hW BR.lt).other 2 (.slice (some ⟨bg, 0, none⟩) 1 1) nRg.symm).other 3 (.slice pa 1 1) nRg.symm
    have F2 := F1.offSl (grownSet (grownRefl _ (some w.heap.size)) 0 (.slice (some ⟨g, 0, none⟩) 4 4)) BR1 (onlyOne _ _ _) nRg
    have b1 : Below w.heap.size w W := bel.trans (hW.mono bel.size)
    refine ⟨_, ?_, F2.slr 4 rfl (by decide), ((b1.setCell (p := ⟨g, 2, none⟩) hlo _).setCell (p := ⟨g, 3, none⟩) hlo _).setCell (p := ⟨w.heap.size, 0, none⟩) (Nat.le_refl _) _⟩
    rw [List.map_set]
    unfold smallL
    rw [← hM.out]
    rfl
  have cPt : ∀ W, Below w6.heap.size w6 W → Calls Try.prog 56 #[] W fun e w' => ∃ xb xo, e = .returned (.slice (some ⟨xb, xo, none⟩) 3 3) ∧ SlP w' (some ⟨xb, xo + 4, none⟩) 1 ptsOne ∧ Below W.heap.size W w' ∧ Below w6.heap.size w6 w' ∧ w'.cell? ⟨g3, 0, none⟩ = some (.slice (some ⟨g, 0, none⟩) 4 4) ∧ w'.cell? ⟨g1, 0, none⟩ = some (.int .i64 M.n) ∧ w'.cell? ⟨g1, 1, none⟩ = some (.int .i64 M.fr) ∧ w'.cell? ⟨g1, 2, none⟩ = some (.int .i64 M.to) ∧ w'.cell? ⟨g1, 3, none⟩ = some (.slice a3 M.bits.length G3) ∧ g < w'.heap.size ∧
      w'.cell? ⟨g, 2, none⟩ = some (.slice none 0 0) ∧ w'.cell? ⟨g, 3, none⟩ = some (.slice none 0 0) ∧ w'.frozen? ⟨g, 2, none⟩ = false ∧ w'.frozen? ⟨g, 3, none⟩ = false ∧ w'.cell? ⟨w.heap.size, 0, none⟩ = some (.slice none 0 0) ∧ w'.frozen? ⟨w.heap.size, 0, none⟩ = false ∧ w.heap.size < w'.heap.size := by
    intro W hW
    refine (points_any _).mono ?_
    rintro e w' ⟨a', rfl, s', b'⟩
    obtain ⟨xb, xo, rfl, _⟩ := s'.where (by decide)
    have bb := hW.trans (b'.mono hW.size)
    have h1 := (Held.cells ⟨H1.blk.keep bb l1, H1.bits.keep bb (Nat.le_refl _)⟩ : _)
    have G' := BG.keep bb lg
    have R' := BR.keep bb BR.lt
    have q := s'.part 2 3 (by decide) (by decide)
    exact ⟨xb, xo, rfl, q, b', bb, (B3.keep bb l3).cell 0, h1.1, h1.2.1, h1.2.2.1, h1.2.2.2, G'.lt, G'.cell 2, G'.cell 3, G'.free 2, G'.free 3, R'.cell 0, R'.free 0, R'.lt⟩
  have m1 : ¬ g = g3 := fun e => n3g e.symm
  have m2 : ¬ g = g1 := fun e => n1g e.symm
  go_region_held3 (fun w' => w'.cell? ⟨g3, 0, none⟩ = some (.slice (some ⟨g, 0, none⟩) 4 4) ∧ w'.cell? ⟨g1, 0, none⟩ = some (.int .i64 M.n) ∧ w'.cell? ⟨g1, 1, none⟩ = some (.int .i64 M.fr) ∧ w'.cell? ⟨g1, 2, none⟩ = some (.int .i64 M.to) ∧ w'.cell? ⟨g1, 3, none⟩ = some (.slice a3 M.bits.length G3))
    (go_keep)
    (first | (go_at_call 56; refine (cPt _ ?_).mono ?_; (first | exact belowDrew (Below.refl _ _) | exact belowDrew (belowNew (Below.refl _ _) _)); rintro e w7 ⟨xb, xo, rfl, s7, b7, bb7, z0, z1, z2, z3, z4, z5, z6, z7, z8, z9, y0, y1, y2⟩))
  all_goals (
    go_wp2_with fail
    first
      | (obtain ⟨rs, E1, E2, E3⟩ := fin _ _ _ bb7 ((Blk.laid w6.drew (M.cells a3 G3) 83 w6.heap.size rfl).keep b7 (by simp)) s7
         exact bodyPost_ret (v := .agg #[.slice (some ⟨g, 0, none⟩) 4 4]) (by simp [results, Try.results55, go_sem, y0]) rfl ⟨rs, _, _, rfl, E1, E2, E3⟩)
      | (obtain ⟨rs, E1, E2, E3⟩ := fin _ _ _ (belowNew bb7 (.cells #[.int .i64 M.n, .int .i64 M.fr, .int .i64 M.to, .slice a3 M.bits.length G3] 83)) (Blk.laid w7 (M.cells a3 G3) 83 _ rfl) (s7.alloc _)
         rw [setOverNew z5, setOverNew (by simpa using z5), setOverNew (by simpa using y2)] at E2 E3
         exact bodyPost_ret (v := .agg #[.slice (some ⟨g, 0, none⟩) 4 4]) (by simp [results, Try.results55, go_sem, y0, y2]) rfl ⟨rs, _, _, rfl, E1, E2, E3⟩))

end Go.Proofs.Ytgncadehaificaa

/-
  The closed fact of chapter 6: what package shelf answers there.
-/
namespace Go.Proofs.Ytgncadehaificaa
open Go.RowKit

def ent3 : List En := [⟨1, 10, 5⟩, ⟨1, 20, 5⟩, ⟨1, 30, 7⟩]
def ent2 : List En := [⟨0, 1, 0⟩, ⟨1, 30, 0⟩]
def shA : List Rw := [rw0, ⟨[], pts3⟩, rw0, rw0]
def shB : List Rw := sealL shA 1 2
def shC : List Rw := sealL shB 1 1
def shD : List Rw := mrgL shC 1 0
def shE : List Rw := dropL shC 30

structure KSh (w : World) (g1 g6 g8 : Nat) (a1 a6 a8 al : Option Addr) (G1 G6 G8 Gl tb tf ub uf : Nat) (tv uv : Value) (W : World) : Prop where
  b1 : Blk W g1 [.slice a1 4 G1] 24
  b6 : Blk W g6 [.slice a6 4 G6] 24
  b8 : Blk W g8 [.slice a8 4 G8] 24
  s1 : IsS W a1 G1 shB
  s8 : IsS W a8 G8 shD
  sl : SlP W al Gl ptsOne
  tl : tb < W.heap.size
  ul : ub < W.heap.size
  tc : W.cell? ⟨tb, tf + 2, none⟩ = some tv
  uc : W.cell? ⟨ub, uf + 2, none⟩ = some uv
  bel : Below w.heap.size w W

theorem KSh.call {w : World} {g1 g6 g8 : Nat} {a1 a6 a8 al : Option Addr} {G1 G6 G8 Gl tb tf ub uf : Nat} {tv uv : Value} {W w' : World} (h : KSh w g1 g6 g8 a1 a6 a8 al G1 G6 G8 Gl tb tf ub uf tv uv W) (hb : Below W.heap.size W w') : KSh w g1 g6 g8 a1 a6 a8 al G1 G6 G8 Gl tb tf ub uf tv uv w' :=
  ⟨h.b1.keep hb h.b1.lt, h.b6.keep hb h.b6.lt, h.b8.keep hb h.b8.lt, h.s1.call hb, h.s8.call hb, h.sl.call hb, Nat.lt_of_lt_of_le h.tl hb.size, Nat.lt_of_lt_of_le h.ul hb.size, (hb.cell (p := ⟨tb, tf + 2, none⟩) h.tl).trans h.tc, (hb.cell (p := ⟨ub, uf + 2, none⟩) h.ul).trans h.uc, belowCall h.bel hb⟩

theorem KSh.cells {w : World} {g1 g6 g8 : Nat} {a1 a6 a8 al : Option Addr} {G1 G6 G8 Gl tb tf ub uf : Nat} {tv uv : Value} {W : World} (h : KSh w g1 g6 g8 a1 a6 a8 al G1 G6 G8 Gl tb tf ub uf tv uv W) :
    W.cell? ⟨g1, 0, none⟩ = some (.slice a1 4 G1) ∧ W.cell? ⟨g6, 0, none⟩ = some (.slice a6 4 G6) ∧ W.cell? ⟨g8, 0, none⟩ = some (.slice a8 4 G8) ∧ W.cell? ⟨tb, tf + 2, none⟩ = some tv ∧ W.cell? ⟨ub, uf + 2, none⟩ = some uv ∧ KSh w g1 g6 g8 a1 a6 a8 al G1 G6 G8 Gl tb tf ub uf tv uv W :=
  ⟨h.b1.cell 0, h.b6.cell 0, h.b8.cell 0, h.tc, h.uc, h⟩

theorem entLaid (w : World) (L : List En) (cs : Array Value) (hc : cs.toList = L.flatMap En.cells) (t : TypeId) (n : Nat) (hn : n = w.heap.size) (cap : Nat) (hl : L.length = cap) (hm : cap ≤ 9223372036854775807) : SlW En.cells (w.alloc (.cells cs t)) (some ⟨n, 0, none⟩) cap L := by
  have h := Row.laid w cs.toList t n hn
  rw [Array.toArray_toList, hc] at h
  exact ⟨h, by omega, hm, fun e => by cases e⟩

set_option maxRecDepth 100000 in
theorem shl_k1 : ∀ a G la W, IsS W a G freshL → SlW En.cells W la 3 ent3 → Calls Try.prog 11 #[.agg #[.slice a 4 G], .slice la 3 3] W fun e w' => ∃ a' G', e = .returned (.tuple #[.agg #[.slice a' 4 G'], .int .i64 0]) ∧ IsS w' a' G' shA ∧ Below W.heap.size W w' := by
  intro a G la W h t
  have c := put_is ent3 la 3 h t (by decide)
  rw [show chE freshL (bputE freshL ent3) = 0 by decide +kernel, show chL freshL (bputE freshL ent3) (bputL freshL ent3) = shA by kernel_rfl] at c
  exact c

set_option maxRecDepth 100000 in
theorem shl_k2 : ∀ a G la W, IsS W a G shA → SlW En.cells W la 2 ent2 → Calls Try.prog 11 #[.agg #[.slice a 4 G], .slice la 2 2] W fun e w' => ∃ a' G', e = .returned (.tuple #[.agg #[.slice a' 0 G'], .int .i64 7]) ∧ IsS w' a' G' [] ∧ Below W.heap.size W w' := by
  intro a G la W h t
  have c := put_is ent2 la 2 h t (by decide)
  rw [show chE shA (bputE shA ent2) = 7 by decide +kernel, show chL shA (bputE shA ent2) (bputL shA ent2) = [] by kernel_rfl] at c
  exact c

set_option maxRecDepth 100000 in
theorem shl_k3 : ∀ a G W, IsS W a G shA → Calls Try.prog 12 #[.agg #[.slice a 4 G], .int .i64 1, .int .i64 2] W fun e w' => ∃ a' G', e = .returned (.tuple #[.agg #[.slice a' 4 G'], .int .i64 0]) ∧ IsS w' a' G' shB ∧ Below W.heap.size W w' := by
  intro a G W h
  have c := seal_is 1 2 h
  rw [show chE shA (sealE shA 1 2) = 0 by decide +kernel, show chL shA (sealE shA 1 2) (sealL shA 1 2) = shB by kernel_rfl] at c
  exact c

set_option maxRecDepth 100000 in
theorem shl_k4 : ∀ a G W, IsS W a G shB → Calls Try.prog 12 #[.agg #[.slice a 4 G], .int .i64 1, .int .i64 1] W fun e w' => ∃ a' G', e = .returned (.tuple #[.agg #[.slice a' 4 G'], .int .i64 0]) ∧ IsS w' a' G' shC ∧ Below W.heap.size W w' := by
  intro a G W h
  have c := seal_is 1 1 h
  rw [show chE shB (sealE shB 1 1) = 0 by decide +kernel, show chL shB (sealE shB 1 1) (sealL shB 1 1) = shC by kernel_rfl] at c
  exact c

set_option maxRecDepth 100000 in
theorem shl_k5 : ∀ a G W, IsS W a G shC → Calls Try.prog 13 #[.agg #[.slice a 4 G], .int .i64 1, .int .i64 0] W fun e w' => ∃ a' G', e = .returned (.tuple #[.agg #[.slice a' 4 G'], .int .i64 0]) ∧ IsS w' a' G' shD ∧ Below W.heap.size W w' := by
  intro a G W h
  have c := merge_is 1 0 h
  rw [show chE shC (mrgE shC 1 0) = 0 by decide +kernel, show chL shC (mrgE shC 1 0) (mrgL shC 1 0) = shD by kernel_rfl] at c
  exact c

set_option maxRecDepth 100000 in
theorem shl_k6 : ∀ a G W, IsS W a G shC → Calls Try.prog 14 #[.agg #[.slice a 4 G], .int .i64 30] W fun e w' => ∃ a' G', e = .returned (.tuple #[.agg #[.slice a' 4 G'], .int .i64 0]) ∧ IsS w' a' G' shE ∧ Below W.heap.size W w' := by
  intro a G W h
  have c := drop_is 30 h
  rw [show chE shC (dropE 30) = 0 by decide +kernel, show chL shC (dropE 30) (dropL shC 30) = shE by kernel_rfl] at c
  exact c

set_option maxRecDepth 100000 in
theorem shl_k7 : ∀ a G W, IsS W a G shE → Calls Try.prog 10 #[.agg #[.slice a 4 G], .int .i64 1] W fun e w' => ∃ a' G', e = .returned (.tuple #[.slice a' 1 G', .int .i64 0]) ∧ SlP w' a' G' ptsOne ∧ Below W.heap.size W w' := by
  intro a G W h
  have c := all_is 1 h
  rw [show allE shE 1 = 0 by decide +kernel, show allL shE 1 = ptsOne by kernel_rfl] at c
  refine c.mono ?_
  rintro e w' ⟨a', G', rfl, o, b⟩
  obtain ⟨a3, G3, e3, s3, _, _⟩ := SlP.ofOwn o
  simp only [Value.slice.injEq, true_and] at e3
  obtain ⟨rfl, rfl⟩ := e3
  exact ⟨_, _, rfl, s3, b⟩

set_option maxRecDepth 100000 in
theorem shl_k8 : ∀ a G b H W, IsS W a G shB → IsS W b H smallL → Calls Try.prog 18 #[.agg #[.slice a 4 G], .agg #[.slice b 4 H]] W fun e w' => e = .returned (.bool true) ∧ Below W.heap.size W w' := by
  intro a G b H W h k
  have c := same_is h k (by decide)
  rw [show sameSh shB smallL = true by decide +kernel] at c
  exact c

set_option maxRecDepth 100000 in
theorem shl_k9 : ∀ a G W, IsS W a G shD → Calls Try.prog 17 #[.agg #[.slice a 4 G]] W fun e w' => e = .returned (.int .i64 0) ∧ Below W.heap.size W w' := by
  intro a G W h
  have c := check_is h
  rw [show shelfE shD = 0 by decide +kernel] at c
  exact c

set_option maxRecDepth 100000 in
theorem shl_k10 : ∀ a G b H W, SlP W a G ptsOne → SlP W b H ptsOne → Calls Try.prog 27 #[.slice a 1 G, .slice b 1 H] W fun e w' => e = .returned (.bool true) ∧ Below W.heap.size W w' := by
  intro a G b H W h k
  have p := equalPt a b G H ptsOne ptsOne W h k (by decide) (by decide)
  rw [show decide (ptsOne = ptsOne) = true by decide +kernel] at p
  refine p.mono ?_
  rintro e w' ⟨he, q, rfl⟩
  exact ⟨he, belowDrewN (Below.refl _ _) q⟩

set_option maxRecDepth 100000 in
theorem shl_at2 : ∀ W a G, IsS W a G shC → ∃ tb tf ba bc, a = some ⟨tb, tf, none⟩ ∧ tb < W.heap.size ∧ W.cell? ⟨tb, tf + 2, none⟩ = some (.slice ba 2 bc) := by
  intro W a G h
  obtain ⟨b, off, r, e1, e2, e3, _, _, e4⟩ := h.at 1 (by decide)
  refine ⟨b, off, r.ba, r.bc, e1, e2, ?_⟩
  have : r.bs.length = 2 := by
    have := congrArg (fun x => x.blocks.length) e4
    simp only [Lr.rw, List.length_map] at this
    rw [this]
    decide +kernel
  rw [this] at e3
  exact e3

set_option maxRecDepth 100000 in
theorem shl_at1 : ∀ W a G, IsS W a G shD → ∃ tb tf ba bc, a = some ⟨tb, tf, none⟩ ∧ tb < W.heap.size ∧ W.cell? ⟨tb, tf + 2, none⟩ = some (.slice ba 1 bc) := by
  intro W a G h
  obtain ⟨b, off, r, e1, e2, e3, _, _, e4⟩ := h.at 1 (by decide)
  refine ⟨b, off, r.ba, r.bc, e1, e2, ?_⟩
  have : r.bs.length = 1 := by
    have := congrArg (fun x => x.blocks.length) e4
    simp only [Lr.rw, List.length_map] at this
    rw [this]
    decide +kernel
  rw [this] at e3
  exact e3

end Go.Proofs.Ytgncadehaificaa
