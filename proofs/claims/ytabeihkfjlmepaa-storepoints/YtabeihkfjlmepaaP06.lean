/-
  block.Points: what it answers, whatever it is handed; nothing that was there is written.
-/
import Derived.Lib.SliceRun
import Derived.Deep.DeepAppendWide
import Derived.Laws.AppendOwnNone
import Derived.Test.YtabeihkfjlmepaaP05
import Derived.Test.YtabeihkfjlmepaaP01
import Derived.Test.YtabeihkfjlmepaaP04
import Derived.Test.YtabeihkfjlmepaaP02
namespace Go.Proofs.Ytabeihkfjlmepaa
open Go.RowKit

set_option maxHeartbeats 400000 in
set_option maxRecDepth 100000 in
theorem bpoints_err (b : Bk) (ao : Option Addr) (cap : Nat) (w : World) (hr : Sl w ao cap (b.bits.map Value.bool)) (hl : b.bits.length ≤ 140737488355328) (h : ¬ unpE b.bits b.n = 0) :
    Calls Try.prog 55 #[bkV b ao cap] w fun e w' => e = .returned (.tuple #[.slice none 0 0, .int .i64 (unpE b.bits b.n)]) ∧ Below w.heap.size w w' := by
  have c1 := fun W h => unpack_any ao cap b.bits b.n W h hl
  obtain ⟨N, fr, to, X⟩ := b
  unfold bkV
  simp only at *
  generalize unpL X N = U at *
  generalize unpE X N = E at *
  clear hl
  go_enter Try.func55, Try.ntmps55
  go_wp2_with fail
  go_at_call 71
  refine (c1 _ (hr.alloc _)).mono ?_
  rintro e w1 ⟨a1, G1, rfl, s1, b1⟩
  have bel := belowCall ((Below.refl _ _).alloc (Nat.le_refl _) _) b1
  clear c1 b1
  go_wp2_with fail
  go_ret2
  exact ⟨rfl, bel⟩

set_option maxHeartbeats 400000 in
set_option maxRecDepth 100000 in
theorem bpoints_none (b : Bk) (ao : Option Addr) (cap : Nat) (w : World) (hr : Sl w ao cap (b.bits.map Value.bool)) (hl : b.bits.length ≤ 140737488355328) (h : unpE b.bits b.n = 0) (h0 : (unpL b.bits b.n).length = 0) :
    Calls Try.prog 55 #[bkV b ao cap] w fun e w' => e = .returned (.tuple #[.slice none 0 0, .int .i64 4]) ∧ Below w.heap.size w w' := by
  have c1 := fun W h => unpack_any ao cap b.bits b.n W h hl
  obtain ⟨N, fr, to, X⟩ := b
  unfold bkV
  simp only at *
  rw [h, h0] at c1
  generalize unpL X N = U at *
  clear hl h h0
  go_enter Try.func55, Try.ntmps55
  go_wp2_with fail
  go_at_call 71
  refine (c1 _ (hr.alloc _)).mono ?_
  rintro e w1 ⟨a1, G1, rfl, s1, b1⟩
  have bel := belowCall ((Below.refl _ _).alloc (Nat.le_refl _) _) b1
  clear c1 b1
  go_wp2_with fail
  go_quiet (fail)
  go_wp2_with fail
  go_ret2
  exact ⟨rfl, belowDrewN bel _⟩

set_option maxHeartbeats 400000 in
set_option maxRecDepth 100000 in
theorem bpoints_some (b : Bk) (ao : Option Addr) (cap : Nat) (w : World) (hr : Sl w ao cap (b.bits.map Value.bool)) (hl : b.bits.length ≤ 140737488355328) (h : unpE b.bits b.n = 0) (h0 : 0 < (unpL b.bits b.n).length) :
    Calls Try.prog 55 #[bkV b ao cap] w fun e w' => ∃ a' G, e = .returned (.tuple #[if fitsB b (unpL b.bits b.n) = true then .slice a' (unpL b.bits b.n).length G else .slice none 0 0, .int .i64 (if fitsB b (unpL b.bits b.n) = true then 0 else 4)]) ∧ SlP w' a' G (unpL b.bits b.n) ∧ Below w.heap.size w w' := by
  have c1 := fun W h => unpack_any ao cap b.bits b.n W h hl
  have h40 := unpL_length b.bits b.n
  obtain ⟨N, fr, to, X⟩ := b
  unfold bkV fitsB
  simp only at *
  rw [h] at c1
  generalize unpL X N = U at *
  have s0 := fun W b off cap (h : SlP W (some ⟨b, off, none⟩) cap U) => h.first h0
  have s1 := fun W b off cap (h : SlP W (some ⟨b, off, none⟩) cap U) => h.last h0
  have hne : U ≠ [] := by intro e; rw [e] at h0; simp at h0
  generalize firstT U = P at *
  generalize endT U = Q at *
  obtain ⟨n, hn⟩ : ∃ n, n + 1 = U.length := ⟨U.length - 1, by omega⟩
  rw [← hn] at c1 s1 h40 ⊢
  simp only [Nat.add_sub_cancel] at s1
  clear hl h h0 hn
  have fin : decide (0 < n + 1 ∧ fr = P ∧ to = Q) = decide (fr = P ∧ to = Q) := by simp
  rw [fin]
  clear fin
  have hz : ((n : Int) + 1 == 0) = false := by simp; omega
  by_cases g1 : fr = P
  · subst g1
    by_cases g2 : to = Q
    · subst g2
      rw [show decide (fr = fr ∧ to = to) = true by simp]
      simp only [if_true]
      go_enter Try.func55, Try.ntmps55
      go_wp2_with fail
      go_at_call 71
      refine (c1 _ (hr.alloc _)).mono ?_
      rintro e w1 ⟨a1, G1, rfl, t1, b1⟩
      have B0 := (Blk.laid w [.int .i64 N, .int .i64 fr, .int .i64 to, .slice ao X.length cap] 60 _ rfl).keep b1 (by simp)
      have bel := belowCall ((Below.refl _ _).alloc (Nat.le_refl _) _) b1
      obtain ⟨ub, uo, rfl, hub⟩ := t1.where hne
      have e0 := s0 _ _ _ _ t1
      have e1 := s1 _ _ _ _ t1
      have d1 : w1.cell? ⟨w.heap.size, 1, none⟩ = some (.int .i64 fr) := B0.cell 1
      have d2 : w1.cell? ⟨w.heap.size, 2, none⟩ = some (.int .i64 to) := B0.cell 2
      have hgl := B0.lt
      clear c1 b1 s0 s1
      go_wp2_with fail
      go_region
      go_wp2_with fail
      go_ret2
      exact ⟨_, _, rfl, t1.drewS, belowDrew bel⟩
    · rw [show decide (fr = fr ∧ to = Q) = false by simp [g2]]
      simp only [Bool.false_eq_true, if_false]
      go_enter Try.func55, Try.ntmps55
      go_wp2_with fail
      go_at_call 71
      refine (c1 _ (hr.alloc _)).mono ?_
      rintro e w1 ⟨a1, G1, rfl, t1, b1⟩
      have B0 := (Blk.laid w [.int .i64 N, .int .i64 fr, .int .i64 to, .slice ao X.length cap] 60 _ rfl).keep b1 (by simp)
      have bel := belowCall ((Below.refl _ _).alloc (Nat.le_refl _) _) b1
      obtain ⟨ub, uo, rfl, hub⟩ := t1.where hne
      have e0 := s0 _ _ _ _ t1
      have e1 := s1 _ _ _ _ t1
      have d1 : w1.cell? ⟨w.heap.size, 1, none⟩ = some (.int .i64 fr) := B0.cell 1
      have d2 : w1.cell? ⟨w.heap.size, 2, none⟩ = some (.int .i64 to) := B0.cell 2
      have hgl := B0.lt
      clear c1 b1 s0 s1
      go_wp2_with fail
      go_region
      go_wp2_with fail
      go_ret2
      exact ⟨_, _, rfl, t1.drewS, belowDrew bel⟩
  · rw [show decide (fr = P ∧ to = Q) = false by simp [g1]]
    simp only [Bool.false_eq_true, if_false]
    go_enter Try.func55, Try.ntmps55
    go_wp2_with fail
    go_at_call 71
    refine (c1 _ (hr.alloc _)).mono ?_
    rintro e w1 ⟨a1, G1, rfl, t1, b1⟩
    have B0 := (Blk.laid w [.int .i64 N, .int .i64 fr, .int .i64 to, .slice ao X.length cap] 60 _ rfl).keep b1 (by simp)
    have bel := belowCall ((Below.refl _ _).alloc (Nat.le_refl _) _) b1
    obtain ⟨ub, uo, rfl, hub⟩ := t1.where hne
    have e0 := s0 _ _ _ _ t1
    have e1 := s1 _ _ _ _ t1
    have d1 : w1.cell? ⟨w.heap.size, 1, none⟩ = some (.int .i64 fr) := B0.cell 1
    have d2 : w1.cell? ⟨w.heap.size, 2, none⟩ = some (.int .i64 to) := B0.cell 2
    have hgl := B0.lt
    clear c1 b1 s0 s1
    go_wp2_with fail
    go_quiet (fail)
    go_wp2_with fail
    go_ret2
    exact ⟨_, _, rfl, t1.drewN _, belowDrewN bel _⟩

/-- Points, whatever it is handed. -/
theorem bpoints_any (b : Bk) (ao : Option Addr) (cap : Nat) (w : World) (hr : Sl w ao cap (b.bits.map Value.bool)) (hl : b.bits.length ≤ 140737488355328) :
    Calls Try.prog 55 #[bkV b ao cap] w fun e w' => ∃ a' G, e = .returned (.tuple #[.slice a' (ptsL b).length G, .int .i64 (ptsE b)]) ∧ SlP w' a' G (ptsL b) ∧ Below w.heap.size w w' := by
  by_cases h : unpE b.bits b.n = 0
  · by_cases h0 : (unpL b.bits b.n).length = 0
    · have hf : fitsB b (unpL b.bits b.n) = false := decide_eq_false (by omega)
      have he : ptsE b = 4 := by unfold ptsE; rw [if_pos h, hf]; rfl
      have hL : ptsL b = [] := by unfold ptsL; rw [he]; rfl
      rw [he, hL]
      refine (bpoints_none b ao cap w hr hl h h0).mono ?_
      rintro e w' ⟨rfl, hb⟩
      exact ⟨none, 0, rfl, SlP.ofNil _, hb⟩
    · cases hf : fitsB b (unpL b.bits b.n) with
      | true =>
        have he : ptsE b = 0 := by unfold ptsE; rw [if_pos h, hf]; rfl
        have hL : ptsL b = unpL b.bits b.n := by unfold ptsL; rw [he]; rfl
        rw [he, hL]
        refine (bpoints_some b ao cap w hr hl h (by omega)).mono ?_
        rw [hf]
        rintro e w' ⟨a', G, rfl, hs, hb⟩
        exact ⟨a', G, rfl, hs, hb⟩
      | false =>
        have he : ptsE b = 4 := by unfold ptsE; rw [if_pos h, hf]; rfl
        have hL : ptsL b = [] := by unfold ptsL; rw [he]; rfl
        rw [he, hL]
        refine (bpoints_some b ao cap w hr hl h (by omega)).mono ?_
        rw [hf]
        rintro e w' ⟨a', G, rfl, hs, hb⟩
        exact ⟨none, 0, rfl, SlP.ofNil _, hb⟩
  · have he : ptsE b = unpE b.bits b.n := if_neg h
    have hL : ptsL b = [] := by unfold ptsL; rw [he, if_neg h]
    rw [he, hL]
    refine (bpoints_err b ao cap w hr hl h).mono ?_
    rintro e w' ⟨rfl, hb⟩
    exact ⟨none, 0, rfl, SlP.ofNil _, hb⟩

end Go.Proofs.Ytabeihkfjlmepaa

/-
  slices.Clone at points, of a slice that has some: a slice of the call's own with the same points.
-/
namespace Go.Proofs.Ytabeihkfjlmepaa
open Go.RowKit

theorem infoPoint : (Try.prog.info? 43).map (fun i => (i.zero, i.size, i.bytes)) = some (some (.agg #[.int .i64 0, .int .i64 0]), 2, 16) := by kernel_rfl

set_option maxHeartbeats 400000 in
set_option maxRecDepth 100000 in
theorem clonePt (b off cap : Nat) (l : List Pt) (w : World) (hr : SlP w (some ⟨b, off, none⟩) cap l) (hpos : 0 < l.length) (hl : l.length ≤ 1000000000000) :
    Calls Try.prog 66 #[.slice (some ⟨b, off, none⟩) l.length cap] w fun e w' =>
      ∃ v', e = .returned v' ∧ w'.ownsRow w.heap.size 43 2 v' l.length (cellsP l) ∧ Below w.heap.size w w' := by
  obtain ⟨i0, hi, hz0, hz1, hz2⟩ := info_parts infoPoint
  have q : ∀ (w : World) (a : Option Addr) (n c n' c' : Nat), (binOp .eql 37 (.slice a n c) (.slice none n' c')).run Try.prog w = .ok (.bool a.isNone) w := fun w a n c n' c' => Lib.run_eql_slice_nil w _ _ a n c n' c' Try.underlying37
  have own0 : (w.alloc (.cells #[] 43)).ownsRow w.heap.size 43 2 (.slice (some ⟨w.heap.size, 0, none⟩) 0 0) 0 [] :=
    ⟨rfl, .inr ⟨w.heap.size, 0, #[], rfl, Nat.le_refl _, heap_alloc_new w _, Nat.le_refl _, by decide, rfl, rfl⟩⟩
  have belA := (Below.refl w.heap.size w).alloc (Nat.le_refl _) (Obj.cells #[] 43)
  have hs := hr.alloc (.cells #[] 43)
  have hsrc : ∀ j u, (cellsP l)[j]? = some u → (w.alloc (.cells #[] 43)).cell? ((⟨b, off, none⟩ : Addr).add j) = some u := by
    intro j u hu
    obtain ⟨b', off', e, _, hc⟩ := hs.row.at (by intro e; rw [e] at hu; simp at hu)
    simp only [Option.some.injEq, Addr.mk.injEq, and_true] at e
    obtain ⟨rfl, rfl⟩ := e
    rw [Addr.add_lit]
    exact hc j u hu
  have one := cellsP_one l
  have hlen := cellsP_length l
  have bA : w.heap.size ≤ (w.alloc (.cells #[] 43)).heap.size := by simp
  generalize cellsP l = C at *
  generalize l.length = n at *
  replace hlen := hide hlen
  clear hr hs
  go_enter Try.func66, Try.ntmps66
  go_wp2_with (at_builtin; refine wpList_append_went _ rfl (.tmp 5) (.tmp 6) 37 rfl w.heap.size 43 i0 (.agg #[.int .i64 0, .int .i64 0]) 2 16 Try.underlying37 hi hz0 hz1 hz2 rfl (by decide) _ 0 _ rfl own0 ⟨b, off, none⟩ n cap C rfl hlen.out hsrc one hpos (by unfold maxLen; omega) (by omega) bA ?_)
  intro v' w1 own1 grow1 went1
  have bel1 := belowGrown belA own0 grow1 (Nat.le_refl _) bA
  obtain ⟨a1, c1, rfl⟩ : ∃ a1 c1, v' = .slice a1 n c1 := by
    rcases own1.2 with ⟨rfl, rfl⟩ | ⟨g, cp, cur, rfl, _⟩
    · exact ⟨_, _, rfl⟩
    · exact ⟨_, _, rfl⟩
  go_wp2_with fail
  go_ret
  exact ⟨_, rfl, own1, bel1⟩

end Go.Proofs.Ytabeihkfjlmepaa

/-
  shelf.points: the points of all blocks of a row, and its head behind them: what it answers of a row of eight blocks at most; the points lie in memory of the call's own.
-/
namespace Go.Proofs.Ytabeihkfjlmepaa
open Go.RowKit

/-- What is owned from a later block on is owned from an earlier one on. -/
theorem ownBase {w : World} {base base' : Nat} {e : TypeId} {size n : Nat} {v : Value} {xs : List Value} (h : w.ownsRow base e size v n xs) (hb : base' ≤ base) : w.ownsRow base' e size v n xs := by
  refine ⟨h.1, ?_⟩
  rcases h.2 with h0 | ⟨g, cap, cur, q1, q2, q3⟩
  · exact .inl h0
  · exact .inr ⟨g, cap, cur, q1, by omega, q3⟩

/-- All points of a row, or none where a block is wrong. -/
def rpts (r : Rw) : List Pt := if blksE r.blocks = 0 then allPts r else []

set_option maxHeartbeats 400000 in
set_option maxRecDepth 100000 in
theorem sPoints_any (r : Lr) (w : World) (hg : r.Good w) (h : r.bs.length ≤ 8) :
    Calls Try.prog 31 #[r.v] w fun e w' => ∃ a' G, e = .returned (.tuple #[.slice a' (rpts r.rw).length G, .int .i64 (blksE r.rw.blocks)]) ∧ w'.ownsRow w.heap.size 43 2 (.slice a' (rpts r.rw).length G) (rpts r.rw).length (cellsP (rpts r.rw)) ∧ Below w.heap.size w w' := by
  obtain ⟨L, hL⟩ : ∃ L, L = rpts r.rw := ⟨_, rfl⟩
  obtain ⟨E, hE⟩ : ∃ E, E = blksE r.rw.blocks := ⟨_, rfl⟩
  rw [← hL, ← hE]
  have hE1 : E = blksE (r.bs.map Lb.b) := hE
  have hL1 : L = if E = 0 then blksL (r.bs.map Lb.b) ++ r.hd else [] := by rw [hL]; unfold rpts; rw [← hE]; rfl
  clear hL hE
  obtain ⟨bs, ba, bc, hd, ha, hc⟩ := r
  obtain ⟨sb, sh, -, hfew⟩ := hg
  unfold Lr.v
  simp only at *
  obtain ⟨n, hn⟩ : ∃ n, n = bs.length := ⟨_, rfl⟩
  obtain ⟨m, hm⟩ : ∃ m, m = hd.length := ⟨_, rfl⟩
  rw [← hn] at h ⊢
  rw [← hm] at hfew ⊢
  have h' : (n : Int) ≤ 8 := by omega
  replace hn := hide hn
  replace hm := hide hm
  have H0 : Hid (E = blksE ((bs.drop 0).map Lb.b)) := by rw [List.drop_zero]; exact hE1
  have H1 : Hid (L = if E = 0 then ([] ++ blksL ((bs.drop 0).map Lb.b)) ++ hd else []) := by rw [List.drop_zero, List.nil_append]; exact hL1
  clear hE1 hL1
  obtain ⟨i0, hi, hz0, hz1, hz2⟩ := info_parts infoPoint
  go_enter Try.func31, Try.ntmps31
  go_wp2_with fail
  have B0 := Blk.laid w [.slice ba n bc, .slice ha m hc] 56 _ rfl
  have bel0 : Below w.heap.size w (w.alloc (.cells #[.slice ba n bc, .slice ha m hc] 56)) := (Below.refl _ _).alloc (Nat.le_refl _) _
  generalize w.alloc _ = w1 at *
  go_loopw [12, 4] (fun i o wr => ∃ (k G : Nat) (a' : Option Addr) (O : List Pt), k ≤ n ∧ i = .int .i64 k ∧ o = .slice a' O.length G ∧ O.length ≤ 40 * k ∧ wr.ownsRow (w.heap.size + 1) 43 2 (.slice a' O.length G) O.length (cellsP O) ∧
      Hid (E = blksE ((bs.drop k).map Lb.b)) ∧ Hid (L = if E = 0 then (O ++ blksL ((bs.drop k).map Lb.b)) ++ hd else []) ∧
      Blk wr w.heap.size [.slice ba n bc, .slice ha m hc] 56 ∧ Below w.heap.size w wr) (fun i _ _ => n - (intOf i).toNat)
  case atStart => exact ⟨0, 0, none, [], by omega, rfl, rfl, by simp, World.ownsRow_nil _ _ _ _, H0, H1, B0, bel0⟩
  case round =>
    clear H0 H1 B0 bel0
    obtain ⟨k, G, a', O, hk, rfl, rfl, hO, own, H0, H1, B, bel⟩ := hrel
    by_cases hlt : k < n
    · have hs := sb.keep bel (Nat.le_refl _)
      obtain ⟨b, off, rfl, hbw⟩ := hs.where (by intro e; rw [hn.out, e] at hlt; simp at hlt)
      obtain ⟨x, hx⟩ : ∃ x, bs[k]? = some x := ⟨_, List.getElem?_eq_getElem (by rw [← hn.out]; exact hlt)⟩
      obtain ⟨e0, e1, e2, e3, gx⟩ := hs.at k x hx
      have hd : bs.drop k = x :: bs.drop (k + 1) := by
        obtain ⟨hk', rfl⟩ := List.getElem?_eq_some_iff.1 hx
        exact List.drop_eq_getElem_cons hk'
      have H0' := H0.out
      have H1' := H1.out
      rw [hd, List.map_cons] at H0' H1'
      clear H0 H1 hd hx
      obtain ⟨⟨xn, xf, xT, X⟩, xa, xc⟩ := x
      obtain ⟨gb, gf⟩ := gx
      simp only at *
      have c1 := fun W h => bpoints_any ⟨xn, xf, xT, X⟩ xa xc W h gf
      have pl := ptsL_length ⟨xn, xf, xT, X⟩
      by_cases hp : ptsE ⟨xn, xf, xT, X⟩ = 0
      · have pp := ptsL_pos hp
        rw [blksE, if_pos hp] at H0'
        rw [show blksL (⟨xn, xf, xT, X⟩ :: (bs.drop (k + 1)).map Lb.b) = ptsL ⟨xn, xf, xT, X⟩ ++ blksL ((bs.drop (k + 1)).map Lb.b) from rfl, ← List.append_assoc] at H1'
        rw [hp] at c1
        generalize ptsL ⟨xn, xf, xT, X⟩ = P at *
        replace H0' := hide H0'
        replace H1' := hide H1'
        have hPc := cellsP_length P
        have hPo := cellsP_one P
        have hPn : P ≠ [] := by intro e; rw [e] at pp; simp at pp
        have hOP : (O ++ P).length = O.length + P.length := List.length_append
        have hcat := cellsP_append O P
        obtain ⟨on, hon⟩ : ∃ on, on = O.length := ⟨_, rfl⟩
        obtain ⟨pn, hpn⟩ : ∃ pn, pn = P.length := ⟨_, rfl⟩
        rw [← hon] at own hO hOP
        rw [← hpn] at c1 pp pl hPc hOP
        replace hPc := hide hPc
        replace hOP := hide hOP
        replace hcat := hide hcat
        replace hon := hide hon
        clear hpn hp
        rw [← hon.out]
        unfold bkV at c1
        simp only at c1
        go_wp2_with fail
        go_at_call 55
        refine (c1 _ (gb.alloc _)).mono ?_
        rintro e w2 ⟨a2, G2, rfl, s2, b2⟩
        have own2 := ownCall (own.alloc _) b2
        have B2 := (B.alc _).keep b2 (B.alc _).lt
        have bel2 := belowCall (belowNew bel _) b2
        have hsz : w.heap.size + 1 ≤ w2.heap.size := B2.lt
        obtain ⟨yb, yo, rfl, hyb⟩ := s2.where hPn
        have ysrc : ∀ j u, (cellsP P)[j]? = some u → w2.cell? ((⟨yb, yo, none⟩ : Addr).add j) = some u := by
          intro j u hu
          obtain ⟨b', off', e, _, hc⟩ := s2.row.at (by intro e; rw [e] at hu; simp at hu)
          simp only [Option.some.injEq, Addr.mk.injEq, and_true] at e
          obtain ⟨rfl, rfl⟩ := e
          rw [Addr.add_lit]
          exact hc j u hu
        clear c1 b2 own B bel s2 e0 e1 e2 e3
        go_wp2_with (at_builtin; refine wpList_append_went _ rfl (.tmp 24) (.tmp 25) 37 rfl (w.heap.size + 1) 43 i0 (.agg #[.int .i64 0, .int .i64 0]) 2 16 Try.underlying37 hi hz0 hz1 hz2 rfl (by decide) _ on _ rfl own2 ⟨yb, yo, none⟩ pn _ (cellsP P) rfl hPc.out ysrc hPo pp (by unfold maxLen; omega) (by omega) hsz ?_)
        intro v3 w3 own3 grow3 _
        have bel3 := belowGrown bel2 own2 grow3 (Nat.le_succ _) bel2.size
        have B3 := B2.grown grow3 (fun j hj => by have := (own2.lt j hj).1; omega)
        rw [← hcat.out] at own3
        obtain ⟨a3, G3, rfl, _, _, _⟩ := SlP.ofOwn own3
        go_wp2_with fail
        go_roundw
        case rel => exact ⟨k + 1, G3, a3, O ++ P, by omega, by go_num, by rw [hOP.out], by rw [hOP.out]; omega, by rw [hOP.out]; exact own3, H0', H1', B3, bel3⟩
        case measure => simp [intOf]; omega
      · have e1' : E = ptsE ⟨xn, xf, xT, X⟩ := by rw [H0', blksE, if_neg hp]
        have e2' : L = [] := by rw [H1', e1', if_neg hp]
        clear H0' H1'
        generalize ptsE ⟨xn, xf, xT, X⟩ = F at *
        generalize ptsL ⟨xn, xf, xT, X⟩ = P at *
        replace e1' := hide e1'
        replace e2' := hide e2'
        clear pl
        unfold bkV at c1
        simp only at c1
        go_wp2_with fail
        go_at_call 55
        refine (c1 _ (gb.alloc _)).mono ?_
        rintro e w2 ⟨a2, G2, rfl, s2, b2⟩
        have bel2 := belowCall (belowNew bel _) b2
        go_wp2_with fail
        go_ret2
        exact ⟨none, 0, by rw [e1'.out, e2'.out]; rfl, by rw [e2'.out]; exact World.ownsRow_nil _ _ _ _, bel2⟩
    · obtain rfl : k = n := by omega
      have H0' := H0.out
      have H1' := H1.out
      rw [hn.out, List.drop_length] at H0' H1'
      simp only [List.map_nil, blksE, blksL, List.flatMap_nil, List.append_nil] at H0' H1'
      rw [H0', if_pos rfl] at H1'
      clear H0 H1
      have e1 : w.heap.size < wr.heap.size := B.lt
      have d1 : wr.cell? ⟨w.heap.size, 1, none⟩ = some (.slice ha m hc) := B.cell 1
      have sh1 := sh.keep bel (Nat.le_refl _)
      have hcat := cellsP_append O hd
      have hdc := cellsP_length hd
      have hdo := cellsP_one hd
      rw [← hm.out] at hdc
      obtain ⟨on, hon⟩ : ∃ on, on = O.length := ⟨_, rfl⟩
      rw [← hon] at own hO ⊢
      have hlen : L.length = on + m := by rw [H1', List.length_append, ← hon, ← hm.out]
      replace hlen := hide hlen
      replace hcat := hide hcat
      replace hdc := hide hdc
      replace H0' := hide H0'
      replace H1' := hide H1'
      clear hon
      cases ha with
      | none =>
        have h1 := sh1.nil rfl
        have h2 := sh1.le
        have h3 : hd = [] := List.eq_nil_of_length_eq_zero (by omega)
        obtain rfl : m = 0 := by rw [hm.out, h3]; rfl
        subst h1
        have own' : wr.ownsRow (w.heap.size + 1) 43 2 (.slice a' on G) on (cellsP L) := by rw [H1'.out, h3, List.append_nil]; exact own
        replace h3 := hide h3
        clear h2
        go_wp2_with (at_builtin; refine wpList_append_own_none rfl (.tmp 28) (.tmp 30) 37 rfl (w.heap.size + 1) 43 i0 2 Try.underlying37 hi _ on _ rfl own rfl ?_)
        go_wp2_with fail
        go_ret2
        exact ⟨a', G, by rw [hlen.out, H0'.out]; rfl, by rw [hlen.out]; exact ownBase own' (Nat.le_succ _), bel⟩
      | some ad =>
        have ysrc : ∀ j u, (cellsP hd)[j]? = some u → wr.cell? (ad.add j) = some u := by
          intro j u hu
          obtain ⟨b', off', e, _, hc⟩ := sh1.row.at (by intro e; rw [e] at hu; simp at hu)
          obtain rfl := Option.some.inj e
          rw [Addr.add_lit]
          exact hc j u hu
        go_wp2_with (at_builtin; refine wpList_append_own_wide _ rfl (.tmp 28) (.tmp 30) 37 rfl (w.heap.size + 1) 43 i0 (.agg #[.int .i64 0, .int .i64 0]) 2 16 Try.underlying37 hi hz0 hz1 hz2 rfl (by decide) _ on _ rfl own ad m _ (cellsP hd) rfl hdc.out ysrc hdo (by unfold maxLen; omega) (by omega) e1 ?_)
        intro v3 w3 own3 grow3 _
        have bel3 := belowGrown bel own grow3 (Nat.le_succ _) bel.size
        rw [← hcat.out, ← H1'.out] at own3
        obtain ⟨a3, G3, rfl, _, _, _⟩ := SlP.ofOwn own3
        clear grow3 own
        go_wp2_with fail
        go_ret2
        exact ⟨a3, G3, by rw [hlen.out, H0'.out]; rfl, by rw [hlen.out]; exact ownBase own3 (Nat.le_succ _), bel3⟩

end Go.Proofs.Ytabeihkfjlmepaa

/-
  What the operations on a shelf make of it, as plain lists: seal, merge, drop, put; what a shelf that is right has. No program is named.
-/
namespace Go.Proofs.Ytabeihkfjlmepaa
open Go.RowKit

def rw0 : Rw := ⟨[], []⟩

def inI (x a b : Int) : Bool := decide (a ≤ x ∧ x ≤ b)

def sealE (l : List Rw) (s n : Int) : Int :=
  if inI s 0 3 = false then 5 else if inI n 1 (l.getD s.toNat rw0).head.length = false then 3 else if 8 ≤ (l.getD s.toNat rw0).blocks.length then 2 else 0

def sealL (l : List Rw) (s n : Int) : List Rw :=
  if sealE l s n = 0 then l.set s.toNat ⟨(l.getD s.toNat rw0).blocks ++ [makeB ((l.getD s.toNat rw0).head.take n.toNat)], (l.getD s.toNat rw0).head.drop n.toNat⟩ else []

def blkAt (r : Rw) (k : Nat) : Bk := r.blocks.getD k bk0

def mrgE (l : List Rw) (s k : Int) : Int :=
  if inI s 0 3 = false then 5 else if inI k 0 ((l.getD s.toNat rw0).blocks.length - 2) = false then 3 else mergeE (blkAt (l.getD s.toNat rw0) k.toNat) (blkAt (l.getD s.toNat rw0) (k.toNat + 1))

def mrgL (l : List Rw) (s k : Int) : List Rw :=
  if mrgE l s k = 0 then l.set s.toNat ⟨(l.getD s.toNat rw0).blocks.take k.toNat ++ (mergeB (blkAt (l.getD s.toNat rw0) k.toNat) (blkAt (l.getD s.toNat rw0) (k.toNat + 1)) :: (l.getD s.toNat rw0).blocks.drop (k.toNat + 2)), (l.getD s.toNat rw0).head⟩ else []

/-- A shelf that is right has four rows, of few blocks and few points. -/
structure Right (l : List Rw) : Prop where
  four : l.length = 4
  few : ∀ r ∈ l, r.blocks.length ≤ 8 ∧ r.head.length ≤ 40

theorem rowsE_zero : ∀ {l : List Rw}, rowsE l = 0 → ∀ r ∈ l, rowE r = 0
  | [], _, r, hr => by simp at hr
  | x :: l, h, r, hr => by
    unfold rowsE at h
    split at h
    · rename_i h0
      rcases List.mem_cons.1 hr with rfl | hr
      · exact h0
      · exact rowsE_zero h r hr
    · rename_i h0
      exact absurd h h0

theorem rowE_zero {r : Rw} (h : rowE r = 0) : r.blocks.length ≤ 8 ∧ blksE r.blocks = 0 ∧ checkE (allPts r) = 0 := by
  unfold rowE at h
  split at h
  · cases h
  · split at h
    · exact ⟨by omega, by assumption, h⟩
    · rename_i h1
      exact absurd h h1

theorem shelfE_zero {l : List Rw} (h : shelfE l = 0) : l.length = 4 ∧ rowsE l = 0 := by
  unfold shelfE at h
  split at h
  · exact ⟨by assumption, h⟩
  · cases h

theorem right_of {l : List Rw} (h : shelfE l = 0) : Right l := by
  obtain ⟨h4, hr⟩ := shelfE_zero h
  refine ⟨h4, fun r hr' => ?_⟩
  obtain ⟨h1, _, h3⟩ := rowE_zero (rowsE_zero hr r hr')
  have := (checkE_zero h3).1
  unfold allPts at this
  rw [List.length_append] at this
  exact ⟨h1, by omega⟩

theorem flat_set {α : Type} {f : α → List Value} (x : α) (u v : Value) (hu : f x = [u, v]) (hf : ∀ x, (f x).length = 2) : ∀ (l : List α) (k : Nat), k < l.length → ((l.flatMap f).set (k * 2) u).set (k * 2 + 1) v = (l.set k x).flatMap f
  | [], k, h => by simp at h
  | y :: r, 0, _ => by
    have h := hf y
    obtain ⟨y0, y1, e⟩ : ∃ y0 y1, f y = [y0, y1] := by
      match f y, h with
      | [y0, y1], _ => exact ⟨y0, y1, rfl⟩
    rw [List.flatMap_cons, List.set_cons_zero, List.flatMap_cons, e, hu]
    rfl
  | y :: r, k + 1, h => by
    have ih := flat_set x u v hu hf r k (by simpa using h)
    have e : (f y).length = 2 := hf y
    rw [List.flatMap_cons, List.set_cons_succ, List.flatMap_cons, ← ih, List.set_append_right _ _ (by rw [e]; omega), e, List.set_append_right _ _ (by rw [e]; omega), e,
      show (k + 1) * 2 - 2 = k * 2 by omega, show (k + 1) * 2 + 1 - 2 = k * 2 + 1 by omega]

end Go.Proofs.Ytabeihkfjlmepaa

/-
  shelf.checkPoints, shelf.checkRow, shelf.Check: what they answer of a row, of a shelf, whatever it is; nothing that was there is written. shelf.isSeries.
-/
namespace Go.Proofs.Ytabeihkfjlmepaa
open Go.RowKit

set_option maxHeartbeats 400000 in
set_option maxRecDepth 100000 in
theorem isSeries_any (x : Int) (w : World) :
    Calls Try.prog 30 #[.int .i64 x] w fun e w' => e = .returned (.bool (inI x 0 3)) ∧ w' = w := by
  by_cases h0 : 0 ≤ x
  · by_cases h1 : x < 4
    · rw [show inI x 0 3 = true by unfold inI; simp; omega]
      go_enter Try.func30, Try.ntmps30
      go_wp2_with fail
      go_ret
      exact ⟨rfl, rfl⟩
    · rw [show inI x 0 3 = false by unfold inI; simp; omega]
      go_enter Try.func30, Try.ntmps30
      go_wp2_with fail
      go_ret
      exact ⟨rfl, rfl⟩
  · rw [show inI x 0 3 = false by unfold inI; simp; omega]
    go_enter Try.func30, Try.ntmps30
    go_wp2_with fail
    go_ret
    exact ⟨rfl, rfl⟩

/-- What is wrong with the points of a row. -/
def cpE (r : Rw) : Int := if blksE r.blocks = 0 then checkE (allPts r) else blksE r.blocks

set_option maxHeartbeats 400000 in
set_option maxRecDepth 100000 in
theorem checkPoints_any (r : Lr) (w : World) (hg : r.Good w) (h : r.bs.length ≤ 8) :
    Calls Try.prog 56 #[r.v] w fun e w' => e = .returned (.int .i64 (cpE r.rw)) ∧ Below w.heap.size w w' := by
  have c1 := fun W k => sPoints_any r W k h
  have c2 := fun a c W k => check_any a c (rpts r.rw) W k
  have g1 := fun o => hg.alloc o
  unfold Lr.v at *
  have hz : blksE r.rw.blocks = 0 → cpE r.rw = checkE (rpts r.rw) := fun e => by unfold cpE rpts; rw [if_pos e, if_pos e]
  have hn : blksE r.rw.blocks ≠ 0 → cpE r.rw = blksE r.rw.blocks := fun e => by unfold cpE; rw [if_neg e]
  generalize cpE r.rw = F at *
  generalize blksE r.rw.blocks = E at *
  generalize rpts r.rw = L at *
  obtain ⟨bs, ba, bc, hd, ha, hc⟩ := r
  simp only at *
  generalize bs.length = n1 at *
  generalize hd.length = n2 at *
  clear hg h
  by_cases hE : E = 0
  · have hz' := hide (hz hE)
    subst hE
    clear hz hn
    go_enter Try.func56, Try.ntmps56
    go_wp2_with fail
    go_at_call 31
    refine (c1 _ (g1 _)).mono ?_
    rintro e w2 ⟨a2, G2, rfl, own2, b2⟩
    have bel2 := belowCall (belowNew (Below.refl _ w) _) b2
    obtain ⟨a3, G3, e3, s3, _, _⟩ := SlP.ofOwn own2
    simp only [Value.slice.injEq, true_and] at e3
    obtain ⟨rfl, rfl⟩ := e3
    go_wp2_with fail
    go_at_call 58
    refine (c2 _ _ _ s3).mono ?_
    rintro e w4 ⟨rfl, b4⟩
    have bel4 := belowCall bel2 b4
    go_wp2_with fail
    go_ret
    exact ⟨by rw [hz'.out]; rfl, bel4⟩
  · have hn' := hide (hn hE)
    clear hz hn
    go_enter Try.func56, Try.ntmps56
    go_wp2_with fail
    go_at_call 31
    refine (c1 _ (g1 _)).mono ?_
    rintro e w2 ⟨a2, G2, rfl, own2, b2⟩
    have bel2 := belowCall (belowNew (Below.refl _ w) _) b2
    go_wp2_with fail
    go_ret
    exact ⟨by rw [hn'.out]; rfl, bel2⟩

set_option maxHeartbeats 400000 in
set_option maxRecDepth 100000 in
theorem checkRow_any (r : Lr) (w : World) (hg : r.Good w) :
    Calls Try.prog 32 #[r.v] w fun e w' => e = .returned (.int .i64 (rowE r.rw)) ∧ Below w.heap.size w w' := by
  by_cases h : r.bs.length ≤ 8
  · have hE : rowE r.rw = cpE r.rw := by unfold rowE cpE; rw [if_neg (by unfold Lr.rw; simp only [List.length_map]; omega)]
    have c1 := fun W k => checkPoints_any r W k h
    rw [← hE] at c1
    have g1 := fun o => hg.alloc o
    generalize rowE r.rw = F at *
    clear hE
    unfold Lr.v at *
    obtain ⟨bs, ba, bc, hd, ha, hc⟩ := r
    simp only at *
    generalize bs.length = n1 at *
    generalize hd.length = n2 at *
    have h' : ¬ (8 : Int) < n1 := by omega
    clear hg
    go_enter Try.func32, Try.ntmps32
    go_wp2_with fail
    go_at_call 56
    refine (c1 _ (g1 _)).mono ?_
    rintro e w2 ⟨rfl, b2⟩
    have bel2 := belowCall (belowNew (Below.refl _ w) _) b2
    go_wp2_with fail
    go_ret
    exact ⟨rfl, bel2⟩
  · have hE : rowE r.rw = 2 := by unfold rowE; rw [if_pos (by unfold Lr.rw; simp only [List.length_map]; omega)]
    have hf := hg.few
    rw [hE]
    unfold Lr.v
    obtain ⟨bs, ba, bc, hd, ha, hc⟩ := r
    simp only at *
    generalize bs.length = n1 at *
    generalize hd.length = n2 at *
    have h' : (8 : Int) < n1 := by omega
    clear hg hE
    go_enter Try.func32, Try.ntmps32
    go_wp2_with fail
    go_ret
    exact ⟨rfl, (Below.refl _ _).alloc (Nat.le_refl _) _⟩

set_option maxHeartbeats 400000 in
set_option maxRecDepth 100000 in
theorem sCheck_no (n : Nat) (ao : Option Addr) (cap : Nat) (w : World) (h : n ≠ 4) :
    Calls Try.prog 14 #[.agg #[.slice ao n cap]] w fun e w' => e = .returned (.int .i64 4) ∧ Below w.heap.size w w' := by
  have h' : ¬ (n : Int) = 4 := by omega
  go_enter Try.func14, Try.ntmps14
  go_wp2_with fail
  go_ret
  exact ⟨rfl, (Below.refl _ _).alloc (Nat.le_refl _) _⟩

set_option maxHeartbeats 400000 in
set_option maxRecDepth 100000 in
theorem sCheck_four (l : List Lr) (ao : Option Addr) (cap : Nat) (w : World) (hs : SlR w ao cap l) (h4 : l.length = 4) :
    Calls Try.prog 14 #[.agg #[.slice ao 4 cap]] w fun e w' => e = .returned (.int .i64 (rowsE (l.map Lr.rw))) ∧ Below w.heap.size w w' := by
  obtain ⟨E, hE⟩ : ∃ E, E = rowsE (l.map Lr.rw) := ⟨_, rfl⟩
  rw [← hE]
  have H0 : Hid (E = rowsE ((l.drop 0).map Lr.rw)) := by rw [List.drop_zero]; exact hE
  clear hE
  obtain ⟨b, off, rfl, hbw⟩ := hs.where (by intro e; rw [e] at h4; simp at h4)
  replace h4 := hide h4
  go_enter Try.func14, Try.ntmps14
  go_wp2_with fail
  have B0 := Blk.laid w [.slice (some ⟨b, off, none⟩) 4 cap] 24 _ rfl
  have bel0 : Below w.heap.size w (w.alloc (.cells #[.slice (some ⟨b, off, none⟩) 4 cap] 24)) := (Below.refl _ _).alloc (Nat.le_refl _) _
  generalize w.alloc _ = w1 at *
  go_loopw [13] (fun i wr => ∃ (k : Nat), k ≤ 4 ∧ i = .int .i64 k ∧ Hid (E = rowsE ((l.drop k).map Lr.rw)) ∧ Below w.heap.size w wr) (fun i _ => 4 - (intOf i).toNat)
  case atStart => exact ⟨0, by omega, rfl, H0, bel0⟩
  case round =>
    clear H0 B0 bel0
    obtain ⟨k, hk, rfl, H0, bel⟩ := hrel
    by_cases hlt : k < 4
    · have hs1 := hs.keep bel (Nat.le_refl _)
      obtain ⟨r, hr⟩ : ∃ r, l[k]? = some r := ⟨_, List.getElem?_eq_getElem (by rw [h4.out]; exact hlt)⟩
      obtain ⟨e0, e1, gr⟩ := hs1.at k r hr
      have hd : l.drop k = r :: l.drop (k + 1) := by
        obtain ⟨hk', rfl⟩ := List.getElem?_eq_some_iff.1 hr
        exact List.drop_eq_getElem_cons hk'
      have H0' := H0.out
      rw [hd, List.map_cons, rowsE] at H0'
      have c1 := fun W h => checkRow_any r W h
      unfold Lr.v at c1
      clear H0 hd hr hs1
      by_cases hE : rowE r.rw = 0
      · rw [if_pos hE] at H0'
        rw [hE] at c1
        replace H0' := hide H0'
        clear hE
        go_wp2_with fail
        go_at_call 32
        refine (c1 _ (gr.alloc _)).mono ?_
        rintro e w2 ⟨rfl, b2⟩
        have bel2 := belowCall (belowNew bel _) b2
        go_wp2_with fail
        go_roundw
        case rel => exact ⟨k + 1, by omega, by go_num, H0', bel2⟩
        case measure => simp [intOf]; omega
      · rw [if_neg hE] at H0'
        generalize rowE r.rw = F at *
        replace H0' := hide H0'
        go_wp2_with fail
        go_at_call 32
        refine (c1 _ (gr.alloc _)).mono ?_
        rintro e w2 ⟨rfl, b2⟩
        have bel2 := belowCall (belowNew bel _) b2
        go_wp2_with fail
        go_ret
        exact ⟨by rw [H0'.out]; rfl, bel2⟩
    · obtain rfl : k = 4 := by omega
      have H0' := H0.out
      rw [List.drop_eq_nil_of_le (by rw [h4.out]; exact Nat.le_refl _)] at H0'
      replace H0' := hide H0'
      clear H0
      go_wp2_with fail
      go_ret
      exact ⟨by rw [H0'.out]; rfl, bel⟩

/-- Check, whatever it is handed. -/
theorem sCheck_any (l : List Lr) (ao : Option Addr) (cap : Nat) (w : World) (hs : SlR w ao cap l) :
    Calls Try.prog 14 #[.agg #[.slice ao l.length cap]] w fun e w' => e = .returned (.int .i64 (shelfE (l.map Lr.rw))) ∧ Below w.heap.size w w' := by
  unfold shelfE
  rw [List.length_map]
  by_cases h : l.length = 4
  · rw [if_pos h, h]
    exact sCheck_four l ao cap w hs h
  · rw [if_neg h]
    exact sCheck_no l.length ao cap w h

end Go.Proofs.Ytabeihkfjlmepaa

/-
  Rows of the call's own, and what is left of all that was there when one of them, and then the answer's cell, is written. No function of the program is named.
-/
namespace Go.Proofs.Ytabeihkfjlmepaa
open Go.RowKit

/-- Bits do not lie in a block that holds no bool. -/
theorem Sl.offKind {w : World} {ao : Option Addr} {cap g : Nat} {P : List Bool} {cs : List Value} {t : TypeId} (s : Sl w ao cap (P.map Value.bool)) (B : Blk w g cs t) (hk : ∀ v ∈ cs, ∀ b, v ≠ .bool b) (hP : P ≠ []) : Off g ao := by
  obtain ⟨b, off, rfl, hb, hc⟩ := s.row.at (by simpa using hP)
  intro ad e
  cases e
  intro e
  have e : b = g := e
  subst e
  obtain ⟨p, r, rfl⟩ := List.exists_cons_of_ne_nil hP
  have h0 := hc 0 (.bool p) (by simp)
  rw [B.cell] at h0
  exact hk _ (List.mem_of_getElem? h0) p rfl

/-- Rows that lie in a block of the call's own, empty rows behind them. -/
structure Rows (w : World) (g G : Nat) (l : List Lr) : Prop where
  blk : ∃ L, Blk w g (l.flatMap Lr.cells ++ L) 56 ∧ ∀ v ∈ L, v = .slice none 0 0
  le : l.length ≤ G
  max : G ≤ 9223372036854775807

theorem Rows.lt {w : World} {g G : Nat} {l : List Lr} (h : Rows w g G l) : g < w.heap.size := by
  obtain ⟨L, B, _⟩ := h.blk
  exact B.lt

theorem Rows.free {w : World} {g G : Nat} {l : List Lr} (h : Rows w g G l) (i : Nat) : w.frozen? ⟨g, i, none⟩ = false := by
  obtain ⟨L, B, _⟩ := h.blk
  exact B.free i

theorem Rows.keep {w w' : World} {g G B : Nat} {l : List Lr} (h : Rows w g G l) (hb : Below B w w') (hg : g < B) : Rows w' g G l := by
  obtain ⟨L, b, hL⟩ := h.blk
  exact ⟨⟨L, b.keep hb hg, hL⟩, h.le, h.max⟩

theorem Rows.call {w w' : World} {g G : Nat} {l : List Lr} (h : Rows w g G l) (hb : Below w.heap.size w w') : Rows w' g G l := h.keep hb h.lt

theorem Rows.alloc {w : World} {g G : Nat} {l : List Lr} (h : Rows w g G l) (o : Obj) : Rows (w.alloc o) g G l := by
  obtain ⟨L, b, hL⟩ := h.blk
  exact ⟨⟨L, b.alc o, hL⟩, h.le, h.max⟩

theorem Rows.cells {w : World} {g G : Nat} {l : List Lr} (h : Rows w g G l) (k : Nat) (r : Lr) (hr : l[k]? = some r) :
    w.cell? ⟨g, k * 2, none⟩ = some (.slice r.ba r.bs.length r.bc) ∧ w.cell? ⟨g, k * 2 + 1, none⟩ = some (.slice r.ha r.hd.length r.hc) := by
  obtain ⟨L, B, _⟩ := h.blk
  have hk : k < l.length := (List.getElem?_eq_some_iff.1 hr).1
  have hl := flat_length Lr.two l
  rw [B.cell, B.cell, List.getElem?_append_left (by rw [hl]; omega), List.getElem?_append_left (by rw [hl]; omega)]
  exact ⟨flat_get Lr.two l k 0 r hr (by decide), flat_get Lr.two l k 1 r hr (by decide)⟩

theorem Rows.noBool {w : World} {g G : Nat} {l : List Lr} (h : Rows w g G l) : ∃ cs, Blk w g cs 56 ∧ ∀ v ∈ cs, ∀ b, v ≠ .bool b := by
  obtain ⟨L, B, hL⟩ := h.blk
  refine ⟨_, B, fun v hv b e => ?_⟩
  rcases List.mem_append.1 hv with hv | hv
  · obtain ⟨r, _, hr⟩ := List.mem_flatMap.1 hv
    simp only [Lr.cells, List.mem_cons, List.not_mem_nil, or_false] at hr
    rcases hr with rfl | rfl <;> cases e
  · rw [hL v hv] at e
    cases e

theorem Rows.off {w : World} {g G : Nat} {l : List Lr} (h : Rows w g G l) {ao : Option Addr} {cap : Nat} {P : List Bool} (s : Sl w ao cap (P.map Value.bool)) (hP : P ≠ []) : Off g ao := by
  obtain ⟨cs, B, hk⟩ := h.noBool
  exact s.offKind B hk hP

theorem Rows.put {w : World} {g G : Nat} {l : List Lr} (h : Rows w g G l) (k : Nat) (hk : k < l.length) (x : Lr) :
    Rows ((w.setCell ⟨g, k * 2, none⟩ (.slice x.ba x.bs.length x.bc)).setCell ⟨g, k * 2 + 1, none⟩ (.slice x.ha x.hd.length x.hc)) g G (l.set k x) := by
  obtain ⟨L, B, hL⟩ := h.blk
  have hl := flat_length Lr.two l
  have B2 := (B.set (k * 2) (.slice x.ba x.bs.length x.bc)).set (k * 2 + 1) (.slice x.ha x.hd.length x.hc)
  rw [List.set_append_left _ _ (by rw [hl]; omega), List.set_append_left _ _ (by rw [List.length_set, hl]; omega), flat_set x _ _ rfl Lr.two l k hk] at B2
  exact ⟨⟨L, B2, hL⟩, by rw [List.length_set]; exact h.le, h.max⟩

theorem Rows.other {w : World} {g G : Nat} {l : List Lr} (h : Rows w g G l) (g' i : Nat) (u : Value) (hne : g' ≠ g) : Rows (w.setCell ⟨g', i, none⟩ u) g G l := by
  obtain ⟨L, B, hL⟩ := h.blk
  exact ⟨⟨L, B.other i u hne, hL⟩, h.le, h.max⟩

theorem Rows.slr {w : World} {g G : Nat} {l : List Lr} (h : Rows w g G l) (hg : ∀ r ∈ l, r.Good w) : SlR w (some ⟨g, 0, none⟩) G l := by
  obtain ⟨L, B, _⟩ := h.blk
  refine ⟨⟨B.row 0 _ (fun i v hv => ?_), h.le, h.max, fun e => by cases e⟩, hg⟩
  rw [Nat.zero_add, List.getElem?_append_left (List.getElem?_eq_some_iff.1 hv).1]
  exact hv

/-- One row written, then the answer's cell. -/
abbrev wrote (w : World) (g k : Nat) (x : Lr) (gR : Nat) (c : Value) : World :=
  ((w.setCell ⟨g, k * 2, none⟩ (.slice x.ba x.bs.length x.bc)).setCell ⟨g, k * 2 + 1, none⟩ (.slice x.ha x.hd.length x.hc)).setCell ⟨gR, 0, none⟩ c

theorem wrote_below {B : Nat} {w W : World} (h : Below B w W) {g gR : Nat} (hg : B ≤ g) (hR : B ≤ gR) (k : Nat) (x : Lr) (c : Value) : Below B w (wrote W g k x gR c) :=
  ((h.setCell hg _).setCell hg _).setCell hR _

theorem wrote_own {w : World} {base : Nat} {e : TypeId} {size n : Nat} {v : Value} {xs : List Value} (h : w.ownsRow base e size v n xs) {g gR : Nat} (hg : g < base) (hR : gR < base) (k : Nat) (x : Lr) (c : Value) : (wrote w g k x gR c).ownsRow base e size v n xs := by
  have ne : ∀ j, j < base → v.ownBlock = none ∨ v.ownBlock ≠ some j := by
    intro j hj
    cases hv : v.ownBlock with
    | none => exact .inl rfl
    | some b =>
      refine .inr (fun e => ?_)
      have := (h.lt b hv).1
      have : b = j := Option.some.inj e
      omega
  have h1 := h.kept (row := some g) (grownSet (grownSet (grownRefl w (some g)) (k * 2) (.slice x.ba x.bs.length x.bc)) (k * 2 + 1) (.slice x.ha x.hd.length x.hc)) (ne g hg)
  exact h1.kept (row := some gR) (grownSet (grownRefl _ (some gR)) 0 c) (ne gR hR)

theorem wrote_bits {w : World} {ao : Option Addr} {cap g G gR : Nat} {P : List Bool} {l : List Lr} {cs : List Value} {t : TypeId} (s : Sl w ao cap (P.map Value.bool)) (rows : Rows w g G l) (BR : Blk w gR cs t) (hk : ∀ v ∈ cs, ∀ b, v ≠ .bool b) (k : Nat) (x : Lr) (c : Value) : Sl (wrote w g k x gR c) ao cap (P.map Value.bool) := by
  by_cases hP : P = []
  · subst hP
    exact ⟨.inl rfl, s.le, s.max, s.nil⟩
  · have o1 := rows.off s hP
    have o2 := s.offKind BR hk hP
    have s1 := s.off (grownSet (grownSet (grownRefl w (some g)) (k * 2) (.slice x.ba x.bs.length x.bc)) (k * 2 + 1) (.slice x.ha x.hd.length x.hc)) o1
    exact s1.off (grownSet (grownRefl _ (some gR)) 0 c) o2

theorem wrote_rows {w W : World} {g G gR : Nat} {l : List Lr} (rows : Rows W g G l) (hne : gR ≠ g) (k : Nat) (hk : k < l.length) (x : Lr) (c : Value) (hb : Below w.heap.size w (wrote W g k x gR c)) (hg : ∀ r ∈ l, r.Good w) (hx : x.Good (wrote W g k x gR c)) :
    SlR (wrote W g k x gR c) (some ⟨g, 0, none⟩) G (l.set k x) := by
  refine ((rows.put k hk x).other gR 0 c hne).slr (fun r hr => ?_)
  rcases List.mem_or_eq_of_mem_set hr with h | rfl
  · exact (hg r h).keep hb (Nat.le_refl _)
  · exact hx

end Go.Proofs.Ytabeihkfjlmepaa
