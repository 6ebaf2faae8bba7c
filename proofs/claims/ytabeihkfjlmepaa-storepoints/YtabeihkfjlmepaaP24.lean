/-
  rainbookref.PointsOf: what it answers, whatever it is handed; nothing that was there is written.
-/
import Derived.Deep.DeepAppendWide
import Derived.Laws.AppendOwnNone
import Derived.Test.YtabeihkfjlmepaaP05
import Derived.Test.YtabeihkfjlmepaaHRefUnpack
import Derived.Test.YtabeihkfjlmepaaP06
import Derived.Test.YtabeihkfjlmepaaP01
namespace Go.Proofs.Ytabeihkfjlmepaa
open Go.RowKit

set_option maxHeartbeats 400000 in
set_option maxRecDepth 100000 in
theorem refPoints_err (b : Bk) (ao : Option Addr) (cap : Nat) (w : World) (hr : Sl w ao cap (b.bits.map Value.bool)) (hl : b.bits.length ≤ 140737488355328) (h : ¬ unpE b.bits b.n = 0) :
    Calls Try.prog 63 #[bkV b ao cap] w fun e w' => e = .returned (.tuple #[.slice none 0 0, .int .i64 (unpE b.bits b.n)]) ∧ Below w.heap.size w w' := by
  have c1 := fun W h => refUnpack_any ao cap b.bits b.n W h
  obtain ⟨N, fr, tT, X⟩ := b
  unfold bkV
  simp only at *
  generalize unpL X N = U at *
  generalize unpE X N = E at *
  clear hl
  have hz : (E == 0) = false := by simpa using h
  go_enter Try.func63, Try.ntmps63
  go_wp2_with fail
  go_at_call 79
  refine (c1 _ (hr.alloc _)).mono ?_
  rintro e w1 ⟨a1, G1, rfl, s1, b1⟩
  have bel := belowCall ((Below.refl _ _).alloc (Nat.le_refl _) _) b1
  clear c1 b1
  go_wp2_with fail
  go_quiet (fail)
  go_wp2_with fail
  go_ret2
  exact ⟨rfl, belowDrewN bel _⟩

set_option maxHeartbeats 400000 in
set_option maxRecDepth 100000 in
theorem refPoints_none (b : Bk) (ao : Option Addr) (cap : Nat) (w : World) (hr : Sl w ao cap (b.bits.map Value.bool)) (hl : b.bits.length ≤ 140737488355328) (h : unpE b.bits b.n = 0) (h0 : (unpL b.bits b.n).length = 0) :
    Calls Try.prog 63 #[bkV b ao cap] w fun e w' => e = .returned (.tuple #[.slice none 0 0, .int .i64 4]) ∧ Below w.heap.size w w' := by
  have c1 := fun W h => refUnpack_any ao cap b.bits b.n W h
  obtain ⟨N, fr, tT, X⟩ := b
  unfold bkV
  simp only at *
  rw [h, h0] at c1
  generalize unpL X N = U at *
  clear hl h h0
  go_enter Try.func63, Try.ntmps63
  go_wp2_with fail
  go_at_call 79
  refine (c1 _ (hr.alloc _)).mono ?_
  rintro e w1 ⟨a1, G1, rfl, s1, b1⟩
  have bel := belowCall ((Below.refl _ _).alloc (Nat.le_refl _) _) b1
  clear c1 b1
  go_wp2_with fail
  go_quiet (fail)
  go_wp2_with fail
  go_ret2
  exact ⟨rfl, belowDrewN bel _⟩

set_option maxHeartbeats 400000 in
set_option maxRecDepth 100000 in
theorem refPoints_some (b : Bk) (ao : Option Addr) (cap : Nat) (w : World) (hr : Sl w ao cap (b.bits.map Value.bool)) (hl : b.bits.length ≤ 140737488355328) (h : unpE b.bits b.n = 0) (h0 : 0 < (unpL b.bits b.n).length) :
    Calls Try.prog 63 #[bkV b ao cap] w fun e w' => ∃ a' G, e = .returned (.tuple #[if fitsB b (unpL b.bits b.n) = true then .slice a' (unpL b.bits b.n).length G else .slice none 0 0, .int .i64 (if fitsB b (unpL b.bits b.n) = true then 0 else 4)]) ∧ SlP w' a' G (unpL b.bits b.n) ∧ Below w.heap.size w w' := by
  have c1 := fun W h => refUnpack_any ao cap b.bits b.n W h
  have h40 := unpL_length b.bits b.n
  obtain ⟨N, fr, tT, X⟩ := b
  unfold bkV fitsB
  simp only at *
  rw [h] at c1
  generalize unpL X N = U at *
  have s0 := fun W b off cap (h : SlP W (some ⟨b, off, none⟩) cap U) => h.first h0
  have s1 := fun W b off cap (h : SlP W (some ⟨b, off, none⟩) cap U) => h.last h0
  have hne : U ≠ [] := by intro e; rw [e] at h0; simp at h0
  generalize firstT U = P at *
  generalize endT U = Q at *
  obtain ⟨n, hn⟩ : ∃ n, n + 1 = U.length := ⟨U.length - 1, by omega⟩
  rw [← hn] at c1 s1 h40 ⊢
  simp only [Nat.add_sub_cancel] at s1
  clear hl h h0 hn
  have fin : decide (0 < n + 1 ∧ fr = P ∧ tT = Q) = decide (fr = P ∧ tT = Q) := by simp
  rw [fin]
  clear fin
  have hz : ((n : Int) + 1 == 0) = false := by simp; omega
  by_cases g1 : fr = P
  · subst g1
    by_cases g2 : tT = Q
    · subst g2
      rw [show decide (fr = fr ∧ tT = tT) = true by simp]
      simp only [if_true]
      go_enter Try.func63, Try.ntmps63
      go_wp2_with fail
      go_at_call 79
      refine (c1 _ (hr.alloc _)).mono ?_
      rintro e w1 ⟨a1, G1, rfl, t1, b1⟩
      have B0 := (Blk.laid w [.int .i64 N, .int .i64 fr, .int .i64 tT, .slice ao X.length cap] 60 _ rfl).keep b1 (by simp)
      have bel := belowCall ((Below.refl _ _).alloc (Nat.le_refl _) _) b1
      obtain ⟨ub, uo, rfl, hub⟩ := t1.where hne
      have e0 := s0 _ _ _ _ t1
      have e1 := s1 _ _ _ _ t1
      have d1 : w1.cell? ⟨w.heap.size, 1, none⟩ = some (.int .i64 fr) := B0.cell 1
      have d2 : w1.cell? ⟨w.heap.size, 2, none⟩ = some (.int .i64 tT) := B0.cell 2
      have hgl := B0.lt
      clear c1 b1 s0 s1
      go_wp2_with fail
      go_region
      go_wp2_with fail
      go_ret2
      exact ⟨_, _, rfl, t1.drewS, belowDrew bel⟩
    · rw [show decide (fr = fr ∧ tT = Q) = false by simp [g2]]
      simp only [Bool.false_eq_true, if_false]
      go_enter Try.func63, Try.ntmps63
      go_wp2_with fail
      go_at_call 79
      refine (c1 _ (hr.alloc _)).mono ?_
      rintro e w1 ⟨a1, G1, rfl, t1, b1⟩
      have B0 := (Blk.laid w [.int .i64 N, .int .i64 fr, .int .i64 tT, .slice ao X.length cap] 60 _ rfl).keep b1 (by simp)
      have bel := belowCall ((Below.refl _ _).alloc (Nat.le_refl _) _) b1
      obtain ⟨ub, uo, rfl, hub⟩ := t1.where hne
      have e0 := s0 _ _ _ _ t1
      have e1 := s1 _ _ _ _ t1
      have d1 : w1.cell? ⟨w.heap.size, 1, none⟩ = some (.int .i64 fr) := B0.cell 1
      have d2 : w1.cell? ⟨w.heap.size, 2, none⟩ = some (.int .i64 tT) := B0.cell 2
      have hgl := B0.lt
      clear c1 b1 s0 s1
      go_wp2_with fail
      go_region
      go_wp2_with fail
      go_ret2
      exact ⟨_, _, rfl, t1.drewS, belowDrew bel⟩
  · rw [show decide (fr = P ∧ tT = Q) = false by simp [g1]]
    simp only [Bool.false_eq_true, if_false]
    go_enter Try.func63, Try.ntmps63
    go_wp2_with fail
    go_at_call 79
    refine (c1 _ (hr.alloc _)).mono ?_
    rintro e w1 ⟨a1, G1, rfl, t1, b1⟩
    have B0 := (Blk.laid w [.int .i64 N, .int .i64 fr, .int .i64 tT, .slice ao X.length cap] 60 _ rfl).keep b1 (by simp)
    have bel := belowCall ((Below.refl _ _).alloc (Nat.le_refl _) _) b1
    obtain ⟨ub, uo, rfl, hub⟩ := t1.where hne
    have e0 := s0 _ _ _ _ t1
    have e1 := s1 _ _ _ _ t1
    have d1 : w1.cell? ⟨w.heap.size, 1, none⟩ = some (.int .i64 fr) := B0.cell 1
    have d2 : w1.cell? ⟨w.heap.size, 2, none⟩ = some (.int .i64 tT) := B0.cell 2
    have hgl := B0.lt
    clear c1 b1 s0 s1
    go_wp2_with fail
    go_quiet (fail)
    go_wp2_with fail
    go_ret2
    exact ⟨_, _, rfl, t1.drewN _, belowDrewN bel _⟩

/-- PointsOf, whatever it is handed. -/
theorem refPoints_any (b : Bk) (ao : Option Addr) (cap : Nat) (w : World) (hr : Sl w ao cap (b.bits.map Value.bool)) (hl : b.bits.length ≤ 140737488355328) :
    Calls Try.prog 63 #[bkV b ao cap] w fun e w' => ∃ a' G, e = .returned (.tuple #[.slice a' (ptsL b).length G, .int .i64 (ptsE b)]) ∧ SlP w' a' G (ptsL b) ∧ Below w.heap.size w w' := by
  by_cases h : unpE b.bits b.n = 0
  · by_cases h0 : (unpL b.bits b.n).length = 0
    · have hf : fitsB b (unpL b.bits b.n) = false := decide_eq_false (by omega)
      have he : ptsE b = 4 := by unfold ptsE; rw [if_pos h, hf]; rfl
      have hL : ptsL b = [] := by unfold ptsL; rw [he]; rfl
      rw [he, hL]
      refine (refPoints_none b ao cap w hr hl h h0).mono ?_
      rintro e w' ⟨rfl, hb⟩
      exact ⟨none, 0, rfl, SlP.ofNil _, hb⟩
    · cases hf : fitsB b (unpL b.bits b.n) with
      | true =>
        have he : ptsE b = 0 := by unfold ptsE; rw [if_pos h, hf]; rfl
        have hL : ptsL b = unpL b.bits b.n := by unfold ptsL; rw [he]; rfl
        rw [he, hL]
        refine (refPoints_some b ao cap w hr hl h (by omega)).mono ?_
        rw [hf]
        rintro e w' ⟨a', G, rfl, hs, hb⟩
        exact ⟨a', G, rfl, hs, hb⟩
      | false =>
        have he : ptsE b = 4 := by unfold ptsE; rw [if_pos h, hf]; rfl
        have hL : ptsL b = [] := by unfold ptsL; rw [he]; rfl
        rw [he, hL]
        refine (refPoints_some b ao cap w hr hl h (by omega)).mono ?_
        rw [hf]
        rintro e w' ⟨a', G, rfl, hs, hb⟩
        exact ⟨none, 0, rfl, SlP.ofNil _, hb⟩
  · have he : ptsE b = unpE b.bits b.n := if_neg h
    have hL : ptsL b = [] := by unfold ptsL; rw [he, if_neg h]
    rw [he, hL]
    refine (refPoints_err b ao cap w hr hl h).mono ?_
    rintro e w' ⟨rfl, hb⟩
    exact ⟨none, 0, rfl, SlP.ofNil _, hb⟩

end Go.Proofs.Ytabeihkfjlmepaa

/-
  rainbookref.RowPoints: what it answers of a row, whatever it is; nothing that was there is written.
-/
namespace Go.Proofs.Ytabeihkfjlmepaa
open Go.RowKit

set_option maxHeartbeats 400000 in
set_option maxRecDepth 100000 in
theorem refRow_many (r : Lr) (w : World) (h : 8 < r.bs.length) (hf : r.bs.length ≤ 140737488355328) :
    Calls Try.prog 47 #[r.v] w fun e w' => e = .returned (.tuple #[.slice none 0 0, .int .i64 2]) ∧ Below w.heap.size w w' := by
  obtain ⟨bs, ba, bc, hd, ha, hc⟩ := r
  unfold Lr.v
  simp only at *
  generalize bs.length = n at *
  generalize hd.length = m at *
  have h' : (8 : Int) < n := by omega
  go_enter Try.func47, Try.ntmps47
  go_wp2_with fail
  go_ret2
  exact ⟨rfl, (Below.refl _ _).alloc (Nat.le_refl _) _⟩

set_option maxHeartbeats 400000 in
set_option maxRecDepth 100000 in
theorem refRow_few (r : Lr) (w : World) (hg : r.Good w) (h : r.bs.length ≤ 8) :
    Calls Try.prog 47 #[r.v] w fun e w' => ∃ a' G, e = .returned (.tuple #[.slice a' (rowL r.rw).length G, .int .i64 (rowE r.rw)]) ∧ SlP w' a' G (rowL r.rw) ∧ Below w.heap.size w w' := by
  obtain ⟨L, hL⟩ : ∃ L, L = rowL r.rw := ⟨_, rfl⟩
  obtain ⟨E, hE⟩ : ∃ E, E = rowE r.rw := ⟨_, rfl⟩
  rw [← hL, ← hE]
  have hE1 : E = if blksE (r.bs.map Lb.b) = 0 then checkE (blksL (r.bs.map Lb.b) ++ r.hd) else blksE (r.bs.map Lb.b) := by
    rw [hE]; unfold rowE; rw [if_neg (by unfold Lr.rw; simp only [List.length_map]; omega)]; rfl
  have hL1 : L = if E = 0 then blksL (r.bs.map Lb.b) ++ r.hd else [] := by rw [hL]; unfold rowL; rw [← hE]; rfl
  clear hL hE
  obtain ⟨bs, ba, bc, hd, ha, hc⟩ := r
  obtain ⟨sb, sh, -, hfew⟩ := hg
  unfold Lr.v
  simp only at *
  obtain ⟨n, hn⟩ : ∃ n, n = bs.length := ⟨_, rfl⟩
  obtain ⟨m, hm⟩ : ∃ m, m = hd.length := ⟨_, rfl⟩
  rw [← hn] at h ⊢
  rw [← hm] at hfew ⊢
  have h' : (n : Int) ≤ 8 := by omega
  replace hn := hide hn
  replace hm := hide hm
  have H0 : Hid (E = if blksE ((bs.drop 0).map Lb.b) = 0 then checkE (([] ++ blksL ((bs.drop 0).map Lb.b)) ++ hd) else blksE ((bs.drop 0).map Lb.b)) := by rw [List.drop_zero, List.nil_append]; exact hE1
  have H1 : Hid (L = if E = 0 then ([] ++ blksL ((bs.drop 0).map Lb.b)) ++ hd else []) := by rw [List.drop_zero, List.nil_append]; exact hL1
  clear hE1 hL1
  obtain ⟨i0, hi, hz0, hz1, hz2⟩ := info_parts infoPoint
  go_enter Try.func47, Try.ntmps47
  go_wp2_with fail
  have B0 := Blk.laid w [.slice ba n bc, .slice ha m hc] 56 _ rfl
  have bel0 : Below w.heap.size w (w.alloc (.cells #[.slice ba n bc, .slice ha m hc] 56)) := (Below.refl _ _).alloc (Nat.le_refl _) _
  generalize w.alloc _ = w1 at *
  go_loopw [17, 4] (fun i o wr => ∃ (k G : Nat) (a' : Option Addr) (O : List Pt), k ≤ n ∧ i = .int .i64 k ∧ o = .slice a' O.length G ∧ O.length ≤ 40 * k ∧ wr.ownsRow (w.heap.size + 1) 43 2 (.slice a' O.length G) O.length (cellsP O) ∧
      Hid (E = if blksE ((bs.drop k).map Lb.b) = 0 then checkE ((O ++ blksL ((bs.drop k).map Lb.b)) ++ hd) else blksE ((bs.drop k).map Lb.b)) ∧ Hid (L = if E = 0 then (O ++ blksL ((bs.drop k).map Lb.b)) ++ hd else []) ∧
      Blk wr w.heap.size [.slice ba n bc, .slice ha m hc] 56 ∧ Below w.heap.size w wr) (fun i _ _ => n - (intOf i).toNat)
  case atStart => exact ⟨0, 0, none, [], by omega, rfl, rfl, by simp, World.ownsRow_nil _ _ _ _, H0, H1, B0, bel0⟩
  case round =>
    clear H0 H1 B0 bel0
    obtain ⟨k, G, a', O, hk, rfl, rfl, hO, own, H0, H1, B, bel⟩ := hrel
    by_cases hlt : k < n
    · have hs := sb.keep bel (Nat.le_refl _)
      obtain ⟨b, off, rfl, hbw⟩ := hs.where (by intro e; rw [hn.out, e] at hlt; simp at hlt)
      obtain ⟨x, hx⟩ : ∃ x, bs[k]? = some x := ⟨_, List.getElem?_eq_getElem (by rw [← hn.out]; exact hlt)⟩
      obtain ⟨e0, e1, e2, e3, gx⟩ := hs.at k x hx
      have hd : bs.drop k = x :: bs.drop (k + 1) := by
        obtain ⟨hk', rfl⟩ := List.getElem?_eq_some_iff.1 hx
        exact List.drop_eq_getElem_cons hk'
      have H0' := H0.out
      have H1' := H1.out
      rw [hd, List.map_cons] at H0' H1'
      clear H0 H1 hd hx
      obtain ⟨⟨xn, xf, xT, X⟩, xa, xc⟩ := x
      obtain ⟨gb, gf⟩ := gx
      simp only at *
      have c1 := fun W h => refPoints_any ⟨xn, xf, xT, X⟩ xa xc W h gf
      have pl := ptsL_length ⟨xn, xf, xT, X⟩
      by_cases hp : ptsE ⟨xn, xf, xT, X⟩ = 0
      · have pp := ptsL_pos hp
        rw [blksE, if_pos hp, show blksL (⟨xn, xf, xT, X⟩ :: (bs.drop (k + 1)).map Lb.b) = ptsL ⟨xn, xf, xT, X⟩ ++ blksL ((bs.drop (k + 1)).map Lb.b) from rfl, ← List.append_assoc] at H0'
        rw [show blksL (⟨xn, xf, xT, X⟩ :: (bs.drop (k + 1)).map Lb.b) = ptsL ⟨xn, xf, xT, X⟩ ++ blksL ((bs.drop (k + 1)).map Lb.b) from rfl, ← List.append_assoc] at H1'
        rw [hp] at c1
        generalize ptsL ⟨xn, xf, xT, X⟩ = P at *
        replace H0' := hide H0'
        replace H1' := hide H1'
        have hPc := cellsP_length P
        have hPo := cellsP_one P
        have hPn : P ≠ [] := by intro e; rw [e] at pp; simp at pp
        have hOP : (O ++ P).length = O.length + P.length := List.length_append
        have hcat := cellsP_append O P
        obtain ⟨on, hon⟩ : ∃ on, on = O.length := ⟨_, rfl⟩
        obtain ⟨pn, hpn⟩ : ∃ pn, pn = P.length := ⟨_, rfl⟩
        rw [← hon] at own hO hOP
        rw [← hpn] at c1 pp pl hPc hOP
        replace hPc := hide hPc
        replace hOP := hide hOP
        replace hcat := hide hcat
        replace hon := hide hon
        clear hpn hp
        rw [← hon.out]
        unfold bkV at c1
        simp only at c1
        go_wp2_with fail
        go_at_call 63
        refine (c1 _ (gb.alloc _)).mono ?_
        rintro e w2 ⟨a2, G2, rfl, s2, b2⟩
        have own2 := ownCall (own.alloc _) b2
        have B2 := (B.alc _).keep b2 (B.alc _).lt
        have bel2 := belowCall (belowNew bel _) b2
        have hsz : w.heap.size + 1 ≤ w2.heap.size := B2.lt
        obtain ⟨yb, yo, rfl, hyb⟩ := s2.where hPn
        have ysrc : ∀ j u, (cellsP P)[j]? = some u → w2.cell? ((⟨yb, yo, none⟩ : Addr).add j) = some u := by
          intro j u hu
          obtain ⟨b', off', e, _, hc⟩ := s2.row.at (by intro e; rw [e] at hu; simp at hu)
          simp only [Option.some.injEq, Addr.mk.injEq, and_true] at e
          obtain ⟨rfl, rfl⟩ := e
          rw [Addr.add_lit]
          exact hc j u hu
        clear c1 b2 own B bel s2 e0 e1 e2 e3
        go_wp2_with (at_builtin; refine wpList_append_went _ rfl (.tmp 29) (.tmp 30) 37 rfl (w.heap.size + 1) 43 i0 (.agg #[.int .i64 0, .int .i64 0]) 2 16 Try.underlying37 hi hz0 hz1 hz2 rfl (by decide) _ on _ rfl own2 ⟨yb, yo, none⟩ pn _ (cellsP P) rfl hPc.out ysrc hPo pp (by unfold maxLen; omega) (by omega) hsz ?_)
        intro v3 w3 own3 grow3 _
        have bel3 := belowGrown bel2 own2 grow3 (Nat.le_succ _) bel2.size
        have B3 := B2.grown grow3 (fun j hj => by have := (own2.lt j hj).1; omega)
        rw [← hcat.out] at own3
        obtain ⟨a3, G3, rfl, _, _, _⟩ := SlP.ofOwn own3
        go_wp2_with fail
        go_roundw
        case rel => exact ⟨k + 1, G3, a3, O ++ P, by omega, by go_num, by rw [hOP.out], by rw [hOP.out]; omega, by rw [hOP.out]; exact own3, H0', H1', B3, bel3⟩
        case measure => simp [intOf]; omega
      · have e1' : E = ptsE ⟨xn, xf, xT, X⟩ := by rw [H0', blksE, if_neg hp]; simp [hp]
        have e2' : L = [] := by rw [H1', e1', if_neg hp]
        clear H0' H1'
        generalize ptsE ⟨xn, xf, xT, X⟩ = F at *
        generalize ptsL ⟨xn, xf, xT, X⟩ = P at *
        replace e1' := hide e1'
        replace e2' := hide e2'
        clear pl
        unfold bkV at c1
        simp only at c1
        go_wp2_with fail
        go_at_call 63
        refine (c1 _ (gb.alloc _)).mono ?_
        rintro e w2 ⟨a2, G2, rfl, s2, b2⟩
        have bel2 := belowCall (belowNew bel _) b2
        go_wp2_with fail
        go_ret2
        exact ⟨none, 0, by rw [e1'.out, e2'.out]; rfl, by rw [e2'.out]; exact SlP.ofNil _, bel2⟩
    · obtain rfl : k = n := by omega
      have H0' := H0.out
      have H1' := H1.out
      rw [hn.out, List.drop_length] at H0' H1'
      simp only [List.map_nil, blksE, blksL, List.flatMap_nil, List.append_nil, if_true] at H0' H1'
      clear H0 H1
      have e1 : w.heap.size < wr.heap.size := B.lt
      have d1 : wr.cell? ⟨w.heap.size, 1, none⟩ = some (.slice ha m hc) := B.cell 1
      have sh1 := sh.keep bel (Nat.le_refl _)
      have c2 := fun a c W h => refCheck_any a c (O ++ hd) W h
      rw [← H0', List.length_append, ← hm.out] at c2
      have hcat := cellsP_append O hd
      have hdc := cellsP_length hd
      have hdo := cellsP_one hd
      rw [← hm.out] at hdc
      obtain ⟨on, hon⟩ : ∃ on, on = O.length := ⟨_, rfl⟩
      rw [← hon] at own hO c2 ⊢
      have hlen : (O ++ hd).length = on + m := by rw [List.length_append, ← hon, ← hm.out]
      replace hlen := hide hlen
      replace hcat := hide hcat
      replace hdc := hide hdc
      replace H0' := hide H0'
      replace H1' := hide H1'
      clear hon
      cases ha with
      | none =>
        have h1 := sh1.nil rfl
        have h2 := sh1.le
        have h3 : hd = [] := List.eq_nil_of_length_eq_zero (by omega)
        obtain rfl : m = 0 := by rw [hm.out, h3]; rfl
        subst h1
        have own' : wr.ownsRow (w.heap.size + 1) 43 2 (.slice a' on G) on (cellsP (O ++ hd)) := by rw [h3, List.append_nil]; exact own
        obtain ⟨a3, G3, e3, s3, _, _⟩ := SlP.ofOwn own'
        simp only [Value.slice.injEq, true_and] at e3
        obtain ⟨rfl, rfl⟩ := e3
        have bel3 := bel
        replace h3 := hide h3
        clear h2 own'
        go_wp2_with (at_builtin; refine wpList_append_own_none rfl (.tmp 33) (.tmp 35) 37 rfl (w.heap.size + 1) 43 i0 2 Try.underlying37 hi _ on _ rfl own rfl ?_)
        go_wp2_with fail
        go_at_call 64
        refine (c2 _ _ _ s3).mono ?_
        rintro e w4 ⟨rfl, b4⟩
        have bel4 := belowCall bel3 b4
        have s4 := s3.call b4
        by_cases hE : E = 0
        · have eL : L = O ++ hd := by rw [H1'.out, if_pos hE]
          have zE := hide hE
          replace eL := hide eL
          have hz : (E == 0) = true := by simpa using hE
          clear hE
          go_wp2_with fail
          go_ret2
          exact ⟨_, _, by rw [eL.out, hlen.out, zE.out]; rfl, by rw [eL.out]; exact s4, bel4⟩
        · have eL : L = [] := by rw [H1'.out, if_neg hE]
          replace eL := hide eL
          go_wp2_with fail
          go_ret2
          exact ⟨none, 0, by rw [eL.out]; rfl, by rw [eL.out]; exact SlP.ofNil _, bel4⟩
      | some ad =>
        have ysrc : ∀ j u, (cellsP hd)[j]? = some u → wr.cell? (ad.add j) = some u := by
          intro j u hu
          obtain ⟨b', off', e, _, hc⟩ := sh1.row.at (by intro e; rw [e] at hu; simp at hu)
          obtain rfl := Option.some.inj e
          rw [Addr.add_lit]
          exact hc j u hu
        go_wp2_with (at_builtin; refine wpList_append_own_wide _ rfl (.tmp 33) (.tmp 35) 37 rfl (w.heap.size + 1) 43 i0 (.agg #[.int .i64 0, .int .i64 0]) 2 16 Try.underlying37 hi hz0 hz1 hz2 rfl (by decide) _ on _ rfl own ad m _ (cellsP hd) rfl hdc.out ysrc hdo (by unfold maxLen; omega) (by omega) e1 ?_)
        intro v3 w3 own3 grow3 _
        have bel3 := belowGrown bel own grow3 (Nat.le_succ _) bel.size
        rw [← hcat.out] at own3
        obtain ⟨a3, G3, rfl, s3, _, _⟩ := SlP.ofOwn own3
        clear own3 grow3 own
        go_wp2_with fail
        go_at_call 64
        refine (c2 _ _ _ s3).mono ?_
        rintro e w4 ⟨rfl, b4⟩
        have bel4 := belowCall bel3 b4
        have s4 := s3.call b4
        by_cases hE : E = 0
        · have eL : L = O ++ hd := by rw [H1'.out, if_pos hE]
          have zE := hide hE
          replace eL := hide eL
          have hz : (E == 0) = true := by simpa using hE
          clear hE
          go_wp2_with fail
          go_ret2
          exact ⟨_, _, by rw [eL.out, hlen.out, zE.out]; rfl, by rw [eL.out]; exact s4, bel4⟩
        · have eL : L = [] := by rw [H1'.out, if_neg hE]
          replace eL := hide eL
          go_wp2_with fail
          go_ret2
          exact ⟨none, 0, by rw [eL.out]; rfl, by rw [eL.out]; exact SlP.ofNil _, bel4⟩

/-- RowPoints, whatever it is handed. -/
theorem refRow_any (r : Lr) (w : World) (hg : r.Good w) :
    Calls Try.prog 47 #[r.v] w fun e w' => ∃ a' G, e = .returned (.tuple #[.slice a' (rowL r.rw).length G, .int .i64 (rowE r.rw)]) ∧ SlP w' a' G (rowL r.rw) ∧ Below w.heap.size w w' := by
  by_cases h : r.bs.length ≤ 8
  · exact refRow_few r w hg h
  · have hE : rowE r.rw = 2 := by unfold rowE; rw [if_pos (by unfold Lr.rw; simp only [List.length_map]; omega)]
    have hL : rowL r.rw = [] := by unfold rowL; rw [hE]; rfl
    rw [hE, hL]
    refine (refRow_many r w (by omega) hg.few).mono ?_
    rintro e w' ⟨rfl, hb⟩
    exact ⟨none, 0, rfl, SlP.ofNil _, hb⟩

end Go.Proofs.Ytabeihkfjlmepaa

/-
  rainbookref.CheckShelf: what it answers of a shelf, whatever it is; nothing that was there is written.
-/
namespace Go.Proofs.Ytabeihkfjlmepaa
open Go.RowKit

set_option maxHeartbeats 400000 in
set_option maxRecDepth 100000 in
theorem refShelf_no (n : Nat) (ao : Option Addr) (cap : Nat) (w : World) (h : n ≠ 4) :
    Calls Try.prog 21 #[.agg #[.slice ao n cap]] w fun e w' => e = .returned (.int .i64 4) ∧ Below w.heap.size w w' := by
  have h' : ¬ (n : Int) = 4 := by omega
  go_enter Try.func21, Try.ntmps21
  go_wp2_with fail
  go_ret
  exact ⟨rfl, (Below.refl _ _).alloc (Nat.le_refl _) _⟩

set_option maxHeartbeats 400000 in
set_option maxRecDepth 100000 in
theorem refShelf_four (l : List Lr) (ao : Option Addr) (cap : Nat) (w : World) (hs : SlR w ao cap l) (h4 : l.length = 4) :
    Calls Try.prog 21 #[.agg #[.slice ao 4 cap]] w fun e w' => e = .returned (.int .i64 (rowsE (l.map Lr.rw))) ∧ Below w.heap.size w w' := by
  obtain ⟨E, hE⟩ : ∃ E, E = rowsE (l.map Lr.rw) := ⟨_, rfl⟩
  rw [← hE]
  have H0 : Hid (E = rowsE ((l.drop 0).map Lr.rw)) := by rw [List.drop_zero]; exact hE
  clear hE
  obtain ⟨b, off, rfl, hbw⟩ := hs.where (by intro e; rw [e] at h4; simp at h4)
  replace h4 := hide h4
  go_enter Try.func21, Try.ntmps21
  go_wp2_with fail
  have B0 := Blk.laid w [.slice (some ⟨b, off, none⟩) 4 cap] 24 _ rfl
  have bel0 : Below w.heap.size w (w.alloc (.cells #[.slice (some ⟨b, off, none⟩) 4 cap] 24)) := (Below.refl _ _).alloc (Nat.le_refl _) _
  generalize w.alloc _ = w1 at *
  go_loopw [14] (fun i wr => ∃ (k : Nat), k ≤ 4 ∧ i = .int .i64 k ∧ Hid (E = rowsE ((l.drop k).map Lr.rw)) ∧ Below w.heap.size w wr) (fun i _ => 4 - (intOf i).toNat)
  case atStart => exact ⟨0, by omega, rfl, H0, bel0⟩
  case round =>
    clear H0 B0 bel0
    obtain ⟨k, hk, rfl, H0, bel⟩ := hrel
    by_cases hlt : k < 4
    · have hs1 := hs.keep bel (Nat.le_refl _)
      obtain ⟨r, hr⟩ : ∃ r, l[k]? = some r := ⟨_, List.getElem?_eq_getElem (by rw [h4.out]; exact hlt)⟩
      obtain ⟨e0, e1, gr⟩ := hs1.at k r hr
      have hd : l.drop k = r :: l.drop (k + 1) := by
        obtain ⟨hk', rfl⟩ := List.getElem?_eq_some_iff.1 hr
        exact List.drop_eq_getElem_cons hk'
      have H0' := H0.out
      rw [hd, List.map_cons, rowsE] at H0'
      have c1 := fun W h => refRow_any r W h
      unfold Lr.v at c1
      clear H0 hd hr hs1
      by_cases hE : rowE r.rw = 0
      · rw [if_pos hE] at H0'
        rw [hE] at c1
        replace H0' := hide H0'
        generalize rowL r.rw = L at *
        clear hE
        go_wp2_with fail
        go_at_call 47
        refine (c1 _ (gr.alloc _)).mono ?_
        rintro e w2 ⟨a2, G2, rfl, s2, b2⟩
        have bel2 := belowCall (belowNew bel _) b2
        go_wp2_with fail
        go_roundw
        case rel => exact ⟨k + 1, by omega, by go_num, H0', bel2⟩
        case measure => simp [intOf]; omega
      · rw [if_neg hE] at H0'
        generalize rowL r.rw = L at *
        generalize rowE r.rw = F at *
        replace H0' := hide H0'
        go_wp2_with fail
        go_at_call 47
        refine (c1 _ (gr.alloc _)).mono ?_
        rintro e w2 ⟨a2, G2, rfl, s2, b2⟩
        have bel2 := belowCall (belowNew bel _) b2
        go_wp2_with fail
        go_ret
        exact ⟨by rw [H0'.out]; rfl, bel2⟩
    · obtain rfl : k = 4 := by omega
      have H0' := H0.out
      rw [List.drop_eq_nil_of_le (by rw [h4.out]; exact Nat.le_refl _)] at H0'
      replace H0' := hide H0'
      clear H0
      go_wp2_with fail
      go_ret
      exact ⟨by rw [H0'.out]; rfl, bel⟩

/-- CheckShelf, whatever it is handed. -/
theorem refShelf_any (l : List Lr) (ao : Option Addr) (cap : Nat) (w : World) (hs : SlR w ao cap l) :
    Calls Try.prog 21 #[.agg #[.slice ao l.length cap]] w fun e w' => e = .returned (.int .i64 (shelfE (l.map Lr.rw))) ∧ Below w.heap.size w w' := by
  unfold shelfE
  rw [List.length_map]
  by_cases h : l.length = 4
  · rw [if_pos h, h]
    exact refShelf_four l ao cap w hs h
  · rw [if_neg h]
    exact refShelf_no l.length ao cap w h

end Go.Proofs.Ytabeihkfjlmepaa

/-
  slices.Equal, at bools: it returns whether the two lists are the same; it only reads.
-/
namespace Go.Proofs.Ytabeihkfjlmepaa
open Go.RowKit

set_option maxHeartbeats 1000000 in
set_option maxRecDepth 100000 in
theorem equalBool (a1 a2 : Option Addr) (c1 c2 : Nat) (l m : List Bool) (w : World) (r1 : Row w a1 (l.map Value.bool)) (r2 : Row w a2 (m.map Value.bool)) (hl : l.length ≤ 4611686018427387904) (hm : m.length ≤ 4611686018427387904) :
    Calls Try.prog 54 #[.slice a1 l.length c1, .slice a2 m.length c2] w fun e w' => e = .returned (.bool (decide (l = m))) ∧ ∃ q, w' = w.drewN q := by
  by_cases hnm : l.length = m.length
  · generalize hn : l.length = n at *
    have hm' := hnm.symm
    rw [hm'] at hm ⊢
    by_cases h0 : n = 0
    · subst h0
      obtain rfl := List.eq_nil_of_length_eq_zero hn
      obtain rfl := List.eq_nil_of_length_eq_zero hm'
      clear hn hm' hnm hl hm r1 r2
      go_enter Try.func54, Try.ntmps54
      go_wp2
      refine wp_loop_rounds 1 ?_
      rw [rounds_succ]
      go_wp2
      go_ret
      exact ⟨rfl, 0, rfl⟩
    obtain ⟨b1, o1, rfl, -, k1⟩ := r1.at (by intro h; simp at h; subst h; simp at hn; omega)
    obtain ⟨b2, o2, rfl, -, k2⟩ := r2.at (by intro h; simp at h; subst h; simp at hm'; omega)
    have g1 := fun k hk => boolAt k1 k hk
    have g2 := fun k hk => boolAt k2 k hk
    clear k1 k2 r1 r2
    have HL : Hid (l.length = n) := hn
    have HM : Hid (m.length = n) := hm'
    clear hn hm' hnm
    go_enter Try.func54, Try.ntmps54
    go_wp2
    go_loopg [13] n (fun g s13 wr => ∃ k q : Nat, k ≤ n ∧ n - k ≤ g ∧ s13 = .int .i64 k ∧ wr = w.drewN q ∧ Hid (∀ j, j < k → l.getD j false = m.getD j false))
    case atStart => exact ⟨0, 0, Nat.zero_le _, by omega, rfl, rfl, fun j hj => absurd hj (Nat.not_lt_zero _)⟩
    case round =>
      obtain ⟨k, q, hk, hg, rfl, rfl, A⟩ := hrel
      by_cases hlt : k < n
      · have e1 := g1 k (by rw [HL.out]; exact hlt)
        have e2 := g2 k (by rw [HM.out]; exact hlt)
        clear g1 g2
        generalize hx : l.getD k false = x at e1
        generalize hy : m.getD k false = y at e2
        have B : Hid (l.getD k false = x ∧ m.getD k false = y) := ⟨hx, hy⟩
        clear hx hy
        cases hxy : (x == y) with
        | true =>
          obtain rfl : x = y := by simpa using hxy
          clear hxy
          go_wp2_with fail
          go_region
          all_goals go_wp2
          all_goals go_roundg (n - (k + 1))
          case measure => omega
          case rel =>
            refine ⟨k + 1, q + 1, by omega, by omega, by go_num, rfl, (show Hid _ from fun j hj => ?_)⟩
            by_cases e : j = k
            · subst e
              rw [B.out.1, B.out.2]
            · exact A.out j (by omega)
        | false =>
          go_wp2_with fail
          go_region
          all_goals go_wp2
          all_goals go_ret
          refine ⟨?_, q + 1, rfl⟩
          have hne : l ≠ m := listNe (d := false) (k := k) (by rw [B.out.1, B.out.2]; simpa using hxy)
          simp [hne]
      · have : k = n := by omega
        subst this
        clear g1 g2
        go_wp2
        go_ret
        refine ⟨?_, q, rfl⟩
        have he : l = m := listEq (d := false) (HL.out.trans HM.out.symm) (fun j hj => A.out j (by rw [← HL.out]; exact hj))
        simp [he]
  · have hnm' : ¬ (l.length : Int) = (m.length : Int) := by omega
    have hne : l ≠ m := fun e => hnm (by rw [e])
    clear r1 r2
    have H : Hid (l ≠ m) := hne
    clear hne
    generalize l.length = x at *
    generalize m.length = y at *
    go_enter Try.func54, Try.ntmps54
    go_wp2
    go_ret
    refine ⟨?_, 0, rfl⟩
    simp [H.out]

end Go.Proofs.Ytabeihkfjlmepaa

/-
  rainbookref.SameBlock: are all fields of two blocks alike?
-/
namespace Go.Proofs.Ytabeihkfjlmepaa
open Go.RowKit

set_option maxHeartbeats 400000 in
set_option maxRecDepth 100000 in
theorem refSame_any (a b : Bk) (ao bo : Option Addr) (ca cb : Nat) (w : World) (ha : Sl w ao ca (a.bits.map Value.bool)) (hb : Sl w bo cb (b.bits.map Value.bool)) (la : a.bits.length ≤ 140737488355328) (lb : b.bits.length ≤ 140737488355328) :
    Calls Try.prog 29 #[bkV a ao ca, bkV b bo cb] w fun e w' => e = .returned (.bool (sameB a b)) ∧ Below w.heap.size w w' := by
  obtain ⟨an, af, aT, X⟩ := a
  obtain ⟨bn, bf, bT, Y⟩ := b
  unfold bkV sameB
  simp only at *
  have c1 := fun W h k => equalBool ao bo ca cb X Y W h k (by omega) (by omega)
  generalize decide (X = Y) = D at *
  clear la lb
  have sa := fun o1 o2 => (ha.alloc o1).alloc o2
  have sb := fun o1 o2 => (hb.alloc o1).alloc o2
  by_cases h1 : an = bn
  · subst h1
    by_cases h2 : af = bf
    · subst h2
      by_cases h3 : aT = bT
      · subst h3
        go_enter Try.func29, Try.ntmps29
        go_wp2_with fail
        go_at_call 54
        refine (c1 _ (sa _ _).row (sb _ _).row).mono ?_
        rintro e w1 ⟨rfl, q, rfl⟩
        go_wp2_with fail
        go_ret
        exact ⟨by simp, belowDrewN (below2 w _ _) q⟩
      · go_enter Try.func29, Try.ntmps29
        go_wp2_with fail
        go_ret
        exact ⟨by simp [h3], below2 w _ _⟩
    · go_enter Try.func29, Try.ntmps29
      go_wp2_with fail
      go_ret
      exact ⟨by simp [h2], below2 w _ _⟩
  · go_enter Try.func29, Try.ntmps29
    go_wp2_with fail
    go_ret
    exact ⟨by simp [h1], below2 w _ _⟩

end Go.Proofs.Ytabeihkfjlmepaa

/-
  slices.Equal, at points: it returns whether the two lists are the same; it only reads.
-/
namespace Go.Proofs.Ytabeihkfjlmepaa
open Go.RowKit

theorem hide' {p : Prop} (h : p) : Hid p := h

set_option maxHeartbeats 1000000 in
set_option maxRecDepth 100000 in
theorem equalPt (a1 a2 : Option Addr) (c1 c2 : Nat) (l m : List Pt) (w : World) (r1 : SlP w a1 c1 l) (r2 : SlP w a2 c2 m) (hl : l.length ≤ 4611686018427387904) (hm : m.length ≤ 4611686018427387904) :
    Calls Try.prog 13 #[.slice a1 l.length c1, .slice a2 m.length c2] w fun e w' => e = .returned (.bool (decide (l = m))) ∧ ∃ q, w' = w.drewN q := by
  by_cases hnm : l.length = m.length
  · generalize hn : l.length = n at *
    have hm' := hnm.symm
    rw [hm'] at hm ⊢
    by_cases h0 : n = 0
    · subst h0
      obtain rfl := List.eq_nil_of_length_eq_zero hn
      obtain rfl := List.eq_nil_of_length_eq_zero hm'
      clear hn hm' hnm hl hm r1 r2
      go_enter Try.func13, Try.ntmps13
      go_wp2
      refine wp_loop_rounds 1 ?_
      rw [rounds_succ]
      go_wp2
      go_ret
      exact ⟨rfl, 0, rfl⟩
    obtain ⟨b1, o1, rfl, -⟩ := r1.where (by intro h; subst h; simp at hn; omega)
    obtain ⟨b2, o2, rfl, -⟩ := r2.where (by intro h; subst h; simp at hm'; omega)
    have g1 := fun k hk => r1.pt k hk
    have g2 := fun k hk => r2.pt k hk
    clear r1 r2
    have HL : Hid (l.length = n) := hn
    have HM : Hid (m.length = n) := hm'
    clear hn hm' hnm
    go_enter Try.func13, Try.ntmps13
    go_wp2
    go_loopg [13] n (fun g s13 wr => ∃ k q : Nat, k ≤ n ∧ n - k ≤ g ∧ s13 = .int .i64 k ∧ wr = w.drewN q ∧ Hid (∀ j : Nat, j < k → l[j]? = m[j]?))
    case atStart => exact ⟨0, 0, Nat.zero_le _, by omega, rfl, rfl, fun j hj => absurd hj (Nat.not_lt_zero _)⟩
    case round =>
      obtain ⟨k, q, hk, hg, rfl, rfl, A⟩ := hrel
      by_cases hlt : k < n
      · obtain ⟨x, y, e1, e2, hx, -⟩ := g1 k (by rw [HL.out]; exact hlt)
        obtain ⟨x', y', e3, e4, hy, -⟩ := g2 k (by rw [HM.out]; exact hlt)
        clear g1 g2
        have B : Hid (l[k]? = some (x, y) ∧ m[k]? = some (x', y')) := ⟨hx, hy⟩
        clear hx hy
        by_cases hxy : x = x' ∧ y = y'
        · obtain ⟨rfl, rfl⟩ := hxy
          go_wp2_with fail
          go_region
          all_goals go_wp2
          all_goals go_roundg (n - (k + 1))
          case measure => omega
          case rel =>
            refine ⟨k + 1, q + 1, by omega, by omega, by go_num, rfl, (show Hid _ from fun j hj => ?_)⟩
            by_cases e : j = k
            · subst e
              rw [B.out.1, B.out.2]
            · exact A.out j (by omega)
        · have hne : l ≠ m := fun h => hxy (by have h2 := B.out.2; rw [← h, B.out.1] at h2; simpa using h2)
          have HN := hide' hne
          clear hne
          by_cases hx : x = x'
          · subst hx
            have hy : ¬ y = y' := fun h => hxy ⟨rfl, h⟩
            clear hxy
            go_wp2_with fail
            go_region
            all_goals go_wp2
            all_goals go_ret
            refine ⟨?_, q + 1, rfl⟩
            simp [HN.out]
          · clear hxy
            go_wp2_with fail
            go_region
            all_goals go_wp2
            all_goals go_ret
            refine ⟨?_, q + 1, rfl⟩
            simp [HN.out]
      · have : k = n := by omega
        subst this
        clear g1 g2
        go_wp2
        go_ret
        refine ⟨?_, q, rfl⟩
        have he : l = m := by
          apply List.ext_getElem?
          intro i
          by_cases hi : i < k
          · exact A.out i hi
          · rw [List.getElem?_eq_none (by rw [HL.out]; omega), List.getElem?_eq_none (by rw [HM.out]; omega)]
        simp [he]
  · have hnm' : ¬ (l.length : Int) = (m.length : Int) := by omega
    have hne : l ≠ m := fun e => hnm (by rw [e])
    clear r1 r2
    have H : Hid (l ≠ m) := hne
    clear hne
    generalize l.length = x at *
    generalize m.length = y at *
    go_enter Try.func13, Try.ntmps13
    go_wp2
    go_ret
    refine ⟨?_, 0, rfl⟩
    simp [H.out]

end Go.Proofs.Ytabeihkfjlmepaa
