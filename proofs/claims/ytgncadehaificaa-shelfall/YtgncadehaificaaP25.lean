/-
  Seal and merge change no points of a row: plain lists. No program is named.
-/
import Derived.Test.YtgncadehaificaaP06
import Derived.Test.YtgncadehaificaaP04
import Derived.Test.YtgncadehaificaaP05
import Derived.Test.YtgncadehaificaaP09
import Derived.Test.YtgncadehaificaaP20
import Derived.Test.YtgncadehaificaaP01
namespace Go.Proofs.Ytgncadehaificaa
open Go.RowKit

theorem blksE_append : ∀ a b : List Bk, blksE (a ++ b) = if blksE a = 0 then blksE b else blksE a
  | [], b => by simp [blksE]
  | x :: r, b => by
    rw [List.cons_append, blksE, blksE, blksE_append r b]
    split
    · rfl
    · rfl

theorem blksL_append (a b : List Bk) : blksL (a ++ b) = blksL a ++ blksL b := by unfold blksL; rw [List.flatMap_append]

theorem rowE_of {r : Rw} (h1 : r.blocks.length ≤ 8) (h2 : blksE r.blocks = 0) (h3 : checkE (allPts r) = 0) : rowE r = 0 := by
  unfold rowE
  rw [if_neg (by omega), if_pos h2]
  exact h3

theorem blksE_mem : ∀ {l : List Bk}, blksE l = 0 → ∀ b ∈ l, ptsE b = 0
  | [], _, b, hb => by simp at hb
  | x :: r, h, b, hb => by
    unfold blksE at h
    split at h
    · rename_i h0
      rcases List.mem_cons.1 hb with rfl | hb
      · exact h0
      · exact blksE_mem h b hb
    · rename_i h0
      exact absurd h h0

theorem row_seal {r : Rw} (h : rowE r = 0) (q : Nat) (h1 : 1 ≤ q) (h2 : q ≤ r.head.length) (hb : r.blocks.length < 8) :
    rowE ⟨r.blocks ++ [makeB (r.head.take q)], r.head.drop q⟩ = 0 ∧ allPts ⟨r.blocks ++ [makeB (r.head.take q)], r.head.drop q⟩ = allPts r := by
  obtain ⟨_, z2, z3⟩ := rowE_zero h
  have c1 := check_drop z3 (blksL r.blocks).length
  unfold allPts at c1
  rw [List.drop_left' rfl] at c1
  obtain ⟨p1, p2⟩ := pts_make (check_take c1 q) (by rw [List.length_take]; omega)
  have e : allPts ⟨r.blocks ++ [makeB (r.head.take q)], r.head.drop q⟩ = allPts r := by
    unfold allPts
    simp only [blksL_append]
    rw [show blksL [makeB (r.head.take q)] = r.head.take q by unfold blksL; simp [p2], List.append_assoc, List.take_append_drop]
  refine ⟨rowE_of (by simp only [List.length_append, List.length_singleton]; omega) ?_ (by rw [e]; exact z3), e⟩
  simp only [blksE_append, z2, if_true]
  rw [blksE, if_pos p1, blksE]

theorem row_merge {r : Rw} (h : rowE r = 0) (q : Nat) (x y : Bk) (hx : r.blocks[q]? = some x) (hy : r.blocks[q + 1]? = some y) :
    rowE ⟨r.blocks.take q ++ mergeB x y :: r.blocks.drop (q + 2), r.head⟩ = 0 ∧ allPts ⟨r.blocks.take q ++ mergeB x y :: r.blocks.drop (q + 2), r.head⟩ = allPts r := by
  obtain ⟨z1, z2, z3⟩ := rowE_zero h
  have hsplit : r.blocks = r.blocks.take q ++ (x :: y :: r.blocks.drop (q + 2)) := by
    have e1 : r.blocks.drop q = x :: r.blocks.drop (q + 1) := by
      obtain ⟨h', rfl⟩ := List.getElem?_eq_some_iff.1 hx
      exact List.drop_eq_getElem_cons h'
    have e2 : r.blocks.drop (q + 1) = y :: r.blocks.drop (q + 2) := by
      obtain ⟨h', rfl⟩ := List.getElem?_eq_some_iff.1 hy
      exact List.drop_eq_getElem_cons h'
    rw [← e2, ← e1, List.take_append_drop]
  have px := blksE_mem z2 x (List.mem_of_getElem? hx)
  have py := blksE_mem z2 y (List.mem_of_getElem? hy)
  generalize r.blocks.take q = A at *
  generalize r.blocks.drop (q + 2) = D at *
  have eall : allPts r = blksL A ++ ((ptsL x ++ ptsL y) ++ (blksL D ++ r.head)) := by
    unfold allPts
    rw [hsplit, blksL_append]
    unfold blksL
    simp [List.append_assoc]
  have c1 := check_drop z3 (blksL A).length
  rw [eall, List.drop_left' rfl] at c1
  have c2 := check_take c1 (ptsL x ++ ptsL y).length
  rw [List.take_left' rfl] at c2
  have lp : 0 < (ptsL x ++ ptsL y).length := by rw [List.length_append]; have := ptsL_pos px; omega
  obtain ⟨p1, p2⟩ := pts_make c2 lp
  have em : mergeB x y = makeB (ptsL x ++ ptsL y) := by unfold mergeB; rw [if_pos ⟨px, py⟩]
  have e : allPts ⟨A ++ mergeB x y :: D, r.head⟩ = allPts r := by
    rw [eall, em]
    unfold allPts
    simp only [blksL_append]
    rw [show blksL (makeB (ptsL x ++ ptsL y) :: D) = (ptsL x ++ ptsL y) ++ blksL D by unfold blksL; rw [List.flatMap_cons, p2], List.append_assoc, List.append_assoc]
  have zz := z2
  rw [hsplit, blksE_append] at zz
  have zA : blksE A = 0 := by
    by_cases h0 : blksE A = 0
    · exact h0
    · rw [if_neg h0] at zz
      exact zz
  rw [if_pos zA, blksE, if_pos px, blksE, if_pos py] at zz
  refine ⟨rowE_of ?_ ?_ (by rw [e]; exact z3), e⟩
  · have := z1
    rw [hsplit] at this
    simp only [List.length_append, List.length_cons] at this ⊢
    omega
  · simp only [blksE_append, zA, if_true]
    rw [em, blksE, if_pos p1]
    exact zz

end Go.Proofs.Ytgncadehaificaa

/-
  What a batch, a seal, a merge and a drop do to the points of each series, as plain lists. No program is named.
-/
namespace Go.Proofs.Ytgncadehaificaa
open Go.RowKit

/-- What a batch says of one series. -/
def entPts (s : Int) (L : List En) : List Pt := (L.filter (fun x => decide (x.s = s))).map (fun x => (x.t, x.v))

theorem rowsE_of : ∀ {l : List Rw}, (∀ r ∈ l, rowE r = 0) → rowsE l = 0
  | [], _ => rfl
  | x :: l, h => by
    unfold rowsE
    rw [if_pos (h x List.mem_cons_self)]
    exact rowsE_of (fun r hr => h r (List.mem_cons_of_mem _ hr))

theorem shelfE_of {l : List Rw} (h4 : l.length = 4) (h : ∀ r ∈ l, rowE r = 0) : shelfE l = 0 := by
  unfold shelfE
  rw [if_pos h4]
  exact rowsE_of h

theorem shelfE_mem {l : List Rw} (h : shelfE l = 0) : l.length = 4 ∧ ∀ r ∈ l, rowE r = 0 :=
  ⟨(shelfE_zero h).1, rowsE_zero (shelfE_zero h).2⟩

theorem getD_mem {l : List Rw} {k : Nat} (hk : k < l.length) : l.getD k rw0 ∈ l := by
  rw [List.getD, List.getElem?_eq_getElem hk]
  exact List.getElem_mem hk

theorem shelfE_set {l : List Rw} {k : Nat} {r : Rw} (h : shelfE l = 0) (hr : rowE r = 0) : shelfE (l.set k r) = 0 := by
  obtain ⟨h4, hm⟩ := shelfE_mem h
  refine shelfE_of (by rw [List.length_set]; exact h4) (fun x hx => ?_)
  rcases List.mem_or_eq_of_mem_set hx with hx | rfl
  · exact hm x hx
  · exact hr

theorem getD_set {l : List Rw} {k j : Nat} {r : Rw} (hk : k < l.length) : (l.set k r).getD j rw0 = if j = k then r else l.getD j rw0 := by
  rw [List.getD, List.getD]
  by_cases h : j = k
  · subst h
    rw [if_pos rfl, List.getElem?_set_self hk]
    rfl
  · rw [if_neg h, List.getElem?_set_ne (fun e => h e.symm)]

theorem puts_all : ∀ (L : List En) (l : List Rw), l.length = 4 → putsE l L = 0 → ∀ s : Nat, s < 4 → allPts ((putsL l L).getD s rw0) = allPts (l.getD s rw0) ++ entPts s L
  | [], l, _, _, s, _ => by simp [putsL, entPts]
  | x :: r, l, h4, h, s, hs => by
    unfold putsE at h
    split at h
    · rename_i h0
      obtain ⟨h1, _⟩ := putRowE_zero h0
      obtain ⟨k, ek, hk⟩ := inI_nat h1
      have ih := puts_all r (putRowL l x) (by unfold putRowL; rw [List.length_set]; exact h4) h s hs
      rw [putsL, ih]
      unfold putRowL
      rw [getD_set (by rw [ek, Int.toNat_natCast, h4]; exact hk)]
      unfold entPts
      by_cases e : s = k
      · subst e
        rw [if_pos (by rw [ek, Int.toNat_natCast]), List.filter_cons_of_pos (by simpa using ek), List.map_cons]
        unfold putRow allPts
        rw [ek, Int.toNat_natCast]
        simp only [List.append_assoc, List.cons_append, List.nil_append]
      · rw [if_neg (by rw [ek, Int.toNat_natCast]; exact e), List.filter_cons_of_neg (by simp [ek]; omega)]
    · rename_i h0
      exact absurd h h0

theorem puts_shelf : ∀ (L : List En) (l : List Rw), shelfE l = 0 → putsE l L = 0 → shelfE (putsL l L) = 0
  | [], l, h, _ => h
  | x :: r, l, h, h' => by
    unfold putsE at h'
    split at h'
    · rename_i h0
      exact puts_shelf r _ (shelfE_set h (putRowE_zero h0).2) h'
    · rename_i h0
      exact absurd h' h0

theorem bput_zero {l : List Rw} {L : List En} (h : bputE l L = 0) : L.length ≤ 10 ∧ putsE l L = 0 ∧ bputL l L = putsL l L := by
  have h' := h
  unfold bputE at h
  split at h
  · cases h
  · exact ⟨by omega, h, by unfold bputL; rw [if_pos h']⟩

theorem seal_zero {l : List Rw} {s n : Int} (h : shelfE l = 0) (hs : sealE l s n = 0) :
    shelfE (sealL l s n) = 0 ∧ ∀ j : Nat, allPts ((sealL l s n).getD j rw0) = allPts (l.getD j rw0) := by
  have hs' := hs
  unfold sealE at hs
  split at hs
  · cases hs
  · rename_i h0
    split at hs
    · cases hs
    · rename_i h1
      split at hs
      · cases hs
      · rename_i h2
        obtain ⟨k, rfl, hk⟩ := inI_nat (by simpa using h0)
        rw [Int.toNat_natCast] at h1 h2
        have hn : 1 ≤ n ∧ n ≤ (l.getD k rw0).head.length := by
          have : inI n 1 (l.getD k rw0).head.length = true := by simpa using h1
          exact of_decide_eq_true this
        obtain ⟨h4, hm⟩ := shelfE_mem h
        have hr := hm _ (getD_mem (l := l) (k := k) (by omega))
        obtain ⟨a1, a2⟩ := row_seal hr n.toNat (by omega) (by omega) (by omega)
        unfold sealL
        rw [if_pos hs', Int.toNat_natCast]
        refine ⟨shelfE_set h a1, fun j => ?_⟩
        rw [getD_set (by omega)]
        split
        · rename_i e
          rw [e, a2]
        · rfl

theorem blk_get {r : Rw} {q : Nat} (h : q < r.blocks.length) : r.blocks[q]? = some (blkAt r q) := by
  unfold blkAt
  rw [List.getD, List.getElem?_eq_getElem h]
  rfl

theorem mrg_zero {l : List Rw} {s n : Int} (h : shelfE l = 0) (hs : mrgE l s n = 0) :
    shelfE (mrgL l s n) = 0 ∧ ∀ j : Nat, allPts ((mrgL l s n).getD j rw0) = allPts (l.getD j rw0) := by
  have hs' := hs
  unfold mrgE at hs
  split at hs
  · cases hs
  · rename_i h0
    split at hs
    · cases hs
    · rename_i h1
      obtain ⟨k, rfl, hk⟩ := inI_nat (by simpa using h0)
      rw [Int.toNat_natCast] at h1 hs
      have hn : 0 ≤ n ∧ n ≤ (l.getD k rw0).blocks.length - 2 := by
        have : inI n 0 ((l.getD k rw0).blocks.length - 2) = true := by simpa using h1
        exact of_decide_eq_true this
      obtain ⟨q, rfl⟩ := Int.eq_ofNat_of_zero_le hn.1
      obtain ⟨h4, hm⟩ := shelfE_mem h
      have hr := hm _ (getD_mem (l := l) (k := k) (by omega))
      rw [Int.toNat_natCast] at hs
      have b0 := blk_get (r := l.getD k rw0) (q := q) (by omega)
      have b1 := blk_get (r := l.getD k rw0) (q := q + 1) (by omega)
      obtain ⟨a1, a2⟩ := row_merge hr q _ _ b0 b1
      unfold mrgL
      rw [if_pos hs', Int.toNat_natCast, Int.toNat_natCast]
      refine ⟨shelfE_set h a1, fun j => ?_⟩
      rw [getD_set (by omega)]
      split
      · rename_i e
        rw [e, a2]
      · rfl

/-- Points that are right rise by time. -/
theorem chk_rises : ∀ (l : List Pt) (a : Int), chk a l = 0 → l.Pairwise (fun p q => p.1 < q.1) ∧ ∀ p ∈ l, a < p.1 ∧ ptOk p = true
  | [], _, _ => ⟨List.Pairwise.nil, fun p hp => by simp at hp⟩
  | p :: r, a, h => by
    obtain ⟨h1, h2, h3⟩ := chk_cons h
    obtain ⟨i1, i2⟩ := chk_rises r p.1 h3
    refine ⟨List.Pairwise.cons (fun q hq => (i2 q hq).1) i1, fun q hq => ?_⟩
    rcases List.mem_cons.1 hq with rfl | hq
    · exact ⟨h2, h1⟩
    · exact ⟨by have := (i2 q hq).1; omega, (i2 q hq).2⟩

theorem check_rises {l : List Pt} (h : checkE l = 0) : l.Pairwise (fun p q => p.1 < q.1) ∧ ∀ p ∈ l, ptOk p = true := by
  unfold checkE at h
  split at h
  · cases h
  · obtain ⟨h1, h2⟩ := chk_rises l _ h
    exact ⟨h1, fun p hp => (h2 p hp).2⟩

theorem pts_to {b : Bk} (h : ptsE b = 0) : b.to = endT (ptsL b) := by
  have h' := h
  unfold ptsE at h
  split at h
  · split at h
    · rename_i hf
      have := (of_decide_eq_true hf : 0 < _ ∧ _).2.2
      unfold ptsL
      rw [if_pos h']
      exact this
    · cases h
  · rename_i hn
    exact absurd h hn

theorem endT_mem {l : List Pt} (h : 0 < l.length) : ∃ p ∈ l, p.1 = endT l ∧ l.getLast? = some p := by
  have hk : l.length - 1 < l.length := by omega
  refine ⟨l[l.length - 1], List.getElem_mem hk, ?_, ?_⟩
  · unfold endT
    rw [List.getD, List.getElem?_eq_getElem hk]
    rfl
  · rw [List.getLast?_eq_getElem?, List.getElem?_eq_getElem hk]

theorem rises_end {l : List Pt} (h : l.Pairwise (fun p q => p.1 < q.1)) (p : Pt) (hp : p ∈ l) : p.1 ≤ endT l := by
  obtain ⟨i, hi, rfl⟩ := List.mem_iff_getElem.1 hp
  unfold endT
  have hk : l.length - 1 < l.length := by omega
  rw [List.getD, List.getElem?_eq_getElem hk]
  show l[i].1 ≤ l[l.length - 1].1
  by_cases e : i = l.length - 1
  · subst e
    exact Int.le_refl _
  · exact Int.le_of_lt (List.pairwise_iff_getElem.1 h i (l.length - 1) hi hk (by omega))

/-- The blocks that go are the first ones. -/
theorem drop_blocks (n : Int) : ∀ (bs : List Bk), blksE bs = 0 → (blksL bs).Pairwise (fun p q => p.1 < q.1) →
    ∃ A B, bs = A ++ B ∧ bs.filter (fun b => !decide (b.to < n)) = B ∧ ∀ p ∈ blksL A, p.1 < n
  | [], _, _ => ⟨[], [], rfl, rfl, fun p hp => by simp [blksL] at hp⟩
  | b :: r, h, hp => by
    unfold blksE at h
    split at h
    · rename_i h0
      have hl : blksL (b :: r) = ptsL b ++ blksL r := rfl
      rw [hl, List.pairwise_append] at hp
      obtain ⟨p1, p2, p3⟩ := hp
      have et := pts_to h0
      have pos := ptsL_pos h0
      by_cases hb : b.to < n
      · obtain ⟨A, B, e1, e2, e3⟩ := drop_blocks n r h p2
        refine ⟨b :: A, B, by rw [e1]; rfl, by rw [List.filter_cons_of_neg (by simpa using hb)]; exact e2, fun p hp => ?_⟩
        rw [show blksL (b :: A) = ptsL b ++ blksL A from rfl, List.mem_append] at hp
        rcases hp with hp | hp
        · have := rises_end p1 p hp
          omega
        · exact e3 p hp
      · refine ⟨[], b :: r, rfl, ?_, fun p hp => by simp [blksL] at hp⟩
        rw [List.filter_eq_self]
        intro c hc
        rcases List.mem_cons.1 hc with rfl | hc
        · simpa using hb
        · have hc0 := blksE_mem h c hc
          obtain ⟨q, hq, eq, _⟩ := endT_mem (ptsL_pos hc0)
          obtain ⟨u, hu, eu, _⟩ := endT_mem pos
          have := p3 u hu q (List.mem_flatMap.2 ⟨c, hc, hq⟩)
          have ec := pts_to hc0
          have : ¬ c.to < n := by omega
          simpa using this
    · rename_i h0
      exact absurd h h0

theorem drop_row {n : Int} {r : Rw} (h : rowE r = 0) : rowE (dropRw n r) = 0 ∧ ∃ m, m ≤ (allPts r).length ∧ allPts (dropRw n r) = (allPts r).drop m ∧ ∀ p ∈ (allPts r).take m, p.1 < n := by
  obtain ⟨z1, z2, z3⟩ := rowE_zero h
  have hr := (check_rises z3).1
  unfold allPts at hr
  rw [List.pairwise_append] at hr
  obtain ⟨A, B, e1, e2, e3⟩ := drop_blocks n r.blocks z2 hr.1
  have ea : allPts (dropRw n r) = (allPts r).drop (blksL A).length := by
    unfold allPts dropRw
    simp only
    rw [e2]
    conv => rhs; rw [e1, blksL_append, List.append_assoc, List.drop_left' rfl]
  have zB : blksE B = 0 := by
    rw [e1, blksE_append] at z2
    by_cases h0 : blksE A = 0
    · rwa [if_pos h0] at z2
    · rw [if_neg h0] at z2
      exact absurd z2 h0
  refine ⟨rowE_of ?_ (by show blksE (r.blocks.filter _) = 0; rw [e2]; exact zB) (by rw [ea]; exact check_drop z3 _), (blksL A).length, ?_, ea, ?_⟩
  · show (r.blocks.filter _).length ≤ 8
    exact Nat.le_trans (List.length_filter_le _ _) z1
  · unfold allPts
    rw [e1, blksL_append, List.length_append, List.length_append]
    omega
  · intro p hp
    unfold allPts at hp
    rw [e1, blksL_append, List.append_assoc, List.take_left' rfl] at hp
    exact e3 p hp

theorem drop_zero {l : List Rw} {n : Int} (h : shelfE l = 0) : shelfE (l.map (dropRw n)) = 0 ∧ ∀ j : Nat, j < 4 → (l.map (dropRw n)).getD j rw0 = dropRw n (l.getD j rw0) := by
  obtain ⟨h4, hm⟩ := shelfE_mem h
  refine ⟨shelfE_of (by rw [List.length_map]; exact h4) (fun r hr => ?_), fun j hj => ?_⟩
  · obtain ⟨x, hx, rfl⟩ := List.mem_map.1 hr
    exact (drop_row (hm x hx)).1
  · rw [List.getD, List.getD, List.getElem?_map, List.getElem?_eq_getElem (by omega)]
    rfl

end Go.Proofs.Ytgncadehaificaa

/-
  'at' of the laws: a number brought within bounds; it touches no memory.
-/
namespace Go.Proofs.Ytgncadehaificaa
open Go.RowKit

/-- 'at': a number brought within bounds. -/
theorem at_any (k n : Int) (w : World) (hn : 1 ≤ n) (hn2 : n ≤ 1152921504606846976) :
    Calls Try.prog 28 #[.int .i64 k, .int .i64 n] w fun e w' => e = .returned (.int .i64 (k % n)) ∧ w = w' := by
  go_enter Try.func28, Try.ntmps28
  go_wp2
  · have h : k.tmod n < 0 := by assumption
    go_ret
    have e := tmod_up' hn h
    have b1 := Int.emod_nonneg k (show n ≠ 0 by omega)
    have b2 := Int.emod_lt_of_pos k (show 0 < n by omega)
    exact ⟨ret_int (by rw [e]; unfold wrap64; omega), rfl⟩
  · have h : 0 ≤ k.tmod n := by assumption
    go_ret
    exact ⟨ret_int (tmod_up hn h), rfl⟩

end Go.Proofs.Ytgncadehaificaa
