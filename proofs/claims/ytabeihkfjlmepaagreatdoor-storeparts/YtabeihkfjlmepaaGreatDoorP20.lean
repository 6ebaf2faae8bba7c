/-
  What a drop makes of a shelf, as plain lists. No program is named.
-/
import Derived.Test.YtabeihkfjlmepaaGreatDoorP19
import Derived.Test.YtabeihkfjlmepaaGreatDoorP02
import Derived.Test.YtabeihkfjlmepaaGreatDoorP08
namespace Go.Proofs.YtabeihkfjlmepaaGreatDoor
open Go.RowKit

def dropE (n : Int) : Int := if inI n 0 100001 = false then 3 else 0

def dropRw (n : Int) (r : Rw) : Rw := ⟨r.blocks.filter (fun b => !decide (b.to < n)), r.head⟩

def dropL (l : List Rw) (n : Int) : List Rw := if dropE n = 0 then l.map (dropRw n) else []

end Go.Proofs.YtabeihkfjlmepaaGreatDoor

/-
  What a batch, a seal, a merge and a drop do to the points of each series, as plain lists. No program is named.
-/
namespace Go.Proofs.YtabeihkfjlmepaaGreatDoor
open Go.RowKit

/-- What a batch says of one series. -/
def entPts (s : Int) (L : List En) : List Pt := (L.filter (fun x => decide (x.s = s))).map (fun x => (x.t, x.v))

theorem rowsE_of : ∀ {l : List Rw}, (∀ r ∈ l, rowE r = 0) → rowsE l = 0
  | [], _ => rfl
  | x :: l, h => by
    unfold rowsE
    rw [if_pos (h x List.mem_cons_self)]
    exact rowsE_of (fun r hr => h r (List.mem_cons_of_mem _ hr))

theorem shelfE_of {l : List Rw} (h4 : l.length = 4) (h : ∀ r ∈ l, rowE r = 0) : shelfE l = 0 := by
  unfold shelfE
  rw [if_pos h4]
  exact rowsE_of h

theorem shelfE_mem {l : List Rw} (h : shelfE l = 0) : l.length = 4 ∧ ∀ r ∈ l, rowE r = 0 :=
  ⟨(shelfE_zero h).1, rowsE_zero (shelfE_zero h).2⟩

theorem getD_mem {l : List Rw} {k : Nat} (hk : k < l.length) : l.getD k rw0 ∈ l := by
  rw [List.getD, List.getElem?_eq_getElem hk]
  exact List.getElem_mem hk

theorem shelfE_set {l : List Rw} {k : Nat} {r : Rw} (h : shelfE l = 0) (hr : rowE r = 0) : shelfE (l.set k r) = 0 := by
  obtain ⟨h4, hm⟩ := shelfE_mem h
  refine shelfE_of (by rw [List.length_set]; exact h4) (fun x hx => ?_)
  rcases List.mem_or_eq_of_mem_set hx with hx | rfl
  · exact hm x hx
  · exact hr

theorem getD_set {l : List Rw} {k j : Nat} {r : Rw} (hk : k < l.length) : (l.set k r).getD j rw0 = if j = k then r else l.getD j rw0 := by
  rw [List.getD, List.getD]
  by_cases h : j = k
  · subst h
    rw [if_pos rfl, List.getElem?_set_self hk]
    rfl
  · rw [if_neg h, List.getElem?_set_ne (fun e => h e.symm)]

theorem puts_all : ∀ (L : List En) (l : List Rw), l.length = 4 → putsE l L = 0 → ∀ s : Nat, s < 4 → allPts ((putsL l L).getD s rw0) = allPts (l.getD s rw0) ++ entPts s L
  | [], l, _, _, s, _ => by simp [putsL, entPts]
  | x :: r, l, h4, h, s, hs => by
    unfold putsE at h
    split at h
    · rename_i h0
      obtain ⟨h1, _⟩ := putRowE_zero h0
      obtain ⟨k, ek, hk⟩ := inI_nat h1
      have ih := puts_all r (putRowL l x) (by unfold putRowL; rw [List.length_set]; exact h4) h s hs
      rw [putsL, ih]
      unfold putRowL
      rw [getD_set (by rw [ek, Int.toNat_natCast, h4]; exact hk)]
      unfold entPts
      by_cases e : s = k
      · subst e
        rw [if_pos (by rw [ek, Int.toNat_natCast]), List.filter_cons_of_pos (by simpa using ek), List.map_cons]
        unfold putRow allPts
        rw [ek, Int.toNat_natCast]
        simp only [List.append_assoc, List.cons_append, List.nil_append]
      · rw [if_neg (by rw [ek, Int.toNat_natCast]; exact e), List.filter_cons_of_neg (by simp [ek]; omega)]
    · rename_i h0
      exact absurd h h0

theorem puts_shelf : ∀ (L : List En) (l : List Rw), shelfE l = 0 → putsE l L = 0 → shelfE (putsL l L) = 0
  | [], l, h, _ => h
  | x :: r, l, h, h' => by
    unfold putsE at h'
    split at h'
    · rename_i h0
      exact puts_shelf r _ (shelfE_set h (putRowE_zero h0).2) h'
    · rename_i h0
      exact absurd h' h0

theorem bput_zero {l : List Rw} {L : List En} (h : bputE l L = 0) : L.length ≤ 10 ∧ putsE l L = 0 ∧ bputL l L = putsL l L := by
  have h' := h
  unfold bputE at h
  split at h
  · cases h
  · exact ⟨by omega, h, by unfold bputL; rw [if_pos h']⟩

theorem seal_zero {l : List Rw} {s n : Int} (h : shelfE l = 0) (hs : sealE l s n = 0) :
    shelfE (sealL l s n) = 0 ∧ ∀ j : Nat, allPts ((sealL l s n).getD j rw0) = allPts (l.getD j rw0) := by
  have hs' := hs
  unfold sealE at hs
  split at hs
  · cases hs
  · rename_i h0
    split at hs
    · cases hs
    · rename_i h1
      split at hs
      · cases hs
      · rename_i h2
        obtain ⟨k, rfl, hk⟩ := inI_nat (by simpa using h0)
        rw [Int.toNat_natCast] at h1 h2
        have hn : 1 ≤ n ∧ n ≤ (l.getD k rw0).head.length := by
          have : inI n 1 (l.getD k rw0).head.length = true := by simpa using h1
          exact of_decide_eq_true this
        obtain ⟨h4, hm⟩ := shelfE_mem h
        have hr := hm _ (getD_mem (l := l) (k := k) (by omega))
        obtain ⟨a1, a2⟩ := row_seal hr n.toNat (by omega) (by omega) (by omega)
        unfold sealL
        rw [if_pos hs', Int.toNat_natCast]
        refine ⟨shelfE_set h a1, fun j => ?_⟩
        rw [getD_set (by omega)]
        split
        · rename_i e
          rw [e, a2]
        · rfl

theorem blk_get {r : Rw} {q : Nat} (h : q < r.blocks.length) : r.blocks[q]? = some (blkAt r q) := by
  unfold blkAt
  rw [List.getD, List.getElem?_eq_getElem h]
  rfl

theorem mrg_zero {l : List Rw} {s n : Int} (h : shelfE l = 0) (hs : mrgE l s n = 0) :
    shelfE (mrgL l s n) = 0 ∧ ∀ j : Nat, allPts ((mrgL l s n).getD j rw0) = allPts (l.getD j rw0) := by
  have hs' := hs
  unfold mrgE at hs
  split at hs
  · cases hs
  · rename_i h0
    split at hs
    · cases hs
    · rename_i h1
      obtain ⟨k, rfl, hk⟩ := inI_nat (by simpa using h0)
      rw [Int.toNat_natCast] at h1 hs
      have hn : 0 ≤ n ∧ n ≤ (l.getD k rw0).blocks.length - 2 := by
        have : inI n 0 ((l.getD k rw0).blocks.length - 2) = true := by simpa using h1
        exact of_decide_eq_true this
      obtain ⟨q, rfl⟩ := Int.eq_ofNat_of_zero_le hn.1
      obtain ⟨h4, hm⟩ := shelfE_mem h
      have hr := hm _ (getD_mem (l := l) (k := k) (by omega))
      rw [Int.toNat_natCast] at hs
      have b0 := blk_get (r := l.getD k rw0) (q := q) (by omega)
      have b1 := blk_get (r := l.getD k rw0) (q := q + 1) (by omega)
      obtain ⟨a1, a2⟩ := row_merge hr q _ _ b0 b1
      unfold mrgL
      rw [if_pos hs', Int.toNat_natCast, Int.toNat_natCast]
      refine ⟨shelfE_set h a1, fun j => ?_⟩
      rw [getD_set (by omega)]
      split
      · rename_i e
        rw [e, a2]
      · rfl

/-- Points that are right rise by time. -/
theorem chk_rises : ∀ (l : List Pt) (a : Int), chk a l = 0 → l.Pairwise (fun p q => p.1 < q.1) ∧ ∀ p ∈ l, a < p.1 ∧ ptOk p = true
  | [], _, _ => ⟨List.Pairwise.nil, fun p hp => by simp at hp⟩
  | p :: r, a, h => by
    obtain ⟨h1, h2, h3⟩ := chk_cons h
    obtain ⟨i1, i2⟩ := chk_rises r p.1 h3
    refine ⟨List.Pairwise.cons (fun q hq => (i2 q hq).1) i1, fun q hq => ?_⟩
    rcases List.mem_cons.1 hq with rfl | hq
    · exact ⟨h2, h1⟩
    · exact ⟨by have := (i2 q hq).1; omega, (i2 q hq).2⟩

theorem check_rises {l : List Pt} (h : checkE l = 0) : l.Pairwise (fun p q => p.1 < q.1) ∧ ∀ p ∈ l, ptOk p = true := by
  unfold checkE at h
  split at h
  · cases h
  · obtain ⟨h1, h2⟩ := chk_rises l _ h
    exact ⟨h1, fun p hp => (h2 p hp).2⟩

theorem pts_to {b : Bk} (h : ptsE b = 0) : b.to = endT (ptsL b) := by
  have h' := h
  unfold ptsE at h
  split at h
  · split at h
    · rename_i hf
      have := (of_decide_eq_true hf : 0 < _ ∧ _).2.2
      unfold ptsL
      rw [if_pos h']
      exact this
    · cases h
  · rename_i hn
    exact absurd h hn

theorem endT_mem {l : List Pt} (h : 0 < l.length) : ∃ p ∈ l, p.1 = endT l ∧ l.getLast? = some p := by
  have hk : l.length - 1 < l.length := by omega
  refine ⟨l[l.length - 1], List.getElem_mem hk, ?_, ?_⟩
  · unfold endT
    rw [List.getD, List.getElem?_eq_getElem hk]
    rfl
  · rw [List.getLast?_eq_getElem?, List.getElem?_eq_getElem hk]

theorem rises_end {l : List Pt} (h : l.Pairwise (fun p q => p.1 < q.1)) (p : Pt) (hp : p ∈ l) : p.1 ≤ endT l := by
  obtain ⟨i, hi, rfl⟩ := List.mem_iff_getElem.1 hp
  unfold endT
  have hk : l.length - 1 < l.length := by omega
  rw [List.getD, List.getElem?_eq_getElem hk]
  show l[i].1 ≤ l[l.length - 1].1
  by_cases e : i = l.length - 1
  · subst e
    exact Int.le_refl _
  · exact Int.le_of_lt (List.pairwise_iff_getElem.1 h i (l.length - 1) hi hk (by omega))

/-- The blocks that go are the first ones. -/
theorem drop_blocks (n : Int) : ∀ (bs : List Bk), blksE bs = 0 → (blksL bs).Pairwise (fun p q => p.1 < q.1) →
    ∃ A B, bs = A ++ B ∧ bs.filter (fun b => !decide (b.to < n)) = B ∧ ∀ p ∈ blksL A, p.1 < n
  | [], _, _ => ⟨[], [], rfl, rfl, fun p hp => by simp [blksL] at hp⟩
  | b :: r, h, hp => by
    unfold blksE at h
    split at h
    · rename_i h0
      have hl : blksL (b :: r) = ptsL b ++ blksL r := rfl
      rw [hl, List.pairwise_append] at hp
      obtain ⟨p1, p2, p3⟩ := hp
      have et := pts_to h0
      have pos := ptsL_pos h0
      by_cases hb : b.to < n
      · obtain ⟨A, B, e1, e2, e3⟩ := drop_blocks n r h p2
        refine ⟨b :: A, B, by rw [e1]; rfl, by rw [List.filter_cons_of_neg (by simpa using hb)]; exact e2, fun p hp => ?_⟩
        rw [show blksL (b :: A) = ptsL b ++ blksL A from rfl, List.mem_append] at hp
        rcases hp with hp | hp
        · have := rises_end p1 p hp
          omega
        · exact e3 p hp
      · refine ⟨[], b :: r, rfl, ?_, fun p hp => by simp [blksL] at hp⟩
        rw [List.filter_eq_self]
        intro c hc
        rcases List.mem_cons.1 hc with rfl | hc
        · simpa using hb
        · have hc0 := blksE_mem h c hc
          obtain ⟨q, hq, eq, _⟩ := endT_mem (ptsL_pos hc0)
          obtain ⟨u, hu, eu, _⟩ := endT_mem pos
          have := p3 u hu q (List.mem_flatMap.2 ⟨c, hc, hq⟩)
          have ec := pts_to hc0
          have : ¬ c.to < n := by omega
          simpa using this
    · rename_i h0
      exact absurd h h0

theorem drop_row {n : Int} {r : Rw} (h : rowE r = 0) : rowE (dropRw n r) = 0 ∧ ∃ m, m ≤ (allPts r).length ∧ allPts (dropRw n r) = (allPts r).drop m ∧ ∀ p ∈ (allPts r).take m, p.1 < n := by
  obtain ⟨z1, z2, z3⟩ := rowE_zero h
  have hr := (check_rises z3).1
  unfold allPts at hr
  rw [List.pairwise_append] at hr
  obtain ⟨A, B, e1, e2, e3⟩ := drop_blocks n r.blocks z2 hr.1
  have ea : allPts (dropRw n r) = (allPts r).drop (blksL A).length := by
    unfold allPts dropRw
    simp only
    rw [e2]
    conv => rhs; rw [e1, blksL_append, List.append_assoc, List.drop_left' rfl]
  have zB : blksE B = 0 := by
    rw [e1, blksE_append] at z2
    by_cases h0 : blksE A = 0
    · rwa [if_pos h0] at z2
    · rw [if_neg h0] at z2
      exact absurd z2 h0
  refine ⟨rowE_of ?_ (by show blksE (r.blocks.filter _) = 0; rw [e2]; exact zB) (by rw [ea]; exact check_drop z3 _), (blksL A).length, ?_, ea, ?_⟩
  · show (r.blocks.filter _).length ≤ 8
    exact Nat.le_trans (List.length_filter_le _ _) z1
  · unfold allPts
    rw [e1, blksL_append, List.length_append, List.length_append]
    omega
  · intro p hp
    unfold allPts at hp
    rw [e1, blksL_append, List.append_assoc, List.take_left' rfl] at hp
    exact e3 p hp

theorem drop_zero {l : List Rw} {n : Int} (h : shelfE l = 0) : shelfE (l.map (dropRw n)) = 0 ∧ ∀ j : Nat, j < 4 → (l.map (dropRw n)).getD j rw0 = dropRw n (l.getD j rw0) := by
  obtain ⟨h4, hm⟩ := shelfE_mem h
  refine ⟨shelfE_of (by rw [List.length_map]; exact h4) (fun r hr => ?_), fun j hj => ?_⟩
  · obtain ⟨x, hx, rfl⟩ := List.mem_map.1 hr
    exact (drop_row (hm x hx)).1
  · rw [List.getD, List.getD, List.getElem?_map, List.getElem?_eq_getElem (by omega)]
    rfl

end Go.Proofs.YtabeihkfjlmepaaGreatDoor

/-
  What a record makes of a shelf, and what records make of a new one, as plain lists. No program is named.
-/
namespace Go.Proofs.YtabeihkfjlmepaaGreatDoor
open Go.RowKit

def enOf (x : Nt) : En := ⟨x.1, x.2.1, x.2.2⟩

def enL (l : List Nt) : List En := l.map enOf

/-- A right record's work on a right shelf. -/
def workE (C : List Rw) (r : Rc) : Int := if r.k = 1 then bputE C (enL r.e) else if r.k = 2 then sealE C r.s r.n else if r.k = 3 then mrgE C r.s r.n else dropE r.n
def workL (C : List Rw) (r : Rc) : List Rw := if r.k = 1 then bputL C (enL r.e) else if r.k = 2 then sealL C r.s r.n else if r.k = 3 then mrgL C r.s r.n else dropL C r.n

def nextE (C : List Rw) (r : Rc) : Int := if shelfE C ≠ 0 then shelfE C else if recE r ≠ 0 then recE r else workE C r
def nextL (C : List Rw) (r : Rc) : List Rw := if shelfE C ≠ 0 then [] else if recE r ≠ 0 then [] else workL C r

theorem work_of (C : List Rw) (r : Rc) : (r.k = 1 → workE C r = bputE C (enL r.e) ∧ workL C r = bputL C (enL r.e)) ∧ (r.k = 2 → workE C r = sealE C r.s r.n ∧ workL C r = sealL C r.s r.n) ∧ (r.k = 3 → workE C r = mrgE C r.s r.n ∧ workL C r = mrgL C r.s r.n) ∧ (r.k = 4 → workE C r = dropE r.n ∧ workL C r = dropL C r.n) := by
  unfold workE workL
  refine ⟨fun h => ?_, fun h => ?_, fun h => ?_, fun h => ?_⟩ <;> simp [h]

theorem work_bad {C : List Rw} {r : Rc} (h : workE C r ≠ 0) : workL C r = [] := by
  unfold workE at h
  unfold workL
  split
  · rename_i h1
    rw [if_pos h1] at h
    exact if_neg h
  · rename_i h1
    rw [if_neg h1] at h
    split
    · rename_i h2
      rw [if_pos h2] at h
      exact if_neg h
    · rename_i h2
      rw [if_neg h2] at h
      split
      · rename_i h3
        rw [if_pos h3] at h
        exact if_neg h
      · rename_i h3
        rw [if_neg h3] at h
        exact if_neg h

theorem next_bad {C : List Rw} {r : Rc} (h : nextE C r ≠ 0) : nextL C r = [] := by
  unfold nextE at h
  unfold nextL
  split
  · rfl
  · rename_i h1
    rw [if_neg h1] at h
    split
    · rfl
    · rename_i h2
      rw [if_neg h2] at h
      exact work_bad h

theorem next_zero {C : List Rw} {r : Rc} (h : nextE C r = 0) : shelfE C = 0 ∧ recE r = 0 ∧ workE C r = 0 ∧ nextL C r = workL C r := by
  have h' := h
  unfold nextE at h
  unfold nextL
  split at h
  · contradiction
  · rename_i h1
    split at h
    · contradiction
    · rename_i h2
      rw [if_neg h1, if_neg h2]
      exact ⟨Decidable.not_not.1 h1, Decidable.not_not.1 h2, h, rfl⟩

/-- A right shelf stays so. -/
theorem work_right {C : List Rw} {r : Rc} (h : shelfE C = 0) (hw : workE C r = 0) : shelfE (workL C r) = 0 := by
  unfold workE at hw
  unfold workL
  split
  · rename_i h1
    rw [if_pos h1] at hw
    obtain ⟨_, h2, h3⟩ := bput_zero hw
    rw [h3]
    exact puts_shelf _ _ h h2
  · rename_i h1
    rw [if_neg h1] at hw
    split
    · rename_i h2
      rw [if_pos h2] at hw
      exact (seal_zero h hw).1
    · rename_i h2
      rw [if_neg h2] at hw
      split
      · rename_i h3
        rw [if_pos h3] at hw
        exact (mrg_zero h hw).1
      · rename_i h3
        rw [if_neg h3] at hw
        unfold dropL
        rw [if_pos hw]
        exact (drop_zero h).1

theorem next_right {C : List Rw} {r : Rc} (h : nextE C r = 0) : shelfE (nextL C r) = 0 := by
  obtain ⟨h1, _, h3, h4⟩ := next_zero h
  rw [h4]
  exact work_right h1 h3

theorem right_len {C : List Rw} (h : shelfE C = 0) : C.length = 4 := (shelfE_zero h).1

theorem next_len {C : List Rw} {r : Rc} : (nextL C r).length ≤ 4 := by
  by_cases h : nextE C r = 0
  · exact Nat.le_of_eq (right_len (next_right h))
  · rw [next_bad h]
    exact Nat.zero_le _

/-- Records one after the other. -/
def workAll : List Rw → List Rc → List Rw × Int
  | C, [] => (C, 0)
  | C, r :: l => if nextE C r = 0 then workAll (nextL C r) l else ([], nextE C r)

def newS : List Rw := [rw0, rw0, rw0, rw0]

def replE (l : List Rc) : Int := if 60 < l.length then 2 else (workAll newS l).2
def replL (l : List Rc) : List Rw := if 60 < l.length then [] else (workAll newS l).1

theorem fresh_right : shelfE newS = 0 := by decide

theorem workAll_cons (C : List Rw) (r : Rc) (l : List Rc) : workAll C (r :: l) = if nextE C r = 0 then workAll (nextL C r) l else ([], nextE C r) := rfl

theorem workAll_append : ∀ (a b : List Rc) (C : List Rw), workAll C (a ++ b) = if (workAll C a).2 = 0 then workAll (workAll C a).1 b else ([], (workAll C a).2)
  | [], b, C => by simp [workAll]
  | r :: a, b, C => by
    rw [List.cons_append, workAll_cons, workAll_cons]
    split
    · exact workAll_append a b _
    · rfl

theorem workAll_bad : ∀ (l : List Rc) (C : List Rw), (workAll C l).2 ≠ 0 → (workAll C l).1 = []
  | [], C, h => absurd rfl h
  | r :: l, C, h => by
    unfold workAll at h ⊢
    split
    · rename_i h1
      rw [if_pos h1] at h
      exact workAll_bad l _ h
    · rfl

theorem workAll_right : ∀ (l : List Rc) (C : List Rw), shelfE C = 0 → (workAll C l).2 = 0 → shelfE (workAll C l).1 = 0
  | [], C, h, _ => h
  | r :: l, C, h, h' => by
    unfold workAll at h' ⊢
    split at h'
    · rename_i h1
      rw [if_pos h1]
      exact workAll_right l _ (next_right h1) h'
    · rename_i h1
      exact absurd h' h1

theorem repl_len {l : List Rc} : (replL l).length ≤ 4 := by
  unfold replL
  split
  · exact Nat.zero_le _
  · by_cases h : (workAll newS l).2 = 0
    · exact Nat.le_of_eq (right_len (workAll_right l _ fresh_right h))
    · rw [workAll_bad _ _ h]
      exact Nat.zero_le _

/-- One record more. -/
theorem workAll_snoc (l : List Rc) (r : Rc) (C : List Rw) (h : (workAll C l).2 = 0) : workAll C (l ++ [r]) = if nextE (workAll C l).1 r = 0 then (nextL (workAll C l).1 r, 0) else ([], nextE (workAll C l).1 r) := by
  rw [workAll_append, if_pos h]
  rfl

/-- What comes behind an error changes nothing. -/
theorem workAll_stop (a b : List Rc) (r : Rc) (C : List Rw) (h : (workAll C a).2 = 0) (h' : nextE (workAll C a).1 r ≠ 0) : workAll C (a ++ r :: b) = ([], nextE (workAll C a).1 r) := by
  rw [workAll_append, if_pos h, workAll_cons, if_neg h']

end Go.Proofs.YtabeihkfjlmepaaGreatDoor

/-
  Records put and synced one by one, and replayed in two parts, as plain lists. No program is named.
-/
namespace Go.Proofs.YtabeihkfjlmepaaGreatDoor

theorem recT_small {r : Rc} (h : recE r = 0) : (recT r).length ≤ 665 := by
  by_cases h1 : r.k = 1
  · obtain ⟨_, _, e3, e4⟩ := recE_few h h1
    have eT : recT r = wBatch ++ numsT (ntNums r.e) := by unfold recT; rw [if_pos h, if_pos h1]
    have hl := numsT_le (ntNums r.e) (nums_in e4)
    rw [ntNums_length] at hl
    rw [eT, List.length_append]
    have : wBatch.length = 5 := rfl
    omega
  · obtain ⟨hk, _, _, e3, e4, e5, e6⟩ := recE_plain h h1
    have hb2 : ∀ n ∈ [r.s, r.n], -9223372036854775808 ≤ n ∧ n ≤ 9223372036854775807 := by
      intro n hn
      simp at hn
      omega
    have hb1 : ∀ n ∈ [r.n], -9223372036854775808 ≤ n ∧ n ≤ 9223372036854775807 := by
      intro n hn
      simp at hn
      omega
    have l2 := numsT_le [r.s, r.n] hb2
    have l1 := numsT_le [r.n] hb1
    simp only [List.length_cons, List.length_nil] at l1 l2
    unfold recT
    rw [if_pos h, if_neg h1]
    have w1 : wSeal.length = 4 := rfl
    have w2 : wMerge.length = 5 := rfl
    have w3 : wDrop.length = 4 := rfl
    split
    · rw [List.length_append]; omega
    · split
      · rw [List.length_append]; omega
      · rw [List.length_append]; omega

theorem logT_small : ∀ l : List Rc, (∀ r ∈ l, recE r = 0) → (logT l).length ≤ l.length * 666
  | [], _ => by simp [logT]
  | r :: l, h => by
    have e := logT_cons r l []
    rw [List.append_nil, List.append_nil] at e
    have h1 := recT_small (h r List.mem_cons_self)
    have h2 := logT_small l (fun x hx => h x (List.mem_cons_of_mem _ hx))
    rw [e, List.length_append, List.length_cons, List.length_cons]
    omega

/-- The disk behind so many records. -/
def dkOf (l : List Rc) : Dk := ⟨logT l, []⟩

theorem dkOf_ok {l : List Rc} (h : ∀ r ∈ l, recE r = 0) (h60 : l.length ≤ 60) : dkE (dkOf l) = 0 := by
  have hs := logT_small l h
  unfold dkE dkOf
  rw [if_neg (by simp only [List.length_nil]; omega), scan_log0 l h h60]

theorem dk_step {l : List Rc} {r : Rc} (h : ∀ x ∈ l ++ [r], recE x = 0) (h60 : (l ++ [r]).length ≤ 60) :
    dputE (dkOf l) r = 0 ∧ syncE (dputD (dkOf l) r) = 0 ∧ syncD (dputD (dkOf l) r) = dkOf (l ++ [r]) := by
  have hl : ∀ x ∈ l, recE x = 0 := fun x hx => h x (List.mem_append_left _ hx)
  have hr : recE r = 0 := h r (by simp)
  have l60 : l.length ≤ 60 := by rw [List.length_append] at h60; omega
  have d0 := dkOf_ok hl l60
  have s0 := logT_small l hl
  have s1 := recT_small hr
  have e1 : dputE (dkOf l) r = 0 := by
    unfold dputE
    rw [if_neg (by rw [d0]; simp), if_neg (by rw [hr]; simp), if_neg (by unfold dkOf; simp only [List.length_nil]; omega)]
  have e2 : dputD (dkOf l) r = ⟨logT l, recT r ++ [10]⟩ := by
    unfold dputD
    rw [if_pos e1]
    rfl
  have elog : logT l ++ (recT r ++ [10]) = logT (l ++ [r]) := by rw [logT_append, logT_one]
  have d1 := (put_ok' e1 d0).2
  have e3 : syncE (dputD (dkOf l) r) = 0 := by
    unfold syncE
    rw [if_neg (by rw [d1]; simp), e2]
    simp only
    rw [elog]
    exact dkOf_ok h h60
  refine ⟨e1, e3, ?_⟩
  unfold syncD
  rw [if_pos e3, e2]
  simp only
  rw [elog]
  rfl
 where
  put_ok' {d : Dk} {r : Rc} (h : dputE d r = 0) (_ : dkE d = 0) : True ∧ dkE (dputD d r) = 0 := ⟨trivial, (dput_ok h).2.2.2⟩

theorem dk_end {l : List Rc} (h : ∀ r ∈ l, recE r = 0) (h60 : l.length ≤ 60) : recL (dkOf l) = l := by
  have d0 := dkOf_ok h h60
  unfold recL dkL
  rw [if_pos d0, if_pos d0]
  unfold dkOf
  simp only
  rw [scan_log0 l h h60]
  simp only
  rw [tail_empty, List.append_nil]

/-- Each beginning of records that are replayed can be replayed. -/
theorem work_pre {R : List Rc} (h : (workAll newS R).2 = 0) (k : Nat) : (workAll newS (R.take k)).2 = 0 := by
  by_cases hz : (workAll newS (R.take k)).2 = 0
  · exact hz
  · have e : workAll newS R = workAll newS (R.take k ++ R.drop k) := by rw [List.take_append_drop]
    rw [e, workAll_append, if_neg hz] at h
    exact absurd h hz

theorem work_next {R : List Rc} (h : (workAll newS R).2 = 0) {k : Nat} {x : Rc} (hx : R[k]? = some x) :
    nextE (workAll newS (R.take k)).1 x = 0 ∧ workAll newS (R.take (k + 1)) = (nextL (workAll newS (R.take k)).1 x, 0) := by
  have h1 := work_pre h k
  have h2 := work_pre h (k + 1)
  have e : R.take (k + 1) = R.take k ++ [x] := by rw [List.take_add_one, hx]; rfl
  have s := workAll_snoc (R.take k) x newS h1
  rw [← e] at s
  by_cases hz : nextE (workAll newS (R.take k)).1 x = 0
  · rw [if_pos hz] at s
    exact ⟨hz, s⟩
  · rw [if_neg hz] at s
    rw [s] at h2
    exact absurd h2 hz

theorem work_recs : ∀ (l : List Rc) (C : List Rw), (workAll C l).2 = 0 → ∀ r ∈ l, recE r = 0
  | [], _, _, r, hr => by simp at hr
  | x :: l, C, h, r, hr => by
    rw [workAll_cons] at h
    split at h
    · rename_i h0
      rcases List.mem_cons.1 hr with rfl | hr
      · exact (next_zero h0).2.1
      · exact work_recs l _ h r hr
    · rename_i h0
      exact absurd h h0

end Go.Proofs.YtabeihkfjlmepaaGreatDoor

/-
  block.Make: what it answers, whatever it is handed; nothing that was there is written.
-/
namespace Go.Proofs.YtabeihkfjlmepaaGreatDoor
open Go.RowKit

set_option maxHeartbeats 400000 in
set_option maxRecDepth 100000 in
theorem make_ok (ao : Option Addr) (cap : Nat) (l : List Pt) (w : World) (hr : SlP w ao cap l) (h : checkE l = 0) (hl : 0 < l.length) :
    Calls Tryz.prog 71 #[.slice ao l.length cap] w fun e w' =>
      ∃ a' G, e = .returned (.tuple #[.agg #[.int .i64 l.length, .int .i64 (firstT l), .int .i64 (endT l), .slice a' (packL l).length G], .int .i64 0]) ∧ Sl w' a' G ((packL l).map Value.bool) ∧ Below w.heap.size w w' := by
  have c1 := fun W h => pack_any ao cap l W h
  rw [h] at c1
  have h40 := (checkE_zero h).1
  obtain ⟨b, off, rfl, hb⟩ := hr.where (by intro e; rw [e] at hl; simp at hl)
  have s0 := fun W (h : SlP W (some ⟨b, off, none⟩) cap l) => h.first hl
  have s1 := fun W (h : SlP W (some ⟨b, off, none⟩) cap l) => h.last hl
  generalize packL l = P at *
  generalize firstT l = X at *
  generalize endT l = Y at *
  obtain ⟨n, hn⟩ : ∃ n, n + 1 = l.length := ⟨l.length - 1, by omega⟩
  rw [← hn] at c1 s1 h40 ⊢
  clear hn hl h
  go_enter Tryz.func71, Tryz.ntmps71
  go_wp2_with fail
  go_at_call 100
  refine (c1 _ (hr.alloc _)).mono ?_
  rintro e w1 ⟨a1, G1, rfl, t1, b1⟩
  have B0 := (Blk.laid w [.int .i64 0, .int .i64 0, .int .i64 0, .slice none 0 0] 113 _ rfl).keep b1 (by simp)
  have bel := belowCall ((Below.refl _ _).alloc (Nat.le_refl _) _) b1
  have hr1 := (hr.alloc _).call b1
  have e0 := s0 _ hr1
  have e1 := s1 _ hr1
  clear c1 s0 s1 b1
  simp only [Nat.add_sub_cancel] at e1
  have f0 := B0.free 0
  have f1 := B0.free 1
  have f2 := B0.free 2
  have f3 := B0.free 3
  have d0 : w1.cell? ⟨w.heap.size, 0, none⟩ = some (.int .i64 0) := B0.cell 0
  have d1 : w1.cell? ⟨w.heap.size, 1, none⟩ = some (.int .i64 0) := B0.cell 1
  have d2 : w1.cell? ⟨w.heap.size, 2, none⟩ = some (.int .i64 0) := B0.cell 2
  have d3 : w1.cell? ⟨w.heap.size, 3, none⟩ = some (.slice none 0 0) := B0.cell 3
  have hgl := B0.lt
  go_wp2_with fail
  go_region
  go_wp2_with fail
  have B4 := (B0.put4 (.int .i64 ((n : Int) + 1)) (.int .i64 X) (.int .i64 Y) (.slice a1 P.length G1)).drewS
  have bel4 := belowDrew (below4 bel (g := w.heap.size) (Nat.le_refl _) (.int .i64 ((n : Int) + 1)) (.int .i64 X) (.int .i64 Y) (.slice a1 P.length G1))
  have t4 := (t1.put4 B0 (.int .i64 ((n : Int) + 1)) (.int .i64 X) (.int .i64 Y) (.slice a1 P.length G1)).drewS
  generalize (World.setCell _ _ _).drew = w5 at *
  have i0 : w5.cell? ⟨w.heap.size, 0, none⟩ = some (.int .i64 ((n : Int) + 1)) := B4.cell 0
  have i1 : w5.cell? ⟨w.heap.size, 1, none⟩ = some (.int .i64 X) := B4.cell 1
  have i2 : w5.cell? ⟨w.heap.size, 2, none⟩ = some (.int .i64 Y) := B4.cell 2
  have i3 : w5.cell? ⟨w.heap.size, 3, none⟩ = some (.slice a1 P.length G1) := B4.cell 3
  exact bodyPost_ret (v := .tuple #[.agg #[.int .i64 ((n : Int) + 1), .int .i64 X, .int .i64 Y, .slice a1 P.length G1], .int .i64 0]) (by simp [results, Tryz.results71, go_sem, i0, i1, i2, i3]) rfl ⟨a1, G1, by simp, t4, bel4⟩

set_option maxHeartbeats 400000 in
set_option maxRecDepth 100000 in
theorem make_no (ao : Option Addr) (cap : Nat) (l : List Pt) (w : World) (hr : SlP w ao cap l) (h : ¬ makeE l = 0) :
    Calls Tryz.prog 71 #[.slice ao l.length cap] w fun e w' =>
      e = .returned (.tuple #[.agg #[.int .i64 0, .int .i64 0, .int .i64 0, .slice none 0 0], .int .i64 (makeE l)]) ∧ Below w.heap.size w w' := by
  have c1 := fun W h => pack_any ao cap l W h
  unfold makeE at h ⊢
  by_cases h0 : checkE l = 0
  · rw [h0] at c1
    rw [if_pos h0] at h ⊢
    by_cases h1 : l.length = 0
    · rw [if_pos h1, h1]
      rw [h1] at c1
      generalize packL l = P at *
      clear h h0 h1
      go_enter Tryz.func71, Tryz.ntmps71
      go_wp2_with fail
      go_at_call 100
      refine (c1 _ (hr.alloc _)).mono ?_
      rintro e w1 ⟨a1, G1, rfl, t1, b1⟩
      have B0 := (Blk.laid w [.int .i64 0, .int .i64 0, .int .i64 0, .slice none 0 0] 113 _ rfl).keep b1 (by simp)
      have bel := belowCall ((Below.refl _ _).alloc (Nat.le_refl _) _) b1
      clear c1 b1
      have f0 := B0.free 0
      have f1 := B0.free 1
      have f2 := B0.free 2
      have f3 := B0.free 3
      have d0 : w1.cell? ⟨w.heap.size, 0, none⟩ = some (.int .i64 0) := B0.cell 0
      have d1 : w1.cell? ⟨w.heap.size, 1, none⟩ = some (.int .i64 0) := B0.cell 1
      have d2 : w1.cell? ⟨w.heap.size, 2, none⟩ = some (.int .i64 0) := B0.cell 2
      have d3 : w1.cell? ⟨w.heap.size, 3, none⟩ = some (.slice none 0 0) := B0.cell 3
      have hgl := B0.lt
      go_wp2_with fail
      have B4 := B0.put4 (.int .i64 0) (.int .i64 0) (.int .i64 0) (.slice none 0 0)
      have bel4 := below4 bel (g := w.heap.size) (Nat.le_refl _) (.int .i64 0) (.int .i64 0) (.int .i64 0) (.slice none 0 0)
      generalize World.setCell _ _ _ = w5 at *
      have i0 : w5.cell? ⟨w.heap.size, 0, none⟩ = some (.int .i64 0) := B4.cell 0
      have i1 : w5.cell? ⟨w.heap.size, 1, none⟩ = some (.int .i64 0) := B4.cell 1
      have i2 : w5.cell? ⟨w.heap.size, 2, none⟩ = some (.int .i64 0) := B4.cell 2
      have i3 : w5.cell? ⟨w.heap.size, 3, none⟩ = some (.slice none 0 0) := B4.cell 3
      exact bodyPost_ret (v := .tuple #[.agg #[.int .i64 0, .int .i64 0, .int .i64 0, .slice none 0 0], .int .i64 4]) (by simp [results, Tryz.results71, go_sem, i0, i1, i2, i3]) rfl ⟨rfl, bel4⟩
    · rw [if_neg h1] at h
      exact absurd rfl h
  · rw [if_neg h0]
    generalize packL l = P at *
    generalize checkE l = E at *
    generalize l.length = n at *
    clear h
    go_enter Tryz.func71, Tryz.ntmps71
    go_wp2_with fail
    go_at_call 100
    refine (c1 _ (hr.alloc _)).mono ?_
    rintro e w1 ⟨a1, G1, rfl, t1, b1⟩
    have B0 := (Blk.laid w [.int .i64 0, .int .i64 0, .int .i64 0, .slice none 0 0] 113 _ rfl).keep b1 (by simp)
    have bel := belowCall ((Below.refl _ _).alloc (Nat.le_refl _) _) b1
    clear c1 b1
    have f0 := B0.free 0
    have f1 := B0.free 1
    have f2 := B0.free 2
    have f3 := B0.free 3
    have d0 : w1.cell? ⟨w.heap.size, 0, none⟩ = some (.int .i64 0) := B0.cell 0
    have d1 : w1.cell? ⟨w.heap.size, 1, none⟩ = some (.int .i64 0) := B0.cell 1
    have d2 : w1.cell? ⟨w.heap.size, 2, none⟩ = some (.int .i64 0) := B0.cell 2
    have d3 : w1.cell? ⟨w.heap.size, 3, none⟩ = some (.slice none 0 0) := B0.cell 3
    have hgl := B0.lt
    go_wp2_with fail
    have B4 := B0.put4 (.int .i64 0) (.int .i64 0) (.int .i64 0) (.slice none 0 0)
    have bel4 := below4 bel (g := w.heap.size) (Nat.le_refl _) (.int .i64 0) (.int .i64 0) (.int .i64 0) (.slice none 0 0)
    generalize World.setCell _ _ _ = w5 at *
    have i0 : w5.cell? ⟨w.heap.size, 0, none⟩ = some (.int .i64 0) := B4.cell 0
    have i1 : w5.cell? ⟨w.heap.size, 1, none⟩ = some (.int .i64 0) := B4.cell 1
    have i2 : w5.cell? ⟨w.heap.size, 2, none⟩ = some (.int .i64 0) := B4.cell 2
    have i3 : w5.cell? ⟨w.heap.size, 3, none⟩ = some (.slice none 0 0) := B4.cell 3
    exact bodyPost_ret (v := .tuple #[.agg #[.int .i64 0, .int .i64 0, .int .i64 0, .slice none 0 0], .int .i64 E]) (by simp [results, Tryz.results71, go_sem, i0, i1, i2, i3]) rfl ⟨rfl, bel4⟩

/-- Make, whatever it is handed. -/
theorem make_any (ao : Option Addr) (cap : Nat) (l : List Pt) (w : World) (hr : SlP w ao cap l) :
    Calls Tryz.prog 71 #[.slice ao l.length cap] w fun e w' =>
      ∃ a' G, e = .returned (.tuple #[bkV (makeB l) a' G, .int .i64 (makeE l)]) ∧ Sl w' a' G ((makeB l).bits.map Value.bool) ∧ Below w.heap.size w w' := by
  by_cases h : makeE l = 0
  · have hc : checkE l = 0 ∧ 0 < l.length := by
      unfold makeE at h
      by_cases h0 : checkE l = 0
      · rw [if_pos h0] at h
        refine ⟨h0, ?_⟩
        by_cases h1 : l.length = 0
        · rw [if_pos h1] at h; cases h
        · omega
      · rw [if_neg h0] at h
        exact absurd h h0
    rw [makeB_eq hc.1 hc.2, h]
    exact make_ok ao cap l w hr hc.1 hc.2
  · have e : makeB l = bk0 := if_neg h
    rw [e]
    refine (make_no ao cap l w hr h).mono ?_
    rintro e w' ⟨rfl, b⟩
    exact ⟨none, 0, rfl, Sl.ofNil _, b⟩

end Go.Proofs.YtabeihkfjlmepaaGreatDoor

/-
  block.Points: what it answers, whatever it is handed; nothing that was there is written.
-/
namespace Go.Proofs.YtabeihkfjlmepaaGreatDoor
open Go.RowKit

set_option maxHeartbeats 400000 in
set_option maxRecDepth 100000 in
theorem bpoints_err (b : Bk) (ao : Option Addr) (cap : Nat) (w : World) (hr : Sl w ao cap (b.bits.map Value.bool)) (hl : b.bits.length ≤ 140737488355328) (h : ¬ unpE b.bits b.n = 0) :
    Calls Tryz.prog 94 #[bkV b ao cap] w fun e w' => e = .returned (.tuple #[.slice none 0 0, .int .i64 (unpE b.bits b.n)]) ∧ Below w.heap.size w w' := by
  have c1 := fun W h => unpack_any ao cap b.bits b.n W h hl
  obtain ⟨N, fr, tv, X⟩ := b
  unfold bkV
  simp only at *
  generalize unpL X N = U at *
  generalize unpE X N = E at *
  clear hl
  go_enter Tryz.func94, Tryz.ntmps94
  go_wp2_with fail
  go_at_call 115
  refine (c1 _ (hr.alloc _)).mono ?_
  rintro e w1 ⟨a1, G1, rfl, s1, b1⟩
  have bel := belowCall ((Below.refl _ _).alloc (Nat.le_refl _) _) b1
  clear c1 b1
  go_wp2_with fail
  go_ret2
  exact ⟨rfl, bel⟩

set_option maxHeartbeats 400000 in
set_option maxRecDepth 100000 in
theorem bpoints_none (b : Bk) (ao : Option Addr) (cap : Nat) (w : World) (hr : Sl w ao cap (b.bits.map Value.bool)) (hl : b.bits.length ≤ 140737488355328) (h : unpE b.bits b.n = 0) (h0 : (unpL b.bits b.n).length = 0) :
    Calls Tryz.prog 94 #[bkV b ao cap] w fun e w' => e = .returned (.tuple #[.slice none 0 0, .int .i64 4]) ∧ Below w.heap.size w w' := by
  have c1 := fun W h => unpack_any ao cap b.bits b.n W h hl
  obtain ⟨N, fr, tv, X⟩ := b
  unfold bkV
  simp only at *
  rw [h, h0] at c1
  generalize unpL X N = U at *
  clear hl h h0
  go_enter Tryz.func94, Tryz.ntmps94
  go_wp2_with fail
  go_at_call 115
  refine (c1 _ (hr.alloc _)).mono ?_
  rintro e w1 ⟨a1, G1, rfl, s1, b1⟩
  have bel := belowCall ((Below.refl _ _).alloc (Nat.le_refl _) _) b1
  clear c1 b1
  go_wp2_with fail
  go_quiet (fail)
  go_wp2_with fail
  go_ret2
  exact ⟨rfl, belowDrewN bel _⟩

set_option maxHeartbeats 400000 in
set_option maxRecDepth 100000 in
theorem bpoints_some (b : Bk) (ao : Option Addr) (cap : Nat) (w : World) (hr : Sl w ao cap (b.bits.map Value.bool)) (hl : b.bits.length ≤ 140737488355328) (h : unpE b.bits b.n = 0) (h0 : 0 < (unpL b.bits b.n).length) :
    Calls Tryz.prog 94 #[bkV b ao cap] w fun e w' => ∃ a' G, e = .returned (.tuple #[if fitsB b (unpL b.bits b.n) = true then .slice a' (unpL b.bits b.n).length G else .slice none 0 0, .int .i64 (if fitsB b (unpL b.bits b.n) = true then 0 else 4)]) ∧ SlP w' a' G (unpL b.bits b.n) ∧ Below w.heap.size w w' := by
  have c1 := fun W h => unpack_any ao cap b.bits b.n W h hl
  have h40 := unpL_length b.bits b.n
  obtain ⟨N, fr, tv, X⟩ := b
  unfold bkV fitsB
  simp only at *
  rw [h] at c1
  generalize unpL X N = U at *
  have s0 := fun W b off cap (h : SlP W (some ⟨b, off, none⟩) cap U) => h.first h0
  have s1 := fun W b off cap (h : SlP W (some ⟨b, off, none⟩) cap U) => h.last h0
  have hne : U ≠ [] := by intro e; rw [e] at h0; simp at h0
  generalize firstT U = P at *
  generalize endT U = Q at *
  obtain ⟨n, hn⟩ : ∃ n, n + 1 = U.length := ⟨U.length - 1, by omega⟩
  rw [← hn] at c1 s1 h40 ⊢
  simp only [Nat.add_sub_cancel] at s1
  clear hl h h0 hn
  have fin : decide (0 < n + 1 ∧ fr = P ∧ tv = Q) = decide (fr = P ∧ tv = Q) := by simp
  rw [fin]
  clear fin
  have hz : ((n : Int) + 1 == 0) = false := by simp; omega
  by_cases g1 : fr = P
  · subst g1
    by_cases g2 : tv = Q
    · subst g2
      rw [show decide (fr = fr ∧ tv = tv) = true by simp]
      simp only [if_true]
      go_enter Tryz.func94, Tryz.ntmps94
      go_wp2_with fail
      go_at_call 115
      refine (c1 _ (hr.alloc _)).mono ?_
      rintro e w1 ⟨a1, G1, rfl, t1, b1⟩
      have B0 := (Blk.laid w [.int .i64 N, .int .i64 fr, .int .i64 tv, .slice ao X.length cap] 113 _ rfl).keep b1 (by simp)
      have bel := belowCall ((Below.refl _ _).alloc (Nat.le_refl _) _) b1
      obtain ⟨ub, uo, rfl, hub⟩ := t1.where hne
      have e0 := s0 _ _ _ _ t1
      have e1 := s1 _ _ _ _ t1
      have d1 : w1.cell? ⟨w.heap.size, 1, none⟩ = some (.int .i64 fr) := B0.cell 1
      have d2 : w1.cell? ⟨w.heap.size, 2, none⟩ = some (.int .i64 tv) := B0.cell 2
      have hgl := B0.lt
      clear c1 b1 s0 s1
      go_wp2_with fail
      go_region
      go_wp2_with fail
      go_ret2
      exact ⟨_, _, rfl, t1.drewS, belowDrew bel⟩
    · rw [show decide (fr = fr ∧ tv = Q) = false by simp [g2]]
      simp only [Bool.false_eq_true, if_false]
      go_enter Tryz.func94, Tryz.ntmps94
      go_wp2_with fail
      go_at_call 115
      refine (c1 _ (hr.alloc _)).mono ?_
      rintro e w1 ⟨a1, G1, rfl, t1, b1⟩
      have B0 := (Blk.laid w [.int .i64 N, .int .i64 fr, .int .i64 tv, .slice ao X.length cap] 113 _ rfl).keep b1 (by simp)
      have bel := belowCall ((Below.refl _ _).alloc (Nat.le_refl _) _) b1
      obtain ⟨ub, uo, rfl, hub⟩ := t1.where hne
      have e0 := s0 _ _ _ _ t1
      have e1 := s1 _ _ _ _ t1
      have d1 : w1.cell? ⟨w.heap.size, 1, none⟩ = some (.int .i64 fr) := B0.cell 1
      have d2 : w1.cell? ⟨w.heap.size, 2, none⟩ = some (.int .i64 tv) := B0.cell 2
      have hgl := B0.lt
      clear c1 b1 s0 s1
      go_wp2_with fail
      go_region
      go_wp2_with fail
      go_ret2
      exact ⟨_, _, rfl, t1.drewS, belowDrew bel⟩
  · rw [show decide (fr = P ∧ tv = Q) = false by simp [g1]]
    simp only [Bool.false_eq_true, if_false]
    go_enter Tryz.func94, Tryz.ntmps94
    go_wp2_with fail
    go_at_call 115
    refine (c1 _ (hr.alloc _)).mono ?_
    rintro e w1 ⟨a1, G1, rfl, t1, b1⟩
    have B0 := (Blk.laid w [.int .i64 N, .int .i64 fr, .int .i64 tv, .slice ao X.length cap] 113 _ rfl).keep b1 (by simp)
    have bel := belowCall ((Below.refl _ _).alloc (Nat.le_refl _) _) b1
    obtain ⟨ub, uo, rfl, hub⟩ := t1.where hne
    have e0 := s0 _ _ _ _ t1
    have e1 := s1 _ _ _ _ t1
    have d1 : w1.cell? ⟨w.heap.size, 1, none⟩ = some (.int .i64 fr) := B0.cell 1
    have d2 : w1.cell? ⟨w.heap.size, 2, none⟩ = some (.int .i64 tv) := B0.cell 2
    have hgl := B0.lt
    clear c1 b1 s0 s1
    go_wp2_with fail
    go_quiet (fail)
    go_wp2_with fail
    go_ret2
    exact ⟨_, _, rfl, t1.drewN _, belowDrewN bel _⟩

/-- Points, whatever it is handed. -/
theorem bpoints_any (b : Bk) (ao : Option Addr) (cap : Nat) (w : World) (hr : Sl w ao cap (b.bits.map Value.bool)) (hl : b.bits.length ≤ 140737488355328) :
    Calls Tryz.prog 94 #[bkV b ao cap] w fun e w' => ∃ a' G, e = .returned (.tuple #[.slice a' (ptsL b).length G, .int .i64 (ptsE b)]) ∧ SlP w' a' G (ptsL b) ∧ Below w.heap.size w w' := by
  by_cases h : unpE b.bits b.n = 0
  · by_cases h0 : (unpL b.bits b.n).length = 0
    · have hf : fitsB b (unpL b.bits b.n) = false := decide_eq_false (by omega)
      have he : ptsE b = 4 := by unfold ptsE; rw [if_pos h, hf]; rfl
      have hL : ptsL b = [] := by unfold ptsL; rw [he]; rfl
      rw [he, hL]
      refine (bpoints_none b ao cap w hr hl h h0).mono ?_
      rintro e w' ⟨rfl, hb⟩
      exact ⟨none, 0, rfl, SlP.ofNil _, hb⟩
    · cases hf : fitsB b (unpL b.bits b.n) with
      | true =>
        have he : ptsE b = 0 := by unfold ptsE; rw [if_pos h, hf]; rfl
        have hL : ptsL b = unpL b.bits b.n := by unfold ptsL; rw [he]; rfl
        rw [he, hL]
        refine (bpoints_some b ao cap w hr hl h (by omega)).mono ?_
        rw [hf]
        rintro e w' ⟨a', G, rfl, hs, hb⟩
        exact ⟨a', G, rfl, hs, hb⟩
      | false =>
        have he : ptsE b = 4 := by unfold ptsE; rw [if_pos h, hf]; rfl
        have hL : ptsL b = [] := by unfold ptsL; rw [he]; rfl
        rw [he, hL]
        refine (bpoints_some b ao cap w hr hl h (by omega)).mono ?_
        rw [hf]
        rintro e w' ⟨a', G, rfl, hs, hb⟩
        exact ⟨none, 0, rfl, SlP.ofNil _, hb⟩
  · have he : ptsE b = unpE b.bits b.n := if_neg h
    have hL : ptsL b = [] := by unfold ptsL; rw [he, if_neg h]
    rw [he, hL]
    refine (bpoints_err b ao cap w hr hl h).mono ?_
    rintro e w' ⟨rfl, hb⟩
    exact ⟨none, 0, rfl, SlP.ofNil _, hb⟩

end Go.Proofs.YtabeihkfjlmepaaGreatDoor
