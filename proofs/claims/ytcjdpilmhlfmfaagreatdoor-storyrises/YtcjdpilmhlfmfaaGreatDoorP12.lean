/-
  What a batch, a seal, a merge and a drop do to the points of each series, as plain lists. No program is named.
-/
import Derived.Lib.Split
import Derived.Test.YtcjdpilmhlfmfaaGreatDoorP11
import Derived.Test.YtcjdpilmhlfmfaaGreatDoorP06
import Derived.Test.YtcjdpilmhlfmfaaGreatDoorP08
import Derived.Test.YtcjdpilmhlfmfaaGreatDoorP09
import Derived.Test.YtcjdpilmhlfmfaaGreatDoorP10
namespace Go.Proofs.YtcjdpilmhlfmfaaGreatDoor
open Go.RowKit

theorem rowsE_of : ∀ {l : List Rw}, (∀ r ∈ l, rowE r = 0) → rowsE l = 0
  | [], _ => rfl
  | x :: l, h => by
    unfold rowsE
    rw [if_pos (h x List.mem_cons_self)]
    exact rowsE_of (fun r hr => h r (List.mem_cons_of_mem _ hr))

theorem shelfE_of {l : List Rw} (h4 : l.length = 4) (h : ∀ r ∈ l, rowE r = 0) : shelfE l = 0 := by
  unfold shelfE
  rw [if_pos h4]
  exact rowsE_of h

theorem shelfE_mem {l : List Rw} (h : shelfE l = 0) : l.length = 4 ∧ ∀ r ∈ l, rowE r = 0 :=
  ⟨(shelfE_zero h).1, rowsE_zero (shelfE_zero h).2⟩

theorem getD_mem {l : List Rw} {k : Nat} (hk : k < l.length) : l.getD k rw0 ∈ l := by
  rw [List.getD, List.getElem?_eq_getElem hk]
  exact List.getElem_mem hk

theorem shelfE_set {l : List Rw} {k : Nat} {r : Rw} (h : shelfE l = 0) (hr : rowE r = 0) : shelfE (l.set k r) = 0 := by
  obtain ⟨h4, hm⟩ := shelfE_mem h
  refine shelfE_of (by rw [List.length_set]; exact h4) (fun x hx => ?_)
  rcases List.mem_or_eq_of_mem_set hx with hx | rfl
  · exact hm x hx
  · exact hr

theorem getD_set {l : List Rw} {k j : Nat} {r : Rw} (hk : k < l.length) : (l.set k r).getD j rw0 = if j = k then r else l.getD j rw0 := by
  rw [List.getD, List.getD]
  by_cases h : j = k
  · subst h
    rw [if_pos rfl, List.getElem?_set_self hk]
    rfl
  · rw [if_neg h, List.getElem?_set_ne (fun e => h e.symm)]

theorem puts_shelf : ∀ (L : List En) (l : List Rw), shelfE l = 0 → putsE l L = 0 → shelfE (putsL l L) = 0
  | [], l, h, _ => h
  | x :: r, l, h, h' => by
    unfold putsE at h'
    split at h'
    · rename_i h0
      exact puts_shelf r _ (shelfE_set h (putRowE_zero h0).2) h'
    · rename_i h0
      exact absurd h' h0

theorem bput_zero {l : List Rw} {L : List En} (h : bputE l L = 0) : L.length ≤ 10 ∧ putsE l L = 0 ∧ bputL l L = putsL l L := by
  have h' := h
  unfold bputE at h
  split at h
  · cases h
  · exact ⟨by omega, h, by unfold bputL; rw [if_pos h']⟩

theorem seal_zero {l : List Rw} {s n : Int} (h : shelfE l = 0) (hs : sealE l s n = 0) :
    shelfE (sealL l s n) = 0 ∧ ∀ j : Nat, allPts ((sealL l s n).getD j rw0) = allPts (l.getD j rw0) := by
  have hs' := hs
  unfold sealE at hs
  split at hs
  · cases hs
  · rename_i h0
    split at hs
    · cases hs
    · rename_i h1
      split at hs
      · cases hs
      · rename_i h2
        obtain ⟨k, rfl, hk⟩ := inI_nat (by simpa using h0)
        rw [Int.toNat_natCast] at h1 h2
        have hn : 1 ≤ n ∧ n ≤ (l.getD k rw0).head.length := by
          have : inI n 1 (l.getD k rw0).head.length = true := by simpa using h1
          exact of_decide_eq_true this
        obtain ⟨h4, hm⟩ := shelfE_mem h
        have hr := hm _ (getD_mem (l := l) (k := k) (by omega))
        obtain ⟨a1, a2⟩ := row_seal hr n.toNat (by omega) (by omega) (by omega)
        unfold sealL
        rw [if_pos hs', Int.toNat_natCast]
        refine ⟨shelfE_set h a1, fun j => ?_⟩
        rw [getD_set (by omega)]
        split
        · rename_i e
          rw [e, a2]
        · rfl

theorem blk_get {r : Rw} {q : Nat} (h : q < r.blocks.length) : r.blocks[q]? = some (blkAt r q) := by
  unfold blkAt
  rw [List.getD, List.getElem?_eq_getElem h]
  rfl

theorem mrg_zero {l : List Rw} {s n : Int} (h : shelfE l = 0) (hs : mrgE l s n = 0) :
    shelfE (mrgL l s n) = 0 ∧ ∀ j : Nat, allPts ((mrgL l s n).getD j rw0) = allPts (l.getD j rw0) := by
  have hs' := hs
  unfold mrgE at hs
  split at hs
  · cases hs
  · rename_i h0
    split at hs
    · cases hs
    · rename_i h1
      obtain ⟨k, rfl, hk⟩ := inI_nat (by simpa using h0)
      rw [Int.toNat_natCast] at h1 hs
      have hn : 0 ≤ n ∧ n ≤ (l.getD k rw0).blocks.length - 2 := by
        have : inI n 0 ((l.getD k rw0).blocks.length - 2) = true := by simpa using h1
        exact of_decide_eq_true this
      obtain ⟨q, rfl⟩ := Int.eq_ofNat_of_zero_le hn.1
      obtain ⟨h4, hm⟩ := shelfE_mem h
      have hr := hm _ (getD_mem (l := l) (k := k) (by omega))
      rw [Int.toNat_natCast] at hs
      have b0 := blk_get (r := l.getD k rw0) (q := q) (by omega)
      have b1 := blk_get (r := l.getD k rw0) (q := q + 1) (by omega)
      obtain ⟨a1, a2⟩ := row_merge hr q _ _ b0 b1
      unfold mrgL
      rw [if_pos hs', Int.toNat_natCast, Int.toNat_natCast]
      refine ⟨shelfE_set h a1, fun j => ?_⟩
      rw [getD_set (by omega)]
      split
      · rename_i e
        rw [e, a2]
      · rfl

/-- Points that are right rise by time. -/
theorem chk_rises : ∀ (l : List Pt) (a : Int), chk a l = 0 → l.Pairwise (fun p q => p.1 < q.1) ∧ ∀ p ∈ l, a < p.1 ∧ ptOk p = true
  | [], _, _ => ⟨List.Pairwise.nil, fun p hp => by simp at hp⟩
  | p :: r, a, h => by
    obtain ⟨h1, h2, h3⟩ := chk_cons h
    obtain ⟨i1, i2⟩ := chk_rises r p.1 h3
    refine ⟨List.Pairwise.cons (fun q hq => (i2 q hq).1) i1, fun q hq => ?_⟩
    rcases List.mem_cons.1 hq with rfl | hq
    · exact ⟨h2, h1⟩
    · exact ⟨by have := (i2 q hq).1; omega, (i2 q hq).2⟩

theorem check_rises {l : List Pt} (h : checkE l = 0) : l.Pairwise (fun p q => p.1 < q.1) ∧ ∀ p ∈ l, ptOk p = true := by
  unfold checkE at h
  split at h
  · cases h
  · obtain ⟨h1, h2⟩ := chk_rises l _ h
    exact ⟨h1, fun p hp => (h2 p hp).2⟩

theorem pts_to {b : Bk} (h : ptsE b = 0) : b.to = endT (ptsL b) := by
  have h' := h
  unfold ptsE at h
  split at h
  · split at h
    · rename_i hf
      have := (of_decide_eq_true hf : 0 < _ ∧ _).2.2
      unfold ptsL
      rw [if_pos h']
      exact this
    · cases h
  · rename_i hn
    exact absurd h hn

theorem endT_mem {l : List Pt} (h : 0 < l.length) : ∃ p ∈ l, p.1 = endT l ∧ l.getLast? = some p := by
  have hk : l.length - 1 < l.length := by omega
  refine ⟨l[l.length - 1], List.getElem_mem hk, ?_, ?_⟩
  · unfold endT
    rw [List.getD, List.getElem?_eq_getElem hk]
    rfl
  · rw [List.getLast?_eq_getElem?, List.getElem?_eq_getElem hk]

theorem rises_end {l : List Pt} (h : l.Pairwise (fun p q => p.1 < q.1)) (p : Pt) (hp : p ∈ l) : p.1 ≤ endT l := by
  obtain ⟨i, hi, rfl⟩ := List.mem_iff_getElem.1 hp
  unfold endT
  have hk : l.length - 1 < l.length := by omega
  rw [List.getD, List.getElem?_eq_getElem hk]
  show l[i].1 ≤ l[l.length - 1].1
  by_cases e : i = l.length - 1
  · subst e
    exact Int.le_refl _
  · exact Int.le_of_lt (List.pairwise_iff_getElem.1 h i (l.length - 1) hi hk (by omega))

/-- The blocks that go are the first ones. -/
theorem drop_blocks (n : Int) : ∀ (bs : List Bk), blksE bs = 0 → (blksL bs).Pairwise (fun p q => p.1 < q.1) →
    ∃ A B, bs = A ++ B ∧ bs.filter (fun b => !decide (b.to < n)) = B ∧ ∀ p ∈ blksL A, p.1 < n
  | [], _, _ => ⟨[], [], rfl, rfl, fun p hp => by simp [blksL] at hp⟩
  | b :: r, h, hp => by
    unfold blksE at h
    split at h
    · rename_i h0
      have hl : blksL (b :: r) = ptsL b ++ blksL r := rfl
      rw [hl, List.pairwise_append] at hp
      obtain ⟨p1, p2, p3⟩ := hp
      have et := pts_to h0
      have pos := ptsL_pos h0
      by_cases hb : b.to < n
      · obtain ⟨A, B, e1, e2, e3⟩ := drop_blocks n r h p2
        refine ⟨b :: A, B, by rw [e1]; rfl, by rw [List.filter_cons_of_neg (by simpa using hb)]; exact e2, fun p hp => ?_⟩
        rw [show blksL (b :: A) = ptsL b ++ blksL A from rfl, List.mem_append] at hp
        rcases hp with hp | hp
        · have := rises_end p1 p hp
          omega
        · exact e3 p hp
      · refine ⟨[], b :: r, rfl, ?_, fun p hp => by simp [blksL] at hp⟩
        rw [List.filter_eq_self]
        intro c hc
        rcases List.mem_cons.1 hc with rfl | hc
        · simpa using hb
        · have hc0 := blksE_mem h c hc
          obtain ⟨q, hq, eq, _⟩ := endT_mem (ptsL_pos hc0)
          obtain ⟨u, hu, eu, _⟩ := endT_mem pos
          have := p3 u hu q (List.mem_flatMap.2 ⟨c, hc, hq⟩)
          have ec := pts_to hc0
          have : ¬ c.to < n := by omega
          simpa using this
    · rename_i h0
      exact absurd h h0

theorem drop_row {n : Int} {r : Rw} (h : rowE r = 0) : rowE (dropRw n r) = 0 ∧ ∃ m, m ≤ (allPts r).length ∧ allPts (dropRw n r) = (allPts r).drop m ∧ ∀ p ∈ (allPts r).take m, p.1 < n := by
  obtain ⟨z1, z2, z3⟩ := rowE_zero h
  have hr := (check_rises z3).1
  unfold allPts at hr
  rw [List.pairwise_append] at hr
  obtain ⟨A, B, e1, e2, e3⟩ := drop_blocks n r.blocks z2 hr.1
  have ea : allPts (dropRw n r) = (allPts r).drop (blksL A).length := by
    unfold allPts dropRw
    simp only
    rw [e2]
    conv => rhs; rw [e1, blksL_append, List.append_assoc, List.drop_left' rfl]
  have zB : blksE B = 0 := by
    rw [e1, blksE_append] at z2
    by_cases h0 : blksE A = 0
    · rwa [if_pos h0] at z2
    · rw [if_neg h0] at z2
      exact absurd z2 h0
  refine ⟨rowE_of ?_ (by show blksE (r.blocks.filter _) = 0; rw [e2]; exact zB) (by rw [ea]; exact check_drop z3 _), (blksL A).length, ?_, ea, ?_⟩
  · show (r.blocks.filter _).length ≤ 8
    exact Nat.le_trans (List.length_filter_le _ _) z1
  · unfold allPts
    rw [e1, blksL_append, List.length_append, List.length_append]
    omega
  · intro p hp
    unfold allPts at hp
    rw [e1, blksL_append, List.append_assoc, List.take_left' rfl] at hp
    exact e3 p hp

theorem drop_zero {l : List Rw} {n : Int} (h : shelfE l = 0) : shelfE (l.map (dropRw n)) = 0 ∧ ∀ j : Nat, j < 4 → (l.map (dropRw n)).getD j rw0 = dropRw n (l.getD j rw0) := by
  obtain ⟨h4, hm⟩ := shelfE_mem h
  refine ⟨shelfE_of (by rw [List.length_map]; exact h4) (fun r hr => ?_), fun j hj => ?_⟩
  · obtain ⟨x, hx, rfl⟩ := List.mem_map.1 hr
    exact (drop_row (hm x hx)).1
  · rw [List.getD, List.getD, List.getElem?_map, List.getElem?_eq_getElem (by omega)]
    rfl

end Go.Proofs.YtcjdpilmhlfmfaaGreatDoor

/-
  What a record makes of a shelf, and what records make of a new one, as plain lists. No program is named.
-/
namespace Go.Proofs.YtcjdpilmhlfmfaaGreatDoor
open Go.RowKit

def enOf (x : Nt) : En := ⟨x.1, x.2.1, x.2.2⟩

def enL (l : List Nt) : List En := l.map enOf

/-- A right record's work on a right shelf. -/
def workE (C : List Rw) (r : Rc) : Int := if r.k = 1 then bputE C (enL r.e) else if r.k = 2 then sealE C r.s r.n else if r.k = 3 then mrgE C r.s r.n else dropE r.n
def workL (C : List Rw) (r : Rc) : List Rw := if r.k = 1 then bputL C (enL r.e) else if r.k = 2 then sealL C r.s r.n else if r.k = 3 then mrgL C r.s r.n else dropL C r.n

def nextE (C : List Rw) (r : Rc) : Int := if shelfE C ≠ 0 then shelfE C else if recE r ≠ 0 then recE r else workE C r
def nextL (C : List Rw) (r : Rc) : List Rw := if shelfE C ≠ 0 then [] else if recE r ≠ 0 then [] else workL C r

theorem work_of (C : List Rw) (r : Rc) : (r.k = 1 → workE C r = bputE C (enL r.e) ∧ workL C r = bputL C (enL r.e)) ∧ (r.k = 2 → workE C r = sealE C r.s r.n ∧ workL C r = sealL C r.s r.n) ∧ (r.k = 3 → workE C r = mrgE C r.s r.n ∧ workL C r = mrgL C r.s r.n) ∧ (r.k = 4 → workE C r = dropE r.n ∧ workL C r = dropL C r.n) := by
  unfold workE workL
  refine ⟨fun h => ?_, fun h => ?_, fun h => ?_, fun h => ?_⟩ <;> simp [h]

theorem work_bad {C : List Rw} {r : Rc} (h : workE C r ≠ 0) : workL C r = [] := by
  unfold workE at h
  unfold workL
  split
  · rename_i h1
    rw [if_pos h1] at h
    exact if_neg h
  · rename_i h1
    rw [if_neg h1] at h
    split
    · rename_i h2
      rw [if_pos h2] at h
      exact if_neg h
    · rename_i h2
      rw [if_neg h2] at h
      split
      · rename_i h3
        rw [if_pos h3] at h
        exact if_neg h
      · rename_i h3
        rw [if_neg h3] at h
        exact if_neg h

theorem next_bad {C : List Rw} {r : Rc} (h : nextE C r ≠ 0) : nextL C r = [] := by
  unfold nextE at h
  unfold nextL
  split
  · rfl
  · rename_i h1
    rw [if_neg h1] at h
    split
    · rfl
    · rename_i h2
      rw [if_neg h2] at h
      exact work_bad h

theorem next_zero {C : List Rw} {r : Rc} (h : nextE C r = 0) : shelfE C = 0 ∧ recE r = 0 ∧ workE C r = 0 ∧ nextL C r = workL C r := by
  have h' := h
  unfold nextE at h
  unfold nextL
  split at h
  · contradiction
  · rename_i h1
    split at h
    · contradiction
    · rename_i h2
      rw [if_neg h1, if_neg h2]
      exact ⟨Decidable.not_not.1 h1, Decidable.not_not.1 h2, h, rfl⟩

/-- A right shelf stays so. -/
theorem work_right {C : List Rw} {r : Rc} (h : shelfE C = 0) (hw : workE C r = 0) : shelfE (workL C r) = 0 := by
  unfold workE at hw
  unfold workL
  split
  · rename_i h1
    rw [if_pos h1] at hw
    obtain ⟨_, h2, h3⟩ := bput_zero hw
    rw [h3]
    exact puts_shelf _ _ h h2
  · rename_i h1
    rw [if_neg h1] at hw
    split
    · rename_i h2
      rw [if_pos h2] at hw
      exact (seal_zero h hw).1
    · rename_i h2
      rw [if_neg h2] at hw
      split
      · rename_i h3
        rw [if_pos h3] at hw
        exact (mrg_zero h hw).1
      · rename_i h3
        rw [if_neg h3] at hw
        unfold dropL
        rw [if_pos hw]
        exact (drop_zero h).1

theorem next_right {C : List Rw} {r : Rc} (h : nextE C r = 0) : shelfE (nextL C r) = 0 := by
  obtain ⟨h1, _, h3, h4⟩ := next_zero h
  rw [h4]
  exact work_right h1 h3

theorem right_len {C : List Rw} (h : shelfE C = 0) : C.length = 4 := (shelfE_zero h).1

/-- Records one after the other. -/
def workAll : List Rw → List Rc → List Rw × Int
  | C, [] => (C, 0)
  | C, r :: l => if nextE C r = 0 then workAll (nextL C r) l else ([], nextE C r)

def newS : List Rw := [rw0, rw0, rw0, rw0]

def replE (l : List Rc) : Int := if 60 < l.length then 2 else (workAll newS l).2
def replL (l : List Rc) : List Rw := if 60 < l.length then [] else (workAll newS l).1

theorem fresh_right : shelfE newS = 0 := by decide

theorem workAll_cons (C : List Rw) (r : Rc) (l : List Rc) : workAll C (r :: l) = if nextE C r = 0 then workAll (nextL C r) l else ([], nextE C r) := rfl

theorem workAll_append : ∀ (a b : List Rc) (C : List Rw), workAll C (a ++ b) = if (workAll C a).2 = 0 then workAll (workAll C a).1 b else ([], (workAll C a).2)
  | [], b, C => by simp [workAll]
  | r :: a, b, C => by
    rw [List.cons_append, workAll_cons, workAll_cons]
    split
    · exact workAll_append a b _
    · rfl

theorem workAll_right : ∀ (l : List Rc) (C : List Rw), shelfE C = 0 → (workAll C l).2 = 0 → shelfE (workAll C l).1 = 0
  | [], C, h, _ => h
  | r :: l, C, h, h' => by
    unfold workAll at h' ⊢
    split at h'
    · rename_i h1
      rw [if_pos h1]
      exact workAll_right l _ (next_right h1) h'
    · rename_i h1
      exact absurd h' h1

/-- One record more. -/
theorem workAll_snoc (l : List Rc) (r : Rc) (C : List Rw) (h : (workAll C l).2 = 0) : workAll C (l ++ [r]) = if nextE (workAll C l).1 r = 0 then (nextL (workAll C l).1 r, 0) else ([], nextE (workAll C l).1 r) := by
  rw [workAll_append, if_pos h]
  rfl

/-- What comes behind an error changes nothing. -/
theorem workAll_stop (a b : List Rc) (r : Rc) (C : List Rw) (h : (workAll C a).2 = 0) (h' : nextE (workAll C a).1 r ≠ 0) : workAll C (a ++ r :: b) = ([], nextE (workAll C a).1 r) := by
  rw [workAll_append, if_pos h, workAll_cons, if_neg h']

end Go.Proofs.YtcjdpilmhlfmfaaGreatDoor

/-
  Texts cut at blanks, as plain lists: strings.Split and strings.Cut at one blank; what is cut and what is laid together. No program is named.
-/
namespace Go.Proofs.YtcjdpilmhlfmfaaGreatDoor
open Go.Lib (index splitK count)

/-- The words between blanks. -/
def sp : List UInt8 → List (List UInt8)
  | [] => [[]]
  | c :: r => if c = 32 then [] :: sp r else (c :: (sp r).headD []) :: (sp r).tail

theorem sp_ne (l : List UInt8) : sp l ≠ [] := by
  cases l with
  | nil => simp [sp]
  | cons c r => unfold sp; split <;> simp

theorem sp_none : ∀ l : List UInt8, (∀ c ∈ l, c ≠ 32) → sp l = [l]
  | [], _ => rfl
  | c :: r, h => by
    rw [sp, if_neg (h c List.mem_cons_self), sp_none r (fun x hx => h x (List.mem_cons_of_mem _ hx))]
    rfl

theorem sp_some : ∀ (p q : List UInt8), (∀ c ∈ p, c ≠ 32) → sp (p ++ 32 :: q) = p :: sp q
  | [], q, _ => by rw [List.nil_append, sp, if_pos rfl]
  | c :: r, q, h => by
    rw [List.cons_append, sp, if_neg (h c List.mem_cons_self), sp_some r q (fun x hx => h x (List.mem_cons_of_mem _ hx))]
    rfl

/-- Where the first blank is. -/
theorem index_blank : ∀ l : List UInt8, (index l [32] = -1 ∧ ∀ c ∈ l, c ≠ 32) ∨ (∃ p q, l = p ++ 32 :: q ∧ (∀ c ∈ p, c ≠ 32) ∧ index l [32] = p.length)
  | [] => .inl ⟨rfl, fun c h => by simp at h⟩
  | c :: r => by
    by_cases hc : c = 32
    · subst hc
      exact .inr ⟨[], r, rfl, fun c h => by simp at h, by simp [index]⟩
    · have hp : ([32] : List UInt8).isPrefixOf (c :: r) = false := by simp [List.isPrefixOf, Ne.symm hc]
      rcases index_blank r with ⟨h1, h2⟩ | ⟨p, q, rfl, h2, h3⟩
      · left
        refine ⟨by rw [index, hp, h1]; rfl, fun x hx => ?_⟩
        rcases List.mem_cons.1 hx with rfl | hx
        · exact hc
        · exact h2 x hx
      · right
        refine ⟨c :: p, q, rfl, fun x hx => ?_, ?_⟩
        · rcases List.mem_cons.1 hx with rfl | hx
          · exact hc
          · exact h2 x hx
        · rw [index, hp, h3]
          have : ((p.length : Int) == -1) = false := by simp
          simp [this]

theorem split_sp : ∀ (n : Nat) (l : List UInt8), l.length ≤ n → splitK [32] 0 (count l [32]) l = sp l := by
  intro n
  induction n with
  | zero =>
    intro l h
    obtain rfl := List.length_eq_zero_iff.1 (Nat.le_zero.1 h)
    rw [Lib.count_miss rfl]
    rfl
  | succ n ih =>
    intro l h
    rcases index_blank l with ⟨h1, h2⟩ | ⟨p, q, rfl, h2, h3⟩
    · rw [Lib.count_miss h1, sp_none l h2]
      rfl
    · have hd : (p ++ 32 :: q).drop (p.length + 1) = q := by
        rw [show p.length + 1 = (p ++ [32]).length by simp, show p ++ 32 :: q = (p ++ [32]) ++ q by simp, List.drop_left]
      rw [Lib.count_hit (by simp) h3, Nat.add_comm 1, splitK, h3, sp_some p q h2]
      have hne : ((p.length : Int) == -1) = false := by simp
      rw [hne]
      simp only [Bool.false_eq_true, if_false, Int.toNat_natCast, List.length_cons, List.length_nil, Nat.zero_add, Nat.add_zero]
      rw [hd, ih q (by simp at h; omega), List.take_left]

theorem words_sp (s : ByteArray) : (wordsB s).map bytes = sp (bytes s) := by
  unfold wordsB
  have h := Lib.splitB_data blank 0 (Lib.countB s blank) s
  exact h.trans (split_sp _ (bytes s) (Nat.le_refl _))

theorem textR_sp (s : ByteArray) : textR s = readR (sp (bytes s)) := by
  unfold textR
  rw [words_sp]

/-- Words laid together, a blank between them. -/
def jn32 : List (List UInt8) → List UInt8
  | [] => []
  | w :: r => w ++ r.flatMap (fun x => 32 :: x)

theorem jn_sp : ∀ l : List UInt8, jn32 (sp l) = l
  | [] => rfl
  | c :: r => by
    have ih := jn_sp r
    obtain ⟨w, ws, hw⟩ := List.exists_cons_of_ne_nil (sp_ne r)
    rw [hw] at ih
    unfold sp
    split
    · rename_i h
      subst h
      rw [hw, jn32, List.nil_append, List.flatMap_cons, ← ih]
      simp [jn32]
    · rw [hw, ← ih]
      simp [jn32]

theorem sp_jn : ∀ (ws : List (List UInt8)) (w : List UInt8), (∀ x ∈ w :: ws, ∀ c ∈ x, c ≠ 32) → sp (jn32 (w :: ws)) = w :: ws
  | [], w, h => by
    rw [jn32, List.flatMap_nil, List.append_nil]
    exact sp_none w (h w List.mem_cons_self)
  | x :: r, w, h => by
    have ih := sp_jn r x (fun y hy => h y (List.mem_cons_of_mem _ hy))
    rw [jn32] at ih
    rw [jn32, List.flatMap_cons, List.cons_append, sp_some w _ (h w List.mem_cons_self), ih]

end Go.Proofs.YtcjdpilmhlfmfaaGreatDoor

/-
  strconv.Atoi of strconv.Itoa is the number, as plain lists; a numeral has no blank. No program is named.
-/
namespace Go.Proofs.YtcjdpilmhlfmfaaGreatDoor
open Go.Lib (parseUint10 decDigits itoa atoiAll parseMag)

theorem parse_append (l m : List UInt8) : ∀ acc v, parseUint10 acc l = .ok v → parseUint10 acc (l ++ m) = parseUint10 v m := by
  induction l with
  | nil =>
    intro acc v h
    simp only [parseUint10] at h
    injection h with h
    subst h
    rfl
  | cons c r ih =>
    intro acc v h
    simp only [parseUint10] at h
    simp only [List.cons_append, parseUint10]
    split at h
    · rename_i h1
      rw [if_pos h1]
      split at h
      · cases h
      · rename_i h2
        rw [if_neg h2]
        split at h
        · cases h
        · rename_i h3
          rw [if_neg h3]
          exact ih _ v h
    · cases h

theorem digit_toNat {d : Nat} (h : d < 10) : (UInt8.ofNat (48 + d)).toNat = 48 + d := by
  rw [UInt8.toNat_ofNat']
  omega

theorem parse_dec (u : Nat) (h : u < 18446744073709551616) : parseUint10 0 (decDigits u) = .ok u := by
  induction u using Nat.strongRecOn with
  | _ u ih =>
    rw [decDigits]
    split
    · rename_i h1
      simp only [parseUint10, digit_toNat h1]
      rw [if_pos (by omega), if_neg (by omega), if_neg (by omega)]
      simp
    · rename_i h1
      rw [parse_append _ _ 0 (u / 10) (ih (u / 10) (by omega) (by omega))]
      simp only [parseUint10, digit_toNat (show u % 10 < 10 by omega)]
      rw [if_pos (by omega), if_neg (by omega), if_neg (by omega)]
      congr 1
      omega

theorem dec_digits (u : Nat) : ∀ c ∈ decDigits u, 48 ≤ c.toNat ∧ c.toNat ≤ 57 := by
  induction u using Nat.strongRecOn with
  | _ u ih =>
    intro c hc
    rw [decDigits] at hc
    split at hc
    · rename_i h1
      obtain rfl := List.mem_singleton.1 hc
      rw [digit_toNat h1]
      omega
    · rename_i h1
      rcases List.mem_append.1 hc with hc | hc
      · exact ih (u / 10) (by omega) c hc
      · obtain rfl := List.mem_singleton.1 hc
        rw [digit_toNat (show u % 10 < 10 by omega)]
        omega

theorem dec_ne (u : Nat) : decDigits u ≠ [] := by
  rw [decDigits]
  split <;> simp

theorem itoa_plain (n : Int) : ∀ c ∈ itoa n, c ≠ 32 := by
  intro c hc e
  subst e
  unfold itoa at hc
  split at hc
  · rcases List.mem_cons.1 hc with h | h
    · cases h
    · have := dec_digits _ _ h
      simp at this
  · have := dec_digits _ _ hc
    simp at this

theorem atoi_itoa (n : Int) (h0 : -9223372036854775808 ≤ n) (h1 : n ≤ 9223372036854775807) : atoiAll (itoa n) = .ok n := by
  unfold itoa
  split
  · rename_i hn
    have hm : parseMag (decDigits n.natAbs) = .ok n.natAbs := by
      unfold parseMag
      rw [if_neg (dec_ne _)]
      exact parse_dec _ (by omega)
    unfold atoiAll
    have e45 : (45 : UInt8).toNat = 45 := rfl
    simp only [e45, or_true, if_true, hm, not_true, false_and, if_false, true_and]
    rw [if_neg (by omega)]
    congr 1
    omega
  · rename_i hn
    obtain ⟨c, r, hcr⟩ := List.exists_cons_of_ne_nil (dec_ne n.toNat)
    have hd := dec_digits n.toNat c (by rw [hcr]; exact List.mem_cons_self)
    have hm : parseMag (c :: r) = .ok n.toNat := by
      rw [← hcr]
      unfold parseMag
      rw [if_neg (dec_ne _)]
      exact parse_dec _ (by omega)
    rw [hcr]
    unfold atoiAll
    have n1 : ¬ c.toNat = 43 := by omega
    have n2 : ¬ c.toNat = 45 := by omega
    simp only [n1, n2, or_self, if_false, hm, not_false_eq_true, true_and, false_and]
    rw [if_neg (by omega)]
    congr 1
    omega

theorem readNum_itoa (n : Int) (h0 : -9223372036854775808 ≤ n) (h1 : n ≤ 9223372036854775807) : readNum (itoa n) = some n := by
  unfold readNum
  rw [atoi_itoa n h0 h1]
  simp

theorem readNums_itoa : ∀ l : List Int, (∀ n ∈ l, -9223372036854775808 ≤ n ∧ n ≤ 9223372036854775807) → readNums (l.map itoa) = some l
  | [], _ => rfl
  | n :: r, h => by
    obtain ⟨h0, h1⟩ := h n List.mem_cons_self
    rw [List.map_cons, readNums, readNum_itoa n h0 h1, readNums_itoa r (fun m hm => h m (List.mem_cons_of_mem _ hm))]
    rfl

/-- What is read of words is what they write. -/
theorem readNums_back : ∀ (ws : List (List UInt8)) (ns : List Int), readNums ws = some ns → ws = ns.map itoa
  | [], ns, h => by
    simp only [readNums, Option.some.injEq] at h
    subst h
    rfl
  | w :: r, ns, h => by
    simp only [readNums] at h
    cases hx : readNum w with
    | none => rw [hx] at h; cases h
    | some v =>
      rw [hx] at h
      simp only [Option.bind_some] at h
      cases hr : readNums r with
      | none => rw [hr] at h; cases h
      | some vr =>
        rw [hr] at h
        simp only [Option.map_some, Option.some.injEq] at h
        subst h
        rw [List.map_cons, ← readNums_back r vr hr]
        unfold readNum at hx
        split at hx
        · split at hx
          · rename_i h2
            simp only [Option.some.injEq] at hx
            subst hx
            rw [h2]
          · cases hx
        · cases hx

theorem numsT_map (l : List Int) : numsT l = (l.map itoa).flatMap (fun x => 32 :: x) := by
  unfold numsT
  rw [List.flatMap_map]

end Go.Proofs.YtcjdpilmhlfmfaaGreatDoor

/-
  Records and their texts, as plain lists: a printed record is read as it was, a read one printed as it was. No program is named.
-/
namespace Go.Proofs.YtcjdpilmhlfmfaaGreatDoor
open Go.Lib (itoa)

theorem bytes_mk (l : List UInt8) : bytes ⟨l.toArray⟩ = l := by simp [bytes]

theorem chunk_nums : ∀ l : List Nt, chunkL (ntNums l) = l
  | [] => rfl
  | x :: r => by
    have ih := chunk_nums r
    unfold ntNums at ih ⊢
    rw [List.flatMap_cons]
    simp only [List.cons_append, List.nil_append, chunkL, ih]

theorem nums_chunk : ∀ (m : Nat) (ns : List Int), ns.length = m * 3 → ntNums (chunkL ns) = ns
  | 0, [], _ => rfl
  | 0, _ :: _, h => by simp at h
  | m + 1, [], h => by simp at h
  | m + 1, [_], h => by simp at h; omega
  | m + 1, [_, _], h => by simp at h; omega
  | m + 1, a :: b :: c :: r, h => by
    have ih := nums_chunk m r (by simp at h; omega)
    unfold ntNums at ih ⊢
    rw [chunkL, List.flatMap_cons, ih]
    rfl

theorem plain_words (w : List UInt8) (ns : List Int) (hw : ∀ c ∈ w, c ≠ 32) : sp (w ++ numsT ns) = w :: ns.map itoa := by
  have h := sp_jn (ns.map itoa) w (fun x hx => by
    rcases List.mem_cons.1 hx with rfl | hx
    · exact hw
    · obtain ⟨n, _, rfl⟩ := List.mem_map.1 hx
      exact itoa_plain n)
  rw [jn32, ← numsT_map] at h
  exact h

theorem read_words (w : List UInt8) (ns : List Int) (hw : ∀ c ∈ w, c ≠ 32) (hb : ∀ n ∈ ns, -9223372036854775808 ≤ n ∧ n ≤ 9223372036854775807) :
    textR ⟨(w ++ numsT ns).toArray⟩ = (if w = wBatch ∧ ns.length % 3 = 0 then some ⟨1, 0, 0, chunkL ns⟩ else if w = wSeal ∧ ns.length = 2 then some ⟨2, ns.getD 0 0, ns.getD 1 0, []⟩ else if w = wMerge ∧ ns.length = 2 then some ⟨3, ns.getD 0 0, ns.getD 1 0, []⟩ else if w = wDrop ∧ ns.length = 1 then some ⟨4, 0, ns.getD 0 0, []⟩ else none) := by
  rw [textR_sp, bytes_mk, plain_words w ns hw]
  simp only [readR, readNums_itoa ns hb, Option.bind_some]

/-- A printed record is read as it was. -/
theorem back_read {r : Rc} (h : recE r = 0) : textR ⟨(recT r).toArray⟩ = some r ∧ (recT r).length ≤ 60000 := by
  by_cases h1 : r.k = 1
  · obtain ⟨e1, e2, e3, e4⟩ := recE_few h h1
    have eT : recT r = wBatch ++ numsT (ntNums r.e) := by unfold recT; rw [if_pos h, if_pos h1]
    have hl := numsT_le (ntNums r.e) (nums_in e4)
    rw [ntNums_length] at hl
    rw [eT]
    refine ⟨?_, by rw [List.length_append]; have : wBatch.length = 5 := rfl; omega⟩
    rw [read_words wBatch _ (by decide) (nums_in e4), if_pos ⟨rfl, by rw [ntNums_length]; omega⟩, chunk_nums]
    obtain ⟨k, s, m, l⟩ := r
    simp only at *
    subst h1
    subst e1
    subst e2
    rfl
  · obtain ⟨hk, e1, e2, e3, e4, e5, e6⟩ := recE_plain h h1
    obtain ⟨k, s, m, l⟩ := r
    simp only at *
    subst e1
    have hb2 : ∀ n ∈ [s, m], -9223372036854775808 ≤ n ∧ n ≤ 9223372036854775807 := by
      intro n hn
      simp at hn
      omega
    have hb1 : ∀ n ∈ [m], -9223372036854775808 ≤ n ∧ n ≤ 9223372036854775807 := by
      intro n hn
      simp at hn
      omega
    have l2 := numsT_le [s, m] hb2
    have l1 := numsT_le [m] hb1
    simp only [List.length_cons, List.length_nil] at l1 l2
    rcases hk with rfl | rfl | rfl
    · have eT : recT ⟨2, s, m, []⟩ = wSeal ++ numsT [s, m] := by unfold recT; rw [if_pos h]; rfl
      rw [eT]
      refine ⟨?_, by rw [List.length_append]; have : wSeal.length = 4 := rfl; omega⟩
      rw [read_words wSeal _ (by decide) hb2]
      rfl
    · have eT : recT ⟨3, s, m, []⟩ = wMerge ++ numsT [s, m] := by unfold recT; rw [if_pos h]; rfl
      rw [eT]
      refine ⟨?_, by rw [List.length_append]; have : wMerge.length = 5 := rfl; omega⟩
      rw [read_words wMerge _ (by decide) hb2]
      rfl
    · obtain rfl := e2 rfl
      have eT : recT ⟨4, 0, m, []⟩ = wDrop ++ numsT [m] := by unfold recT; rw [if_pos h]; rfl
      rw [eT]
      refine ⟨?_, by rw [List.length_append]; have : wDrop.length = 4 := rfl; omega⟩
      rw [read_words wDrop _ (by decide) hb1]
      rfl

/-- A read record is printed as it was. -/
theorem back_print {s : ByteArray} {r : Rc} (h : textR s = some r) (h0 : recE r = 0) : recT r = bytes s := by
  rw [textR_sp] at h
  have hj := jn_sp (bytes s)
  obtain ⟨w, ws, hw⟩ := List.exists_cons_of_ne_nil (sp_ne (bytes s))
  rw [hw] at h hj
  rw [jn32] at hj
  simp only [readR] at h
  cases hr : readNums ws with
  | none => rw [hr] at h; cases h
  | some ns =>
    rw [hr] at h
    simp only [Option.bind_some] at h
    have hws := readNums_back ws ns hr
    rw [hws, ← numsT_map] at hj
    split at h
    · rename_i hc
      obtain ⟨rfl, h3⟩ := hc
      simp only [Option.some.injEq] at h
      subst h
      unfold recT
      rw [if_pos h0, if_pos rfl, nums_chunk (ns.length / 3) ns (by omega)]
      exact hj
    · split at h
      · rename_i hc
        obtain ⟨rfl, h2⟩ := hc
        match ns, h2 with
        | [a, b], _ =>
          simp only [Option.some.injEq] at h
          subst h
          unfold recT
          rw [if_pos h0]
          exact hj
      · split at h
        · rename_i hc
          obtain ⟨rfl, h2⟩ := hc
          match ns, h2 with
          | [a, b], _ =>
            simp only [Option.some.injEq] at h
            subst h
            unfold recT
            rw [if_pos h0]
            exact hj
        · split at h
          · rename_i hc
            obtain ⟨rfl, h2⟩ := hc
            match ns, h2 with
            | [a], _ =>
              simp only [Option.some.injEq] at h
              subst h
              unfold recT
              rw [if_pos h0]
              exact hj
          · cases h

end Go.Proofs.YtcjdpilmhlfmfaaGreatDoor

/-
  A record's text has no line feed; a log of records is scanned as it was written. No program is named.
-/
namespace Go.Proofs.YtcjdpilmhlfmfaaGreatDoor
open Go.Lib (itoa decDigits)

theorem itoa_noLF (n : Int) : ∀ c ∈ itoa n, c ≠ 10 := by
  intro c hc he
  subst he
  unfold itoa at hc
  split at hc
  · rcases List.mem_cons.1 hc with h | h
    · exact absurd h (by decide)
    · have := dec_digits _ _ h
      simp at this
  · have := dec_digits _ _ hc
    simp at this

theorem numsT_noLF (l : List Int) : ∀ c ∈ numsT l, c ≠ 10 := by
  intro c hc
  unfold numsT at hc
  obtain ⟨n, _, hn⟩ := List.mem_flatMap.1 hc
  rcases List.mem_cons.1 hn with h | h
  · subst h; decide
  · exact itoa_noLF n c h

theorem word_noLF {w : List UInt8} {l : List Int} (hw : w = wBatch ∨ w = wSeal ∨ w = wMerge ∨ w = wDrop) : ∀ c ∈ w ++ numsT l, c ≠ 10 := by
  intro c hc
  rcases List.mem_append.1 hc with h | h
  · intro e
    subst e
    rcases hw with rfl | rfl | rfl | rfl <;> exact absurd h (by decide)
  · exact numsT_noLF l c h

theorem recT_noLF (r : Rc) : ∀ c ∈ recT r, c ≠ 10 := by
  unfold recT
  split
  · split
    · exact word_noLF (.inl rfl)
    · split
      · exact word_noLF (.inr (.inl rfl))
      · split
        · exact word_noLF (.inr (.inr (.inl rfl)))
        · exact word_noLF (.inr (.inr (.inr rfl)))
  · intro c hc; simp at hc

theorem parse_rec {r : Rc} (h : recE r = 0) : parseR (ofB (recT r)) = r ∧ parseE (ofB (recT r)) = 0 := by
  obtain ⟨h1, h2⟩ := back_read h
  have hs : ¬ 60000 < (ofB (recT r)).size := by rw [ofB_size]; omega
  unfold parseR parseE
  rw [if_neg hs, if_neg hs, show textR (ofB (recT r)) = some r from h1]
  simp only [h, if_true, and_self]

/-- A line that is a record's. -/
theorem ln_rec {r : Rc} (h : recE r = 0) (q : List UInt8) : lnE (recT r ++ 10 :: q) = 0 ∧ lnR (recT r ++ 10 :: q) = r ∧ lnB (recT r ++ 10 :: q) = q := by
  obtain ⟨h1, h2, h3⟩ := lf_of (q := q) (recT_noLF r)
  obtain ⟨p1, p2⟩ := parse_rec h
  unfold lnE lnR lnB
  rw [if_pos h1, if_pos h1, if_pos h1, h2, h3]
  exact ⟨p2, p1, rfl⟩

/-- A log of records. -/
def logT (l : List Rc) : List UInt8 := l.flatMap (fun r => recT r ++ [10])

theorem logT_cons (r : Rc) (l : List Rc) (q : List UInt8) : logT (r :: l) ++ q = recT r ++ 10 :: (logT l ++ q) := by
  unfold logT
  rw [List.flatMap_cons]
  simp

theorem logT_append (l m : List Rc) : logT (l ++ m) = logT l ++ logT m := by
  unfold logT
  exact List.flatMap_append

theorem logT_one (r : Rc) : logT [r] = recT r ++ [10] := by
  unfold logT
  simp

theorem scan_log : ∀ (l : List Rc) (k : Nat) (q : List UInt8), (∀ r ∈ l, recE r = 0) → k + l.length ≤ 60 → scan k (logT l ++ q) = (l ++ (scan (k + l.length) q).1, (scan (k + l.length) q).2)
  | [], k, q, _, _ => rfl
  | r :: l, k, q, h, hk => by
    obtain ⟨h1, h2, h3⟩ := ln_rec (h r List.mem_cons_self) (logT l ++ q)
    simp only [List.length_cons] at hk
    rw [logT_cons, scan_step (by simp) h1 (by omega), h2, h3, scan_log l (k + 1) q (fun x hx => h x (List.mem_cons_of_mem _ hx)) (by omega)]
    simp only [List.length_cons]
    rw [show k + 1 + l.length = k + (l.length + 1) by omega]
    rfl

theorem scan_log0 (l : List Rc) (h : ∀ r ∈ l, recE r = 0) (hk : l.length ≤ 60) : scan 0 (logT l) = (l, 0) := by
  have := scan_log l 0 [] h (by omega)
  rw [List.append_nil, scan_nil, List.append_nil] at this
  exact this

end Go.Proofs.YtcjdpilmhlfmfaaGreatDoor
