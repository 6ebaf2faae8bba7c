/-
  What is kept of a log that was torn: its whole records, and no other. No program is named.
-/
import Derived.Test.YtjjfgmcgonkicaaGreatDoorP12
namespace Go.Proofs.YtjjfgmcgonkicaaGreatDoor

theorem lnE_torn {l : List UInt8} (h : ∀ c ∈ l, c ≠ 10) : lnE l = 8 := by
  rcases lf_cases l with ⟨h1, _⟩ | ⟨_, h2, _⟩
  · unfold lnE
    rw [h1]
    rfl
  · exact absurd rfl (h 10 (by rw [h2]; simp))

/-- A beginning of a log is read as a beginning of its records; what is behind them is one torn line. -/
theorem tail_log : ∀ (l : List Rc) (k n : Nat), (∀ r ∈ l, recE r = 0) → k + l.length ≤ 60 →
    ∃ m q, m ≤ l.length ∧ tail k ((logT l).take n) = (l.take m, q) ∧ (logT l).take n = logT (l.take m) ++ q
  | [], k, n, _, _ => by
    refine ⟨0, [], Nat.le_refl _, ?_, ?_⟩
    · have e : (logT []).take n = [] := by simp [logT]
      rw [e, tail_stop (by rw [lnE_nil]; simp)]
      rfl
    · simp [logT]
  | r :: l, k, n, h, hk => by
    have e := logT_cons r l []
    rw [List.append_nil, List.append_nil] at e
    rw [e]
    simp only [List.length_cons] at hk
    by_cases hn : n ≤ (recT r).length
    · refine ⟨0, (recT r).take n, Nat.zero_le _, ?_, ?_⟩
      · rw [List.take_append_of_le_length hn]
        rw [tail_stop (by rw [lnE_torn (fun c hc => recT_noLF r c (List.mem_of_mem_take hc))]; simp)]
        rfl
      · rw [List.take_append_of_le_length hn]
        rfl
    · obtain ⟨j, rfl⟩ : ∃ j, n = (recT r).length + (j + 1) := ⟨n - (recT r).length - 1, by omega⟩
      obtain ⟨m, q, hm, h1, h2⟩ := tail_log l (k + 1) j (fun x hx => h x (List.mem_cons_of_mem _ hx)) (by omega)
      obtain ⟨g1, g2, g3⟩ := ln_rec (h r List.mem_cons_self) ((logT l).take j)
      refine ⟨m + 1, q, by simp only [List.length_cons]; omega, ?_, ?_⟩
      · rw [List.take_length_add_append, List.take_succ_cons, tail_step ⟨by omega, g1⟩, g2, g3, h1]
        rfl
      · rw [List.take_length_add_append, List.take_succ_cons, List.take_succ_cons, logT_cons, h2]

theorem tail_empty (k : Nat) : tail k [] = ([], []) := tail_stop (by rw [lnE_nil]; simp)

/-- What recovering makes of a log whose end was torn off; and of that once more. -/
theorem keep_log (a b : List Rc) (n : Nat) (ha : ∀ r ∈ a, recE r = 0) (hb : ∀ r ∈ b, recE r = 0) (hl : a.length + b.length ≤ 60) (hs : (logT a).length + (logT b).length ≤ 60000) :
    dkE ⟨logT a, (logT b).take n⟩ = 0 ∧ ∃ m, m ≤ b.length ∧ recL ⟨logT a, (logT b).take n⟩ = a ++ b.take m ∧ recD ⟨logT a, (logT b).take n⟩ = ⟨logT (a ++ b.take m), []⟩ ∧
      dkE ⟨logT (a ++ b.take m), []⟩ = 0 ∧ recL ⟨logT (a ++ b.take m), []⟩ = a ++ b.take m ∧ recD ⟨logT (a ++ b.take m), []⟩ = ⟨logT (a ++ b.take m), []⟩ := by
  obtain ⟨m, q, hm, h1, h2⟩ := tail_log b a.length n hb (by omega)
  have hlen : ((logT b).take n).length ≤ (logT b).length := by rw [List.length_take]; omega
  have sa := scan_log0 a ha (by omega)
  have e0 : dkE ⟨logT a, (logT b).take n⟩ = 0 := by
    unfold dkE
    rw [if_neg (by simp only; omega), sa]
  have l0 : dkL ⟨logT a, (logT b).take n⟩ = a := by
    unfold dkL
    rw [if_pos e0, sa]
  have hq := congrArg List.length h2
  rw [List.length_append] at hq
  have hk : kept ⟨logT a, (logT b).take n⟩ = logT (b.take m) := by
    unfold kept
    rw [l0]
    simp only
    rw [h1]
    simp only
    rw [hq, Nat.add_sub_cancel, h2, List.take_left]
  have hab : ∀ r ∈ a ++ b.take m, recE r = 0 := fun r hr => (List.mem_append.1 hr).elim (ha r) (fun h => hb r (List.mem_of_mem_take h))
  have hml : (b.take m).length ≤ b.length := by rw [List.length_take]; omega
  have sb := scan_log0 (a ++ b.take m) hab (by rw [List.length_append]; omega)
  have e1 : dkE ⟨logT (a ++ b.take m), []⟩ = 0 := by
    unfold dkE
    rw [if_neg (by simp only [logT_append, List.length_append, List.length_nil]; omega), sb]
  have l1 : dkL ⟨logT (a ++ b.take m), []⟩ = a ++ b.take m := by
    unfold dkL
    rw [if_pos e1, sb]
  refine ⟨e0, m, hm, ?_, ?_, e1, ?_, ?_⟩
  · unfold recL
    rw [if_pos e0, l0]
    simp only
    rw [h1]
  · unfold recD
    rw [if_pos e0, hk, logT_append]
  · unfold recL
    rw [if_pos e1, l1]
    simp only
    rw [tail_empty, List.append_nil]
  · unfold recD kept
    rw [if_pos e1]
    simp

theorem dput_ok {d : Dk} {r : Rc} (h : dputE d r = 0) : dkE d = 0 ∧ recE r = 0 ∧ dputD d r = ⟨d.safe, d.wait ++ (recT r ++ [10])⟩ ∧ dkE (dputD d r) = 0 := by
  have hd : dputD d r = ⟨d.safe, d.wait ++ (recT r ++ [10])⟩ := if_pos h
  unfold dputE at h
  split at h
  · contradiction
  · rename_i h0
    have h0' : dkE d = 0 := Decidable.not_not.1 h0
    split at h
    · contradiction
    · rename_i h1
      split at h
      · cases h
      · rename_i h2
        refine ⟨h0', Decidable.not_not.1 h1, hd, ?_⟩
        rw [hd]
        unfold dkE at h0' ⊢
        split at h0'
        · cases h0'
        · rw [if_neg (by simp only [List.length_append, List.length_cons, List.length_nil]; omega)]
          exact h0'

end Go.Proofs.YtjjfgmcgonkicaaGreatDoor

/-
  Records put and synced one by one, and replayed in two parts, as plain lists. No program is named.
-/
namespace Go.Proofs.YtjjfgmcgonkicaaGreatDoor

theorem recT_small {r : Rc} (h : recE r = 0) : (recT r).length ≤ 665 := by
  by_cases h1 : r.k = 1
  · obtain ⟨_, _, e3, e4⟩ := recE_few h h1
    have eT : recT r = wBatch ++ numsT (ntNums r.e) := by unfold recT; rw [if_pos h, if_pos h1]
    have hl := numsT_le (ntNums r.e) (nums_in e4)
    rw [ntNums_length] at hl
    rw [eT, List.length_append]
    have : wBatch.length = 5 := rfl
    omega
  · obtain ⟨hk, _, _, e3, e4, e5, e6⟩ := recE_plain h h1
    have hb2 : ∀ n ∈ [r.s, r.n], -9223372036854775808 ≤ n ∧ n ≤ 9223372036854775807 := by
      intro n hn
      simp at hn
      omega
    have hb1 : ∀ n ∈ [r.n], -9223372036854775808 ≤ n ∧ n ≤ 9223372036854775807 := by
      intro n hn
      simp at hn
      omega
    have l2 := numsT_le [r.s, r.n] hb2
    have l1 := numsT_le [r.n] hb1
    simp only [List.length_cons, List.length_nil] at l1 l2
    unfold recT
    rw [if_pos h, if_neg h1]
    have w1 : wSeal.length = 4 := rfl
    have w2 : wMerge.length = 5 := rfl
    have w3 : wDrop.length = 4 := rfl
    split
    · rw [List.length_append]; omega
    · split
      · rw [List.length_append]; omega
      · rw [List.length_append]; omega

theorem logT_small : ∀ l : List Rc, (∀ r ∈ l, recE r = 0) → (logT l).length ≤ l.length * 666
  | [], _ => by simp [logT]
  | r :: l, h => by
    have e := logT_cons r l []
    rw [List.append_nil, List.append_nil] at e
    have h1 := recT_small (h r List.mem_cons_self)
    have h2 := logT_small l (fun x hx => h x (List.mem_cons_of_mem _ hx))
    rw [e, List.length_append, List.length_cons, List.length_cons]
    omega

/-- The disk behind so many records. -/
def dkOf (l : List Rc) : Dk := ⟨logT l, []⟩

theorem dkOf_ok {l : List Rc} (h : ∀ r ∈ l, recE r = 0) (h60 : l.length ≤ 60) : dkE (dkOf l) = 0 := by
  have hs := logT_small l h
  unfold dkE dkOf
  rw [if_neg (by simp only [List.length_nil]; omega), scan_log0 l h h60]

theorem dk_step {l : List Rc} {r : Rc} (h : ∀ x ∈ l ++ [r], recE x = 0) (h60 : (l ++ [r]).length ≤ 60) :
    dputE (dkOf l) r = 0 ∧ syncE (dputD (dkOf l) r) = 0 ∧ syncD (dputD (dkOf l) r) = dkOf (l ++ [r]) := by
  have hl : ∀ x ∈ l, recE x = 0 := fun x hx => h x (List.mem_append_left _ hx)
  have hr : recE r = 0 := h r (by simp)
  have l60 : l.length ≤ 60 := by rw [List.length_append] at h60; omega
  have d0 := dkOf_ok hl l60
  have s0 := logT_small l hl
  have s1 := recT_small hr
  have e1 : dputE (dkOf l) r = 0 := by
    unfold dputE
    rw [if_neg (by rw [d0]; simp), if_neg (by rw [hr]; simp), if_neg (by unfold dkOf; simp only [List.length_nil]; omega)]
  have e2 : dputD (dkOf l) r = ⟨logT l, recT r ++ [10]⟩ := by
    unfold dputD
    rw [if_pos e1]
    rfl
  have elog : logT l ++ (recT r ++ [10]) = logT (l ++ [r]) := by rw [logT_append, logT_one]
  have d1 := (put_ok' e1 d0).2
  have e3 : syncE (dputD (dkOf l) r) = 0 := by
    unfold syncE
    rw [if_neg (by rw [d1]; simp), e2]
    simp only
    rw [elog]
    exact dkOf_ok h h60
  refine ⟨e1, e3, ?_⟩
  unfold syncD
  rw [if_pos e3, e2]
  simp only
  rw [elog]
  rfl
 where
  put_ok' {d : Dk} {r : Rc} (h : dputE d r = 0) (_ : dkE d = 0) : True ∧ dkE (dputD d r) = 0 := ⟨trivial, (dput_ok h).2.2.2⟩

theorem dk_end {l : List Rc} (h : ∀ r ∈ l, recE r = 0) (h60 : l.length ≤ 60) : recL (dkOf l) = l := by
  have d0 := dkOf_ok h h60
  unfold recL dkL
  rw [if_pos d0, if_pos d0]
  unfold dkOf
  simp only
  rw [scan_log0 l h h60]
  simp only
  rw [tail_empty, List.append_nil]

/-- Each beginning of records that are replayed can be replayed. -/
theorem work_pre {R : List Rc} (h : (workAll newS R).2 = 0) (k : Nat) : (workAll newS (R.take k)).2 = 0 := by
  by_cases hz : (workAll newS (R.take k)).2 = 0
  · exact hz
  · have e : workAll newS R = workAll newS (R.take k ++ R.drop k) := by rw [List.take_append_drop]
    rw [e, workAll_append, if_neg hz] at h
    exact absurd h hz

end Go.Proofs.YtjjfgmcgonkicaaGreatDoor

/-
  Worlds as plain lists: what is wrong with one, what a happening makes of it. No program is named.
-/
namespace Go.Proofs.YtjjfgmcgonkicaaGreatDoor

/-- A world: its shelf, its disk, whether it is up, its readers. -/
structure Wd where
  c : List Rw
  d : Dk
  up : Bool
  rd : List Int

/-- A happening. -/
structure Hp where
  k : Int
  s : Int
  n : Int
  e : List Nt

def wd0 : Wd := ⟨[], dk0, false, []⟩
def shutR : List Int := [-1, -1, -1]
def wdNew : Wd := ⟨newS, dk0, true, shutR⟩

/-- The records that a world's shelf is made of. -/
def wdL (w : Wd) : List Rc := if w.up = true then recL w.d else []

def rdOk (up : Bool) (n : Nat) (v : Int) : Bool := decide (-1 ≤ v ∧ v ≤ n) && (up || decide (v < 0))

/-- What is wrong with a world. -/
def wdE (w : Wd) : Int :=
  if dkE w.d ≠ 0 then dkE w.d
  else if w.up = true ∧ w.d.wait ≠ [] then 4
  else if replE (wdL w) ≠ 0 then replE (wdL w)
  else if ¬ (sameSh w.c (replL (wdL w)) = true ∧ w.rd.length = 3) then 4
  else if w.rd.all (rdOk w.up (wdL w).length) = true then 0 else 3

/-- The record of a happening. -/
def recOf (x : Hp) : Rc := if x.k = 2 then ⟨2, x.s, x.n, []⟩ else if x.k = 3 then ⟨3, x.s, x.n, []⟩ else if x.k = 4 then ⟨4, 0, x.n, []⟩ else ⟨1, 0, 0, x.e⟩

/-- What a happening answers, of a right world. -/
def hapE (w : Wd) (x : Hp) : Int :=
  if ¬ (1 ≤ x.k ∧ x.k ≤ 9) then 4
  else if w.up ≠ decide (x.k ≠ 8) then 7
  else if x.k = 5 ∨ x.k = 6 then (if 0 ≤ x.n ∧ x.n ≤ 2 then 0 else 5)
  else if x.k = 7 then 0
  else if x.k = 8 then replE (recL w.d)
  else if nextE w.c (recOf x) ≠ 0 then nextE w.c (recOf x)
  else if dputE w.d (recOf x) ≠ 0 then dputE w.d (recOf x)
  else if x.k = 9 then 0 else syncE (dputD w.d (recOf x))

def hapW (w : Wd) (x : Hp) : Wd :=
  if hapE w x ≠ 0 then wd0
  else if x.k = 5 then ⟨w.c, w.d, w.up, w.rd.set x.n.toNat (recL w.d).length⟩
  else if x.k = 6 then ⟨w.c, w.d, w.up, w.rd.set x.n.toNat (-1)⟩
  else if x.k = 7 then ⟨newS, w.d, false, shutR⟩
  else if x.k = 8 then ⟨replL (recL w.d), recD w.d, true, w.rd⟩
  else if x.k = 9 then ⟨newS, ⟨w.d.safe, (dputD w.d (recOf x)).wait.take x.n.toNat⟩, false, shutR⟩
  else ⟨nextL w.c (recOf x), syncD (dputD w.d (recOf x)), w.up, w.rd⟩

/-- Do, whatever the world. -/
def doE (w : Wd) (x : Hp) : Int := if wdE w ≠ 0 then wdE w else hapE w x
def doW (w : Wd) (x : Hp) : Wd := if wdE w ≠ 0 then wd0 else hapW w x

/-- One after the other; what has an error changes nothing. -/
def runW : Wd → List Hp → Wd × List Int
  | w, [] => (w, [])
  | w, x :: l => if hapE w x = 0 then ((runW (hapW w x) l).1, 0 :: (runW (hapW w x) l).2) else ((runW w l).1, hapE w x :: (runW w l).2)

theorem runW_cons (w : Wd) (x : Hp) (l : List Hp) : runW w (x :: l) = if hapE w x = 0 then ((runW (hapW w x) l).1, 0 :: (runW (hapW w x) l).2) else ((runW w l).1, hapE w x :: (runW w l).2) := rfl

theorem runW_append : ∀ (a b : List Hp) (w : Wd), runW w (a ++ b) = ((runW (runW w a).1 b).1, (runW w a).2 ++ (runW (runW w a).1 b).2)
  | [], b, w => by simp [runW]
  | x :: a, b, w => by
    rw [List.cons_append, runW_cons, runW_cons]
    split
    · rw [runW_append a b]
      rfl
    · rw [runW_append a b]
      rfl

theorem wd_new : wdE wdNew = 0 := by
  have h : recL dk0 = [] := rfl
  have hL : wdL wdNew = [] := by
    unfold wdL wdNew
    rw [if_pos rfl]
    exact h
  unfold wdE
  rw [hL]
  rw [if_neg (by decide), if_neg (by decide), if_neg (by decide), if_neg (by decide), if_pos (by decide)]

end Go.Proofs.YtjjfgmcgonkicaaGreatDoor

/-
  Right worlds: a world's shelf is what its log makes; the power goes and comes back. No program is named.
-/
namespace Go.Proofs.YtjjfgmcgonkicaaGreatDoor

theorem sameBs_eq : ∀ {a b : List Bk}, sameBs a b = true → a = b
  | [], [], _ => rfl
  | [], _ :: _, h => by cases h
  | _ :: _, [], h => by cases h
  | x :: r, y :: s, h => by
    unfold sameBs at h
    rw [Bool.and_eq_true] at h
    rw [sameB_eq h.1, sameBs_eq h.2]

theorem sameRw_eq {x y : Rw} (h : sameRw x y = true) : x = y := by
  unfold sameRw at h
  rw [Bool.and_eq_true] at h
  cases x
  cases y
  simp only at h
  rw [sameBs_eq h.1, of_decide_eq_true h.2]

theorem sameSh_eq : ∀ {a b : List Rw}, sameSh a b = true → a = b
  | [], [], _ => rfl
  | [], _ :: _, h => by cases h
  | _ :: _, [], h => by cases h
  | x :: r, y :: s, h => by
    unfold sameSh at h
    rw [Bool.and_eq_true] at h
    rw [sameRw_eq h.1, sameSh_eq h.2]

/-- What a right world has. -/
theorem wd_right {w : Wd} (h : wdE w = 0) : dkE w.d = 0 ∧ (w.up = true → w.d.wait = []) ∧ replE (wdL w) = 0 ∧ w.c = replL (wdL w) ∧ w.rd.length = 3 ∧ ∀ v ∈ w.rd, rdOk w.up (wdL w).length v = true := by
  unfold wdE at h
  split at h
  · contradiction
  · rename_i h1
    split at h
    · cases h
    · rename_i h2
      split at h
      · contradiction
      · rename_i h3
        split at h
        · cases h
        · rename_i h4
          split at h
          · rename_i h5
            have h4' := Decidable.not_not.1 h4
            exact ⟨Decidable.not_not.1 h1, fun hu => Decidable.not_not.1 fun hw => h2 ⟨hu, hw⟩, Decidable.not_not.1 h3, sameSh_eq h4'.1, h4'.2, List.all_eq_true.1 h5⟩
          · cases h

theorem wd_of {w : Wd} (h1 : dkE w.d = 0) (h2 : w.up = true → w.d.wait = []) (h3 : replE (wdL w) = 0) (h4 : w.c = replL (wdL w)) (h5 : w.rd.length = 3) (h6 : ∀ v ∈ w.rd, rdOk w.up (wdL w).length v = true) : wdE w = 0 := by
  unfold wdE
  rw [if_neg (by simp [h1]), if_neg (fun h => h.2 (h2 h.1)), if_neg (by simp [h3]), if_neg (fun h => h ⟨by rw [h4]; exact sameSh_self _, h5⟩), if_pos (List.all_eq_true.2 h6)]

theorem shut_ok (up : Bool) (n : Nat) : ∀ v ∈ shutR, rdOk up n v = true := by
  intro v hv
  simp only [shutR, List.mem_cons, List.not_mem_nil, or_false, or_self] at hv
  subst hv
  unfold rdOk
  simp

/-- A disk on which nothing waits is recovered as it is. -/
theorem rec_still {d : Dk} (h : dkE d = 0) (hw : d.wait = []) : recD d = d := by
  unfold recD kept
  rw [if_pos h, hw]
  simp only [List.take_nil, List.append_nil]
  rw [← hw]

/-- The power goes: the world is right still. -/
theorem crash_right {w : Wd} (h : wdE w = 0) (hu : w.up = true) : hapE w ⟨7, 0, 0, []⟩ = 0 ∧ hapW w ⟨7, 0, 0, []⟩ = ⟨newS, w.d, false, shutR⟩ ∧ wdE ⟨newS, w.d, false, shutR⟩ = 0 := by
  obtain ⟨h1, _, _, _, _, _⟩ := wd_right h
  have e : hapE w ⟨7, 0, 0, []⟩ = 0 := by
    unfold hapE
    rw [if_neg (by decide), if_neg (by rw [hu]; decide), if_neg (by decide), if_pos rfl]
  refine ⟨e, ?_, wd_of h1 (fun h => by cases h) rfl rfl rfl (shut_ok _ _)⟩
  unfold hapW
  rw [if_neg (by simp [e]), if_neg (by decide), if_neg (by decide), if_pos rfl]

/-- The power is there again: the world is as it was, but for its readers. -/
theorem boot_still {w : Wd} (h : wdE w = 0) (hu : w.up = true) : hapE ⟨newS, w.d, false, shutR⟩ ⟨8, 0, 0, []⟩ = 0 ∧ hapW ⟨newS, w.d, false, shutR⟩ ⟨8, 0, 0, []⟩ = ⟨w.c, w.d, true, shutR⟩ := by
  obtain ⟨h1, h2, h3, h4, _, _⟩ := wd_right h
  have hL : wdL w = recL w.d := if_pos hu
  rw [hL] at h3 h4
  have e : hapE ⟨newS, w.d, false, shutR⟩ ⟨8, 0, 0, []⟩ = 0 := by
    unfold hapE
    rw [if_neg (by decide), if_neg (by simp), if_neg (by decide), if_neg (by decide), if_pos rfl]
    exact h3
  refine ⟨e, ?_⟩
  unfold hapW
  rw [if_neg (by simp [e]), if_neg (by decide), if_neg (by decide), if_neg (by decide), if_pos rfl]
  simp only
  rw [rec_still h1 (h2 hu), ← h4]

end Go.Proofs.YtjjfgmcgonkicaaGreatDoor

/-
  A right disk is a log: what is safe is the text of its records, and what Recover makes is the text of all. No program is named.
-/
namespace Go.Proofs.YtjjfgmcgonkicaaGreatDoor

theorem parse_canon {s : ByteArray} (h : parseE s = 0) : recE (parseR s) = 0 ∧ (⟨(recT (parseR s)).toArray⟩ : ByteArray) = s := by
  unfold parseE at h
  split at h
  · cases h
  · rename_i hb
    unfold parseR
    rw [if_neg hb]
    cases hT : textR s with
    | none => rw [hT] at h; cases h
    | some r =>
      rw [hT] at h
      simp only at h ⊢
      rw [if_pos h]
      exact ⟨h, bytes_eq.2 (back_print hT h)⟩

theorem ln_canon {l : List UInt8} (h : lnE l = 0) : recE (lnR l) = 0 ∧ l = recT (lnR l) ++ 10 :: lnB l := by
  have hy := lnE_ok h
  unfold lnE at h
  rw [if_pos hy] at h
  obtain ⟨h1, h2⟩ := parse_canon h
  have hR : lnR l = parseR (ofB (lfT l)) := if_pos hy
  have hB : lnB l = lfB l := if_pos hy
  rw [hR, hB]
  refine ⟨h1, ?_⟩
  have h3 : recT (parseR (ofB (lfT l))) = lfT l := by
    have := congrArg bytes h2
    rw [bytes_ofB] at this
    simpa [bytes] using this
  rw [h3]
  rcases lf_cases l with ⟨h4, _⟩ | ⟨_, h4, _⟩
  · rw [hy] at h4; cases h4
  · exact h4

theorem scan_canon : ∀ (n k : Nat) (l : List UInt8), l.length ≤ n → (scan k l).2 = 0 → l = logT (scan k l).1 ∧ ∀ r ∈ (scan k l).1, recE r = 0
  | 0, k, l, hl, _ => by
    obtain rfl := List.length_eq_zero_iff.1 (Nat.le_zero.1 hl)
    rw [scan_nil]
    exact ⟨rfl, fun r hr => by simp at hr⟩
  | n + 1, k, l, hl, h => by
    by_cases h0 : l = []
    · subst h0
      rw [scan_nil]
      exact ⟨rfl, fun r hr => by simp at hr⟩
    by_cases h1 : lnE l = 0
    · by_cases h2 : k = 60
      · subst h2
        rw [scan_many h0 h1] at h
        cases h
      · rw [scan_step h0 h1 h2] at h ⊢
        obtain ⟨c1, c2⟩ := ln_canon h1
        obtain ⟨i1, i2⟩ := scan_canon n (k + 1) (lnB l) (by have := lnB_less h1; omega) h
        refine ⟨?_, fun r hr => ?_⟩
        · have e := logT_cons (lnR l) (scan (k + 1) (lnB l)).1 []
          rw [List.append_nil, List.append_nil] at e
          rw [e, ← i1]
          exact c2
        · rcases List.mem_cons.1 hr with rfl | hr
          · exact c1
          · exact i2 r hr
    · rw [scan_bad h0 h1] at h
      exact absurd h h1

theorem tail_canon : ∀ (n k : Nat) (l : List UInt8), l.length ≤ n → k ≤ 60 → l = logT (tail k l).1 ++ (tail k l).2 ∧ (∀ r ∈ (tail k l).1, recE r = 0) ∧ (tail k l).1.length + k ≤ 60
  | 0, k, l, hl, hk => by
    obtain rfl := List.length_eq_zero_iff.1 (Nat.le_zero.1 hl)
    rw [tail_empty]
    exact ⟨rfl, fun r hr => by simp at hr, by simpa using hk⟩
  | n + 1, k, l, hl, hk => by
    by_cases h1 : k < 60 ∧ lnE l = 0
    · rw [tail_step h1]
      obtain ⟨c1, c2⟩ := ln_canon h1.2
      obtain ⟨i1, i2, i3⟩ := tail_canon n (k + 1) (lnB l) (by have := lnB_less h1.2; omega) (by omega)
      refine ⟨?_, fun r hr => ?_, by simp only [List.length_cons]; omega⟩
      · simp only
        rw [logT_cons, ← i1]
        exact c2
      · rcases List.mem_cons.1 hr with rfl | hr
        · exact c1
        · exact i2 r hr
    · rw [tail_stop h1]
      exact ⟨by simp [logT], fun r hr => by simp at hr, by simpa using hk⟩

/-- A right disk: what is safe, what is recovered. -/
theorem disk_canon {d : Dk} (h : dkE d = 0) : d.safe = logT (dkL d) ∧ (∀ r ∈ recL d, recE r = 0) ∧ (recL d).length ≤ 60 ∧ recD d = ⟨logT (recL d), []⟩ ∧ (logT (recL d)).length ≤ 60000 ∧ dkE (recD d) = 0 ∧ recL (recD d) = recL d ∧ recD (recD d) = recD d := by
  have hd := h
  unfold dkE at hd
  split at hd
  · cases hd
  · rename_i hsz
    have hL : dkL d = (scan 0 d.safe).1 := if_pos h
    obtain ⟨s1, s2⟩ := scan_canon d.safe.length 0 d.safe (Nat.le_refl _) hd
    rw [← hL] at s1 s2
    obtain ⟨t1, t2, t3⟩ := tail_canon d.wait.length (dkL d).length d.wait (Nat.le_refl _) (dkL_le d)
    have hR : recL d = dkL d ++ (tail (dkL d).length d.wait).1 := if_pos h
    have hlen := congrArg List.length t1
    rw [List.length_append] at hlen
    have hk : kept d = logT (tail (dkL d).length d.wait).1 := by
      unfold kept
      rw [show d.wait.length - (tail (dkL d).length d.wait).2.length = (logT (tail (dkL d).length d.wait).1).length by omega]
      generalize tail (dkL d).length d.wait = T at *
      rw [t1, List.take_left]
    have hD : recD d = ⟨logT (recL d), []⟩ := by
      unfold recD
      rw [if_pos h, hk, hR, logT_append, ← s1]
    have ok : ∀ r ∈ recL d, recE r = 0 := by
      intro r hr
      rw [hR] at hr
      exact (List.mem_append.1 hr).elim (s2 r) (t2 r)
    have l60 : (recL d).length ≤ 60 := by
      rw [hR, List.length_append]
      omega
    have sz : (logT (recL d)).length ≤ 60000 := by
      have e := congrArg List.length s1
      rw [hR, logT_append, List.length_append]
      omega
    obtain ⟨k0, m, hm, k1, k2, k3, k4, k5⟩ := keep_log (recL d) [] 0 ok (fun r hr => by simp at hr) (by simpa using l60) (by simpa [logT] using sz)
    have hnil : (([] : List Rc).take m) = [] := by simp
    rw [hnil, List.append_nil] at k3 k4 k5
    refine ⟨s1, ok, l60, hD, sz, ?_, ?_, ?_⟩
    · rw [hD]; exact k3
    · rw [hD]; exact k4
    · rw [hD]; exact k5

end Go.Proofs.YtjjfgmcgonkicaaGreatDoor

/-
  What a happening makes of a right world is right. No program is named.
-/
namespace Go.Proofs.YtjjfgmcgonkicaaGreatDoor

theorem wd_up {w : Wd} (h : wdE w = 0) (hu : w.up = true) : w.d = dkOf (recL w.d) ∧ replE (recL w.d) = 0 ∧ w.c = replL (recL w.d) ∧ (∀ r ∈ recL w.d, recE r = 0) ∧ (recL w.d).length ≤ 60 := by
  obtain ⟨h1, h2, h3, h4, _, _⟩ := wd_right h
  have hL : wdL w = recL w.d := if_pos hu
  rw [hL] at h3 h4
  obtain ⟨_, c2, c3, c4, _, _, _, _⟩ := disk_canon h1
  have := rec_still h1 (h2 hu)
  rw [c4] at this
  exact ⟨this.symm, h3, h4, c2, c3⟩

/-- One record more on a right log. -/
theorem log_more {L : List Rc} {r : Rc} (hL : ∀ x ∈ L, recE x = 0) (h60 : L.length ≤ 60) (hp : dputE (dkOf L) r = 0) (hs : syncE (dputD (dkOf L) r) = 0) : syncD (dputD (dkOf L) r) = dkOf (L ++ [r]) ∧ recE r = 0 ∧ (L ++ [r]).length ≤ 60 := by
  obtain ⟨_, hr, hd, _⟩ := dput_ok hp
  have e : dputD (dkOf L) r = ⟨logT L, recT r ++ [10]⟩ := by rw [hd]; rfl
  have elog : logT L ++ (recT r ++ [10]) = logT (L ++ [r]) := by rw [logT_append, logT_one]
  have hsd : syncD (dputD (dkOf L) r) = dkOf (L ++ [r]) := by
    unfold syncD
    rw [if_pos hs, e]
    simp only
    rw [elog]
    rfl
  refine ⟨hsd, hr, ?_⟩
  rw [List.length_append]
  by_cases hlt : L.length < 60
  · exact hlt
  · have h60' : L.length = 60 := by omega
    unfold syncE at hs
    split at hs
    · contradiction
    · rw [e] at hs
      simp only at hs
      rw [elog] at hs
      unfold dkE at hs
      split at hs
      · cases hs
      · simp only at hs
        have := scan_log L 0 (recT r ++ [10]) hL (by omega)
        rw [elog] at this
        rw [this, h60'] at hs
        simp only [Nat.zero_add] at hs
        have hln := (ln_rec hr ([] : List UInt8)).1
        rw [scan_many (by simp) hln] at hs
        cases hs

end Go.Proofs.YtjjfgmcgonkicaaGreatDoor
