/-
  Records and their texts, as plain lists: a printed record is read as it was, a read one printed as it was. No program is named.
-/
import Derived.Deep.RegionHeld3
import Derived.Deep.Cut
import Derived.Deep.CutRange
import Derived.Deep.RegionLaw
import Derived.Test.YtabeihkfjlmepaaGreatDoorP07
import Derived.Test.YtabeihkfjlmepaaGreatDoorP06
import Derived.Test.YtabeihkfjlmepaaGreatDoorP04
import Derived.Test.YtabeihkfjlmepaaGreatDoorP01
namespace Go.Proofs.YtabeihkfjlmepaaGreatDoor
open Go.Lib (itoa)

theorem bytes_mk (l : List UInt8) : bytes ⟨l.toArray⟩ = l := by simp [bytes]

theorem chunk_nums : ∀ l : List Nt, chunkL (ntNums l) = l
  | [] => rfl
  | x :: r => by
    have ih := chunk_nums r
    unfold ntNums at ih ⊢
    rw [List.flatMap_cons]
    simp only [List.cons_append, List.nil_append, chunkL, ih]

theorem nums_chunk : ∀ (m : Nat) (ns : List Int), ns.length = m * 3 → ntNums (chunkL ns) = ns
  | 0, [], _ => rfl
  | 0, _ :: _, h => by simp at h
  | m + 1, [], h => by simp at h
  | m + 1, [_], h => by simp at h; omega
  | m + 1, [_, _], h => by simp at h; omega
  | m + 1, a :: b :: c :: r, h => by
    have ih := nums_chunk m r (by simp at h; omega)
    unfold ntNums at ih ⊢
    rw [chunkL, List.flatMap_cons, ih]
    rfl

theorem plain_words (w : List UInt8) (ns : List Int) (hw : ∀ c ∈ w, c ≠ 32) : sp (w ++ numsT ns) = w :: ns.map itoa := by
  have h := sp_jn (ns.map itoa) w (fun x hx => by
    rcases List.mem_cons.1 hx with rfl | hx
    · exact hw
    · obtain ⟨n, _, rfl⟩ := List.mem_map.1 hx
      exact itoa_plain n)
  rw [jn32, ← numsT_map] at h
  exact h

theorem read_words (w : List UInt8) (ns : List Int) (hw : ∀ c ∈ w, c ≠ 32) (hb : ∀ n ∈ ns, -9223372036854775808 ≤ n ∧ n ≤ 9223372036854775807) :
    textR ⟨(w ++ numsT ns).toArray⟩ = (if w = wBatch ∧ ns.length % 3 = 0 then some ⟨1, 0, 0, chunkL ns⟩ else if w = wSeal ∧ ns.length = 2 then some ⟨2, ns.getD 0 0, ns.getD 1 0, []⟩ else if w = wMerge ∧ ns.length = 2 then some ⟨3, ns.getD 0 0, ns.getD 1 0, []⟩ else if w = wDrop ∧ ns.length = 1 then some ⟨4, 0, ns.getD 0 0, []⟩ else none) := by
  rw [textR_sp, bytes_mk, plain_words w ns hw]
  simp only [readR, readNums_itoa ns hb, Option.bind_some]

/-- A printed record is read as it was. -/
theorem back_read {r : Rc} (h : recE r = 0) : textR ⟨(recT r).toArray⟩ = some r ∧ (recT r).length ≤ 60000 := by
  by_cases h1 : r.k = 1
  · obtain ⟨e1, e2, e3, e4⟩ := recE_few h h1
    have eT : recT r = wBatch ++ numsT (ntNums r.e) := by unfold recT; rw [if_pos h, if_pos h1]
    have hl := numsT_le (ntNums r.e) (nums_in e4)
    rw [ntNums_length] at hl
    rw [eT]
    refine ⟨?_, by rw [List.length_append]; have : wBatch.length = 5 := rfl; omega⟩
    rw [read_words wBatch _ (by decide) (nums_in e4), if_pos ⟨rfl, by rw [ntNums_length]; omega⟩, chunk_nums]
    obtain ⟨k, s, m, l⟩ := r
    simp only at *
    subst h1
    subst e1
    subst e2
    rfl
  · obtain ⟨hk, e1, e2, e3, e4, e5, e6⟩ := recE_plain h h1
    obtain ⟨k, s, m, l⟩ := r
    simp only at *
    subst e1
    have hb2 : ∀ n ∈ [s, m], -9223372036854775808 ≤ n ∧ n ≤ 9223372036854775807 := by
      intro n hn
      simp at hn
      omega
    have hb1 : ∀ n ∈ [m], -9223372036854775808 ≤ n ∧ n ≤ 9223372036854775807 := by
      intro n hn
      simp at hn
      omega
    have l2 := numsT_le [s, m] hb2
    have l1 := numsT_le [m] hb1
    simp only [List.length_cons, List.length_nil] at l1 l2
    rcases hk with rfl | rfl | rfl
    · have eT : recT ⟨2, s, m, []⟩ = wSeal ++ numsT [s, m] := by unfold recT; rw [if_pos h]; rfl
      rw [eT]
      refine ⟨?_, by rw [List.length_append]; have : wSeal.length = 4 := rfl; omega⟩
      rw [read_words wSeal _ (by decide) hb2]
      rfl
    · have eT : recT ⟨3, s, m, []⟩ = wMerge ++ numsT [s, m] := by unfold recT; rw [if_pos h]; rfl
      rw [eT]
      refine ⟨?_, by rw [List.length_append]; have : wMerge.length = 5 := rfl; omega⟩
      rw [read_words wMerge _ (by decide) hb2]
      rfl
    · obtain rfl := e2 rfl
      have eT : recT ⟨4, 0, m, []⟩ = wDrop ++ numsT [m] := by unfold recT; rw [if_pos h]; rfl
      rw [eT]
      refine ⟨?_, by rw [List.length_append]; have : wDrop.length = 4 := rfl; omega⟩
      rw [read_words wDrop _ (by decide) hb1]
      rfl

/-- A read record is printed as it was. -/
theorem back_print {s : ByteArray} {r : Rc} (h : textR s = some r) (h0 : recE r = 0) : recT r = bytes s := by
  rw [textR_sp] at h
  have hj := jn_sp (bytes s)
  obtain ⟨w, ws, hw⟩ := List.exists_cons_of_ne_nil (sp_ne (bytes s))
  rw [hw] at h hj
  rw [jn32] at hj
  simp only [readR] at h
  cases hr : readNums ws with
  | none => rw [hr] at h; cases h
  | some ns =>
    rw [hr] at h
    simp only [Option.bind_some] at h
    have hws := readNums_back ws ns hr
    rw [hws, ← numsT_map] at hj
    split at h
    · rename_i hc
      obtain ⟨rfl, h3⟩ := hc
      simp only [Option.some.injEq] at h
      subst h
      unfold recT
      rw [if_pos h0, if_pos rfl, nums_chunk (ns.length / 3) ns (by omega)]
      exact hj
    · split at h
      · rename_i hc
        obtain ⟨rfl, h2⟩ := hc
        match ns, h2 with
        | [a, b], _ =>
          simp only [Option.some.injEq] at h
          subst h
          unfold recT
          rw [if_pos h0]
          exact hj
      · split at h
        · rename_i hc
          obtain ⟨rfl, h2⟩ := hc
          match ns, h2 with
          | [a, b], _ =>
            simp only [Option.some.injEq] at h
            subst h
            unfold recT
            rw [if_pos h0]
            exact hj
        · split at h
          · rename_i hc
            obtain ⟨rfl, h2⟩ := hc
            match ns, h2 with
            | [a], _ =>
              simp only [Option.some.injEq] at h
              subst h
              unfold recT
              rw [if_pos h0]
              exact hj
          · cases h

/-- Unlike records have unlike texts. -/
theorem recT_inj {r q : Rc} (hr : recE r = 0) (hq : recE q = 0) (h : recT r = recT q) : r = q := by
  have h1 := (back_read hr).1
  rw [h, (back_read hq).1] at h1
  exact (Option.some.inj h1).symm

end Go.Proofs.YtabeihkfjlmepaaGreatDoor

/-
  A record's text has no line feed; a log of records is scanned as it was written. No program is named.
-/
namespace Go.Proofs.YtabeihkfjlmepaaGreatDoor
open Go.Lib (itoa decDigits)

theorem itoa_noLF (n : Int) : ∀ c ∈ itoa n, c ≠ 10 := by
  intro c hc he
  subst he
  unfold itoa at hc
  split at hc
  · rcases List.mem_cons.1 hc with h | h
    · exact absurd h (by decide)
    · have := dec_digits _ _ h
      simp at this
  · have := dec_digits _ _ hc
    simp at this

theorem numsT_noLF (l : List Int) : ∀ c ∈ numsT l, c ≠ 10 := by
  intro c hc
  unfold numsT at hc
  obtain ⟨n, _, hn⟩ := List.mem_flatMap.1 hc
  rcases List.mem_cons.1 hn with h | h
  · subst h; decide
  · exact itoa_noLF n c h

theorem word_noLF {w : List UInt8} {l : List Int} (hw : w = wBatch ∨ w = wSeal ∨ w = wMerge ∨ w = wDrop) : ∀ c ∈ w ++ numsT l, c ≠ 10 := by
  intro c hc
  rcases List.mem_append.1 hc with h | h
  · intro e
    subst e
    rcases hw with rfl | rfl | rfl | rfl <;> exact absurd h (by decide)
  · exact numsT_noLF l c h

theorem recT_noLF (r : Rc) : ∀ c ∈ recT r, c ≠ 10 := by
  unfold recT
  split
  · split
    · exact word_noLF (.inl rfl)
    · split
      · exact word_noLF (.inr (.inl rfl))
      · split
        · exact word_noLF (.inr (.inr (.inl rfl)))
        · exact word_noLF (.inr (.inr (.inr rfl)))
  · intro c hc; simp at hc

theorem parse_rec {r : Rc} (h : recE r = 0) : parseR (ofB (recT r)) = r ∧ parseE (ofB (recT r)) = 0 := by
  obtain ⟨h1, h2⟩ := back_read h
  have hs : ¬ 60000 < (ofB (recT r)).size := by rw [ofB_size]; omega
  unfold parseR parseE
  rw [if_neg hs, if_neg hs, show textR (ofB (recT r)) = some r from h1]
  simp only [h, if_true, and_self]

/-- A line that is a record's. -/
theorem ln_rec {r : Rc} (h : recE r = 0) (q : List UInt8) : lnE (recT r ++ 10 :: q) = 0 ∧ lnR (recT r ++ 10 :: q) = r ∧ lnB (recT r ++ 10 :: q) = q := by
  obtain ⟨h1, h2, h3⟩ := lf_of (q := q) (recT_noLF r)
  obtain ⟨p1, p2⟩ := parse_rec h
  unfold lnE lnR lnB
  rw [if_pos h1, if_pos h1, if_pos h1, h2, h3]
  exact ⟨p2, p1, rfl⟩

/-- A log of records. -/
def logT (l : List Rc) : List UInt8 := l.flatMap (fun r => recT r ++ [10])

theorem logT_cons (r : Rc) (l : List Rc) (q : List UInt8) : logT (r :: l) ++ q = recT r ++ 10 :: (logT l ++ q) := by
  unfold logT
  rw [List.flatMap_cons]
  simp

theorem logT_append (l m : List Rc) : logT (l ++ m) = logT l ++ logT m := by
  unfold logT
  exact List.flatMap_append

theorem logT_one (r : Rc) : logT [r] = recT r ++ [10] := by
  unfold logT
  simp

theorem scan_log : ∀ (l : List Rc) (k : Nat) (q : List UInt8), (∀ r ∈ l, recE r = 0) → k + l.length ≤ 60 → scan k (logT l ++ q) = (l ++ (scan (k + l.length) q).1, (scan (k + l.length) q).2)
  | [], k, q, _, _ => rfl
  | r :: l, k, q, h, hk => by
    obtain ⟨h1, h2, h3⟩ := ln_rec (h r List.mem_cons_self) (logT l ++ q)
    simp only [List.length_cons] at hk
    rw [logT_cons, scan_step (by simp) h1 (by omega), h2, h3, scan_log l (k + 1) q (fun x hx => h x (List.mem_cons_of_mem _ hx)) (by omega)]
    simp only [List.length_cons]
    rw [show k + 1 + l.length = k + (l.length + 1) by omega]
    rfl

theorem scan_log0 (l : List Rc) (h : ∀ r ∈ l, recE r = 0) (hk : l.length ≤ 60) : scan 0 (logT l) = (l, 0) := by
  have := scan_log l 0 [] h (by omega)
  rw [List.append_nil, scan_nil, List.append_nil] at this
  exact this

end Go.Proofs.YtabeihkfjlmepaaGreatDoor

/-
  What is kept of a log that was torn: its whole records, and no other. No program is named.
-/
namespace Go.Proofs.YtabeihkfjlmepaaGreatDoor

theorem lnE_torn {l : List UInt8} (h : ∀ c ∈ l, c ≠ 10) : lnE l = 8 := by
  rcases lf_cases l with ⟨h1, _⟩ | ⟨_, h2, _⟩
  · unfold lnE
    rw [h1]
    rfl
  · exact absurd rfl (h 10 (by rw [h2]; simp))

/-- A beginning of a log is read as a beginning of its records; what is behind them is one torn line. -/
theorem tail_log : ∀ (l : List Rc) (k n : Nat), (∀ r ∈ l, recE r = 0) → k + l.length ≤ 60 →
    ∃ m q, m ≤ l.length ∧ tail k ((logT l).take n) = (l.take m, q) ∧ (logT l).take n = logT (l.take m) ++ q
  | [], k, n, _, _ => by
    refine ⟨0, [], Nat.le_refl _, ?_, ?_⟩
    · have e : (logT []).take n = [] := by simp [logT]
      rw [e, tail_stop (by rw [lnE_nil]; simp)]
      rfl
    · simp [logT]
  | r :: l, k, n, h, hk => by
    have e := logT_cons r l []
    rw [List.append_nil, List.append_nil] at e
    rw [e]
    simp only [List.length_cons] at hk
    by_cases hn : n ≤ (recT r).length
    · refine ⟨0, (recT r).take n, Nat.zero_le _, ?_, ?_⟩
      · rw [List.take_append_of_le_length hn]
        rw [tail_stop (by rw [lnE_torn (fun c hc => recT_noLF r c (List.mem_of_mem_take hc))]; simp)]
        rfl
      · rw [List.take_append_of_le_length hn]
        rfl
    · obtain ⟨j, rfl⟩ : ∃ j, n = (recT r).length + (j + 1) := ⟨n - (recT r).length - 1, by omega⟩
      obtain ⟨m, q, hm, h1, h2⟩ := tail_log l (k + 1) j (fun x hx => h x (List.mem_cons_of_mem _ hx)) (by omega)
      obtain ⟨g1, g2, g3⟩ := ln_rec (h r List.mem_cons_self) ((logT l).take j)
      refine ⟨m + 1, q, by simp only [List.length_cons]; omega, ?_, ?_⟩
      · rw [List.take_length_add_append, List.take_succ_cons, tail_step ⟨by omega, g1⟩, g2, g3, h1]
        rfl
      · rw [List.take_length_add_append, List.take_succ_cons, List.take_succ_cons, logT_cons, h2]

theorem tail_empty (k : Nat) : tail k [] = ([], []) := tail_stop (by rw [lnE_nil]; simp)

/-- What recovering makes of a log whose end was torn off; and of that once more. -/
theorem keep_log (a b : List Rc) (n : Nat) (ha : ∀ r ∈ a, recE r = 0) (hb : ∀ r ∈ b, recE r = 0) (hl : a.length + b.length ≤ 60) (hs : (logT a).length + (logT b).length ≤ 60000) :
    dkE ⟨logT a, (logT b).take n⟩ = 0 ∧ ∃ m, m ≤ b.length ∧ recL ⟨logT a, (logT b).take n⟩ = a ++ b.take m ∧ recD ⟨logT a, (logT b).take n⟩ = ⟨logT (a ++ b.take m), []⟩ ∧
      dkE ⟨logT (a ++ b.take m), []⟩ = 0 ∧ recL ⟨logT (a ++ b.take m), []⟩ = a ++ b.take m ∧ recD ⟨logT (a ++ b.take m), []⟩ = ⟨logT (a ++ b.take m), []⟩ := by
  obtain ⟨m, q, hm, h1, h2⟩ := tail_log b a.length n hb (by omega)
  have hlen : ((logT b).take n).length ≤ (logT b).length := by rw [List.length_take]; omega
  have sa := scan_log0 a ha (by omega)
  have e0 : dkE ⟨logT a, (logT b).take n⟩ = 0 := by
    unfold dkE
    rw [if_neg (by simp only; omega), sa]
  have l0 : dkL ⟨logT a, (logT b).take n⟩ = a := by
    unfold dkL
    rw [if_pos e0, sa]
  have hq := congrArg List.length h2
  rw [List.length_append] at hq
  have hk : kept ⟨logT a, (logT b).take n⟩ = logT (b.take m) := by
    unfold kept
    rw [l0]
    simp only
    rw [h1]
    simp only
    rw [hq, Nat.add_sub_cancel, h2, List.take_left]
  have hab : ∀ r ∈ a ++ b.take m, recE r = 0 := fun r hr => (List.mem_append.1 hr).elim (ha r) (fun h => hb r (List.mem_of_mem_take h))
  have hml : (b.take m).length ≤ b.length := by rw [List.length_take]; omega
  have sb := scan_log0 (a ++ b.take m) hab (by rw [List.length_append]; omega)
  have e1 : dkE ⟨logT (a ++ b.take m), []⟩ = 0 := by
    unfold dkE
    rw [if_neg (by simp only [logT_append, List.length_append, List.length_nil]; omega), sb]
  have l1 : dkL ⟨logT (a ++ b.take m), []⟩ = a ++ b.take m := by
    unfold dkL
    rw [if_pos e1, sb]
  refine ⟨e0, m, hm, ?_, ?_, e1, ?_, ?_⟩
  · unfold recL
    rw [if_pos e0, l0]
    simp only
    rw [h1]
  · unfold recD
    rw [if_pos e0, hk, logT_append]
  · unfold recL
    rw [if_pos e1, l1]
    simp only
    rw [tail_empty, List.append_nil]
  · unfold recD kept
    rw [if_pos e1]
    simp

/-- Records put one after the other, those that can be: the disk, and which were. -/
def dputsL : Dk → List Rc → Dk × List Rc
  | d, [] => (d, [])
  | d, r :: l => if dputE d r = 0 then ((dputsL (dputD d r) l).1, r :: (dputsL (dputD d r) l).2) else dputsL d l

theorem dput_ok {d : Dk} {r : Rc} (h : dputE d r = 0) : dkE d = 0 ∧ recE r = 0 ∧ dputD d r = ⟨d.safe, d.wait ++ (recT r ++ [10])⟩ ∧ dkE (dputD d r) = 0 := by
  have hd : dputD d r = ⟨d.safe, d.wait ++ (recT r ++ [10])⟩ := if_pos h
  unfold dputE at h
  split at h
  · contradiction
  · rename_i h0
    have h0' : dkE d = 0 := Decidable.not_not.1 h0
    split at h
    · contradiction
    · rename_i h1
      split at h
      · cases h
      · rename_i h2
        refine ⟨h0', Decidable.not_not.1 h1, hd, ?_⟩
        rw [hd]
        unfold dkE at h0' ⊢
        split at h0'
        · cases h0'
        · rw [if_neg (by simp only [List.length_append, List.length_cons, List.length_nil]; omega)]
          exact h0'

theorem putsL_log : ∀ (l : List Rc) (d : Dk), dkE d = 0 → (dputsL d l).1 = ⟨d.safe, d.wait ++ logT (dputsL d l).2⟩ ∧ (∀ r ∈ (dputsL d l).2, recE r = 0) ∧ (dputsL d l).2.length ≤ l.length ∧ dkE (dputsL d l).1 = 0
  | [], d, h => by
    refine ⟨?_, ?_, Nat.le_refl _, h⟩
    · simp [dputsL, logT]
    · intro r hr
      cases hr
  | r :: l, d, h => by
    unfold dputsL
    split
    · rename_i hp
      obtain ⟨p1, p2, p3, p4⟩ := dput_ok hp
      obtain ⟨q1, q2, q3, q4⟩ := putsL_log l (dputD d r) p4
      refine ⟨?_, ?_, ?_, q4⟩
      · simp only
        rw [q1]
        have e := logT_cons r (dputsL (dputD d r) l).2 []
        rw [List.append_nil, List.append_nil] at e
        rw [e]
        rw [p3]
        simp
      · intro x hx
        rcases List.mem_cons.1 hx with rfl | hx
        · exact p2
        · exact q2 x hx
      · simp only [List.length_cons]
        omega
    · obtain ⟨q1, q2, q3, q4⟩ := putsL_log l d h
      exact ⟨q1, q2, by simp only [List.length_cons]; omega, q4⟩

/-- What is on a disk that has a log, behind Sync. -/
theorem sync_log (a : List Rc) (ha : ∀ r ∈ a, recE r = 0) (hl : a.length ≤ 60) (hs : (logT a).length ≤ 60000) : syncE ⟨[], logT a⟩ = 0 ∧ syncD ⟨[], logT a⟩ = ⟨logT a, []⟩ := by
  have e0 : dkE ⟨[], logT a⟩ = 0 := by
    unfold dkE
    rw [if_neg (by simp only [List.length_nil]; omega)]
    rfl
  have e1 : syncE ⟨[], logT a⟩ = 0 := by
    unfold syncE
    rw [if_neg (by rw [e0]; simp)]
    unfold dkE
    rw [if_neg (by simp only [List.nil_append, List.length_nil]; omega)]
    simp only [List.nil_append]
    rw [scan_log0 a ha hl]
  exact ⟨e1, by unfold syncD; rw [if_pos e1]; rfl⟩

end Go.Proofs.YtabeihkfjlmepaaGreatDoor

/-
  disk.Same, disk.Sync, disk.Crash: what they answer; nothing that was there is written.
-/
namespace Go.Proofs.YtabeihkfjlmepaaGreatDoor
open Go.RowKit
open Go.Lib (byteCells)

theorem put2 {w : World} {g : Nat} {c0 c1 : Value} {t : TypeId} (h : Blk w g [c0, c1] t) (u0 u1 : Value) : Blk ((w.setCell ⟨g, 0, none⟩ u0).setCell ⟨g, 1, none⟩ u1) g [u0, u1] t := (h.set 0 u0).set 1 u1

theorem below2s {B : Nat} {w W : World} (h : Below B w W) {g : Nat} (hg : B ≤ g) (u0 u1 : Value) : Below B w ((W.setCell ⟨g, 0, none⟩ u0).setCell ⟨g, 1, none⟩ u1) :=
  (h.setCell (p := ⟨g, 0, none⟩) hg u0).setCell (p := ⟨g, 1, none⟩) hg u1

/-- Bytes stay where a block of another kind is written. -/
theorem slU_set {w : World} {a : Option Addr} {cap g i : Nat} {l : List UInt8} {cs : List Value} {t : TypeId} (S : Sl w a cap (byteCells l)) (B : Blk w g cs t) (hk : ∀ c ∈ cs, ∀ b, c ≠ .int .u8 b) (v : Value) : Sl (w.setCell ⟨g, i, none⟩ v) a cap (byteCells l) := by
  obtain ⟨hr, h1, h2, h3⟩ := S
  refine ⟨?_, h1, h2, h3⟩
  rcases hr with h | ⟨b, off, e, hb, hc⟩
  · exact .inl h
  · by_cases hl : byteCells l = []
    · exact .inl hl
    · refine .inr ⟨b, off, e, by simpa using hb, fun j u hu => ?_⟩
      have hne : b ≠ g := by
        rintro rfl
        have hc0 := hc j u hu
        obtain ⟨x, hx, rfl⟩ : ∃ x, x ∈ l ∧ u = .int .u8 x.toNat := by
          have := List.mem_of_getElem? hu
          obtain ⟨x, hx, e⟩ := List.mem_map.1 this
          exact ⟨x, hx, e.symm⟩
        rw [B.cell] at hc0
        exact hk _ (List.mem_of_getElem? hc0) _ rfl
      rw [← hc j u hu]
      simp only [World.cell?]
      rw [heap_setCell_other w ⟨g, i, none⟩ b v hne]

set_option maxRecDepth 100000 in
theorem dsame_any (d x : Dk) (a1 a2 b1 b2 : Option Addr) (c1 c2 e1 e2 n1 n2 m1 m2 : Nat) (w : World) (s1 : Sl w a1 c1 (byteCells d.safe)) (s2 : Sl w a2 c2 (byteCells d.wait)) (t1 : Sl w b1 e1 (byteCells x.safe)) (t2 : Sl w b2 e2 (byteCells x.wait))
    (h1 : n1 = d.safe.length) (h2 : n2 = d.wait.length) (k1 : m1 = x.safe.length) (k2 : m2 = x.wait.length) :
    Calls Tryz.prog 12 #[.agg #[.slice a1 n1 c1, .slice a2 n2 c2], .agg #[.slice b1 m1 e1, .slice b2 m2 e2]] w fun e w' => e = .returned (.bool (decide (d.safe = x.safe ∧ d.wait = x.wait))) ∧ Below w.heap.size w w' := by
  have bel := newB (newB (Below.refl w.heap.size w) (.cells #[.slice a1 n1 c1, .slice a2 n2 c2] 24)) (.cells #[.slice b1 m1 e1, .slice b2 m2 e2] 24)
  have cE1 := fun W h h' => bequal_any a1 b1 c1 e1 n1 m1 d.safe x.safe W h h' h1 k1
  have cE2 := fun W h h' => bequal_any a2 b2 c2 e2 n2 m2 d.wait x.wait W h h' h2 k2
  have S1 := s1.keep bel (Nat.le_refl _)
  have S2 := s2.keep bel (Nat.le_refl _)
  have T1 := t1.keep bel (Nat.le_refl _)
  have T2 := t2.keep bel (Nat.le_refl _)
  replace h1 := hide h1
  replace h2 := hide h2
  replace k1 := hide k1
  replace k2 := hide k2
  by_cases hs : d.safe = x.safe
  · have hd : decide (d.safe = x.safe ∧ d.wait = x.wait) = decide (d.wait = x.wait) := by simp [hs]
    rw [hd]
    rw [decide_eq_true hs] at cE1
    generalize decide (d.wait = x.wait) = D at *
    clear hs hd
    go_enter Tryz.func12, Tryz.ntmps12
    go_wp2_with fail
    go_at_call 31
    refine (cE1 _ S1 T1).mono ?_
    rintro e w2 ⟨rfl, rfl⟩
    go_wp2_with fail
    go_at_call 31
    refine (cE2 _ S2 T2).mono ?_
    rintro e w2 ⟨rfl, rfl⟩
    go_wp2_with fail
    go_ret
    exact ⟨by simp, bel⟩
  · have hd : decide (d.safe = x.safe ∧ d.wait = x.wait) = false := by simp [hs]
    rw [hd]
    rw [decide_eq_false hs] at cE1
    clear hs hd
    go_enter Tryz.func12, Tryz.ntmps12
    go_wp2_with fail
    go_at_call 31
    refine (cE1 _ S1 T1).mono ?_
    rintro e w2 ⟨rfl, rfl⟩
    go_wp2_with fail
    go_ret
    exact ⟨rfl, bel⟩

/-- What the functions that answer a disk say. -/
def AnsD (w : World) (D : Dk) (E : Int) (e : Ending) (w' : World) : Prop :=
  ∃ (a1 a2 : Option Addr) (n1 n2 c1 c2 : Nat), e = .returned (.tuple #[.agg #[.slice a1 n1 c1, .slice a2 n2 c2], .int .i64 E]) ∧ n1 = D.safe.length ∧ n2 = D.wait.length ∧ Sl w' a1 c1 (byteCells D.safe) ∧ Sl w' a2 c2 (byteCells D.wait) ∧ Below w.heap.size w w'

theorem ans0 {w w' : World} {E : Int} (b : Below w.heap.size w w') : AnsD w dk0 E (.returned (.tuple #[.agg #[.slice none 0 0, .slice none 0 0], .int .i64 E])) w' :=
  ⟨none, none, 0, 0, 0, 0, rfl, rfl, rfl, Sl.ofNil _, Sl.ofNil _, b⟩

/-- Where bytes lie, there are bytes alone. -/
def BytB (w : World) (a : Option Addr) : Prop := ∀ ad, a = some ad → ∃ l, Blk w ad.block (byteCells l) 5

theorem BytB.call {w w' : World} {a : Option Addr} (h : BytB w a) (hb : Below w.heap.size w w') : BytB w' a := fun ad e => by
  obtain ⟨l, B⟩ := h ad e
  exact ⟨l, B.keep hb B.lt⟩

theorem BytB.off {w : World} {a : Option Addr} {base n size g : Nat} {e : TypeId} {v : Value} {xs : List Value} (h : BytB w a) (o : w.ownsRow base e size v n xs) (hg : v.ownBlock = some g) (ht : e ≠ 5) : Off g a := fun ad ea eg => by
  obtain ⟨l, B⟩ := h ad ea
  exact ownNe o B ht (by rw [hg, eg])

/-- The same, with where its bytes lie. -/
def AnsU (w : World) (D : Dk) (E : Int) (e : Ending) (w' : World) : Prop :=
  ∃ (a1 a2 : Option Addr) (n1 n2 c1 c2 : Nat), e = .returned (.tuple #[.agg #[.slice a1 n1 c1, .slice a2 n2 c2], .int .i64 E]) ∧ n1 = D.safe.length ∧ n2 = D.wait.length ∧ Sl w' a1 c1 (byteCells D.safe) ∧ Sl w' a2 c2 (byteCells D.wait) ∧ Below w.heap.size w w' ∧ BytB w' a1 ∧ BytB w' a2

theorem AnsU.d {w w' : World} {D : Dk} {E : Int} {e : Ending} (h : AnsU w D E e w') : AnsD w D E e w' := by
  obtain ⟨a1, a2, n1, n2, c1, c2, he, h1, h2, s1, s2, b, _, _⟩ := h
  exact ⟨a1, a2, n1, n2, c1, c2, he, h1, h2, s1, s2, b⟩

theorem ansU0 {w w' : World} {E : Int} (b : Below w.heap.size w w') : AnsU w dk0 E (.returned (.tuple #[.agg #[.slice none 0 0, .slice none 0 0], .int .i64 E])) w' :=
  ⟨none, none, 0, 0, 0, 0, rfl, rfl, rfl, Sl.ofNil _, Sl.ofNil _, b, (fun _ h => (by cases h)), (fun _ h => (by cases h))⟩

theorem slices_plain (a1 a2 : Option Addr) (n1 n2 c1 c2 : Nat) : ∀ c ∈ ([.slice a1 n1 c1, .slice a2 n2 c2] : List Value), ∀ b, c ≠ .int .u8 b := by
  intro c hc b
  simp only [List.mem_cons, List.not_mem_nil, or_false] at hc
  rcases hc with rfl | rfl <;> (intro h; cases h)

set_option maxHeartbeats 1000000 in
set_option maxRecDepth 100000 in
theorem sync_any (d : Dk) (a1 a2 : Option Addr) (c1 c2 n1 n2 : Nat) (w : World) (hg : Gl w) (s1 : Sl w a1 c1 (byteCells d.safe)) (s2 : Sl w a2 c2 (byteCells d.wait)) (h1 : n1 = d.safe.length) (h2 : n2 = d.wait.length) (few : n1 + n2 ≤ 9223372036854775807) :
    Calls Tryz.prog 6 #[.agg #[.slice a1 n1 c1, .slice a2 n2 c2]] w (AnsD w (syncD d) (syncE d)) := by
  have cC := fun W g s => dcheck_any d a1 a2 c1 c2 n1 n2 W g s h1 h2 few
  have B1 := (Blk.laid w [.slice a1 n1 c1, .slice a2 n2 c2] 24 _ rfl).alc (.cells #[.slice none 0 0, .slice none 0 0] 24)
  have B2 := Blk.laid (w.alloc (.cells #[.slice a1 n1 c1, .slice a2 n2 c2] 24)) [.slice none 0 0, .slice none 0 0] 24 (w.heap.size + 1) (by simp)
  have bel := newB (newB (Below.refl w.heap.size w) (.cells #[.slice a1 n1 c1, .slice a2 n2 c2] 24)) (.cells #[.slice none 0 0, .slice none 0 0] 24)
  have S1 := s1.keep bel (Nat.le_refl _)
  have S2 := s2.keep bel (Nat.le_refl _)
  have g := hg.call bel
  by_cases h0 : dkE d = 0
  · have few' : n1 + n2 ≤ 60000 := by
      have := h0
      unfold dkE at this
      split at this
      · cases this
      · rw [h1, h2]; omega
    have hE : syncE d = dkE ⟨d.safe ++ d.wait, []⟩ := if_neg (by simp [h0])
    have hD0 : syncE d ≠ 0 → syncD d = dk0 := fun h => if_neg h
    have hD1 : syncE d = 0 → syncD d = ⟨d.safe ++ d.wait, []⟩ := fun h => if_pos h
    have cJ := fun W s t => join_any a1 a2 c1 c2 n1 n2 d.safe d.wait W s t h1 h2 (by omega)
    have cK := fun gJ W g s => dcheck_any ⟨d.safe ++ d.wait, []⟩ (some ⟨gJ, 0, none⟩) none (n1 + n2) 0 (n1 + n2) 0 W g s (by rw [List.length_append, h1, h2]) rfl (by omega)
    have hJL : n1 + n2 = (d.safe ++ d.wait).length := by rw [List.length_append, h1, h2]
    rw [h0] at cC
    rw [← hE] at cK
    generalize syncE d = E at *
    generalize syncD d = D at *
    obtain ⟨N, hN⟩ : ∃ N, N = n1 + n2 := ⟨_, rfl⟩
    rw [← hN] at cK cJ hJL few'
    replace h1 := hide h1
    replace h2 := hide h2
    replace hN := hide hN
    replace hJL := hide hJL
    clear hE h0
    have x0 := B1.cell 0
    have x1 := B1.cell 1
    have l1 := B1.lt
    go_enter Tryz.func6, Tryz.ntmps6
    go_wp2_with fail
    generalize World.alloc (World.alloc w _) _ = w2 at *
    go_at_call 11
    refine (cC _ g S1).mono ?_
    rintro e w3 ⟨rfl, b3⟩
    clear x0 x1 l1
    replace B1 := B1.keep b3 B1.lt
    replace B2 := B2.keep b3 B2.lt
    replace S1 := S1.call b3
    replace S2 := S2.call b3
    replace g := g.call b3
    replace bel := belowCall bel b3
    have x0 := B1.cell 0
    have x1 := B1.cell 1
    have l1 := B1.lt
    go_wp2_with fail
    go_at_call 27
    refine (cJ _ S1 S2).mono ?_
    rintro e w4 ⟨rfl, BJ, b4⟩
    have SJ := ownBlkU BJ hJL.out (by omega)
    have B5 := Blk.laid w4 [.slice (some ⟨w3.heap.size, 0, none⟩) N N, .slice none 0 0] 24 _ rfl
    have bq := newB b4 (.cells #[.slice (some ⟨w3.heap.size, 0, none⟩) N N, .slice none 0 0] 24)
    replace SJ := SJ.alloc (.cells #[.slice (some ⟨w3.heap.size, 0, none⟩) N N, .slice none 0 0] 24)
    replace B2 := B2.keep bq B2.lt
    replace g := g.call bq
    replace bel := belowCall bel bq
    clear x0 x1 l1 b4 bq BJ B1 S1 S2
    go_upto_region 5 with fail
    generalize w3.heap.size = gJ at *
    generalize w4.heap.size = g5 at *
    generalize w4.alloc _ = w5 at *
    have x0 := B5.cell 0
    have x1 := B5.cell 1
    have l5 := B5.lt
    go_wp2_with fail
    go_at_call 11
    refine (cK _ _ g SJ).mono ?_
    rintro e w6 ⟨rfl, b6⟩
    clear x0 x1 l5
    replace B5 := B5.keep b6 B5.lt
    replace B2 := B2.keep b6 B2.lt
    replace SJ := SJ.call b6
    replace bel := belowCall bel b6
    have x0 := B5.cell 0
    have x1 := B5.cell 1
    have l5 := B5.lt
    have y0 := B2.cell 0
    have y1 := B2.cell 1
    have f0 := B2.free 0
    have f1 := B2.free 1
    have l2 := B2.lt
    by_cases hE0 : E = 0
    · obtain rfl := hD1 hE0
      subst hE0
      clear hD0 hD1
      go_wp2_with fail
      have B9 := put2 B2 (.slice (some ⟨gJ, 0, none⟩) N N) (.slice none 0 0)
      have bel9 := below2s bel (Nat.le_succ _) (.slice (some ⟨gJ, 0, none⟩) N N) (.slice none 0 0)
      have S9 := slU_set (i := 1) (slU_set (i := 0) SJ B2 (slices_plain _ _ _ _ _ _) (.slice (some ⟨gJ, 0, none⟩) N N)) (B2.set 0 (.slice (some ⟨gJ, 0, none⟩) N N)) (slices_plain _ _ _ _ _ _) (.slice none 0 0)
      have i0 := B9.cell 0
      have i1 := B9.cell 1
      exact bodyPost_ret (v := .tuple #[.agg #[.slice (some ⟨gJ, 0, none⟩) N N, .slice none 0 0], .int .i64 0]) (by simp [results, Tryz.results6, go_sem, i0, i1]) rfl ⟨_, none, N, 0, N, 0, rfl, hJL.out, rfl, S9, Sl.ofNil _, bel9⟩
    · obtain rfl := hD0 hE0
      have hd : decide (E = 0) = false := decide_eq_false hE0
      clear hD0 hD1
      go_wp2_with fail
      have B9 := put2 B2 (.slice none 0 0) (.slice none 0 0)
      have bel9 := below2s bel (Nat.le_succ _) (.slice none 0 0) (.slice none 0 0)
      have i0 := B9.cell 0
      have i1 := B9.cell 1
      exact bodyPost_ret (v := .tuple #[.agg #[.slice none 0 0, .slice none 0 0], .int .i64 E]) (by simp [results, Tryz.results6, go_sem, i0, i1]) rfl (ans0 bel9)
  · have hE : syncE d = dkE d := if_pos h0
    have hD : syncD d = dk0 := if_neg (by rw [hE]; exact h0)
    rw [hE, hD]
    have hd : decide (dkE d = 0) = false := decide_eq_false h0
    generalize dkE d = E at *
    replace h1 := hide h1
    replace h2 := hide h2
    clear hE hD
    have x0 := B1.cell 0
    have x1 := B1.cell 1
    have l1 := B1.lt
    go_enter Tryz.func6, Tryz.ntmps6
    go_wp2_with fail
    generalize World.alloc (World.alloc w _) _ = w2 at *
    go_at_call 11
    refine (cC _ g S1).mono ?_
    rintro e w3 ⟨rfl, b3⟩
    replace B2 := B2.keep b3 B2.lt
    replace bel := belowCall bel b3
    have y0 := B2.cell 0
    have y1 := B2.cell 1
    have f0 := B2.free 0
    have f1 := B2.free 1
    have l2 := B2.lt
    go_wp2_with fail
    have B9 := put2 B2 (.slice none 0 0) (.slice none 0 0)
    have bel9 := below2s bel (Nat.le_succ _) (.slice none 0 0) (.slice none 0 0)
    have i0 := B9.cell 0
    have i1 := B9.cell 1
    exact bodyPost_ret (v := .tuple #[.agg #[.slice none 0 0, .slice none 0 0], .int .i64 E]) (by simp [results, Tryz.results6, go_sem, i0, i1]) rfl (ans0 bel9)

end Go.Proofs.YtabeihkfjlmepaaGreatDoor

/-
  A frame some of whose places in a row are told by a function: how operations of a region that draws its order are shown over it, one by one.
-/
namespace Go.Proofs.YtabeihkfjlmepaaGreatDoor
open Go.RowKit

/-- The frame A with the places lo, lo + 1, .. (n of them) told by V. -/
def pV (A : Act) (lo n : Nat) (V : Nat → Value) : Act := { tmps := A.tmps.mapIdx (fun k x => if lo ≤ k ∧ k < lo + n then V (k - lo) else x), defers := A.defers }

theorem pV_put {A : Act} {lo n : Nat} {V : Nat → Value} (i d : Nat) (hd : d = lo + i) (hi : i < n) (v : Value) : (pV A lo n V).put (some d) v = pV A lo n (putV V i v) := by
  subst hd
  unfold pV Act.put
  simp only [Act.mk.injEq, and_true]
  apply Array.ext_getElem?
  intro k
  rw [Array.getElem?_setIfInBounds, Array.getElem?_mapIdx, Array.getElem?_mapIdx, Array.size_mapIdx]
  by_cases hk : lo + i = k
  · subst hk
    rw [if_pos rfl]
    by_cases hs : lo + i < A.tmps.size
    · rw [if_pos hs, Array.getElem?_eq_getElem hs]
      simp [putV, hi]
    · rw [if_neg hs, Array.getElem?_eq_none (by omega)]
      rfl
  · rw [if_neg hk]
    congr 1
    funext x
    by_cases hr : lo ≤ k ∧ k < lo + n
    · rw [if_pos hr, if_pos hr]
      unfold putV
      rw [if_neg (by omega)]
    · rw [if_neg hr, if_neg hr]

theorem pV_in {A : Act} {lo n : Nat} {V : Nat → Value} (i d : Nat) (hd : d = lo + i) (hi : i < n) (h : lo + n ≤ A.tmps.size) : (pV A lo n V).eval (.tmp d) = V i := by
  subst hd
  show (pV A lo n V).tmps.getD (lo + i) undef = V i
  unfold pV
  have hl : lo + i < (A.tmps.mapIdx (fun k x => if lo ≤ k ∧ k < lo + n then V (k - lo) else x)).size := by simp; omega
  simp only [Array.getD, hl, dif_pos, Array.getInternal_eq_getElem, Array.getElem_mapIdx]
  rw [if_pos (by omega), Nat.add_sub_cancel_left]

theorem pV_out {A : Act} {lo n : Nat} {V : Nat → Value} (d : Nat) (hd : d < lo ∨ lo + n ≤ d) : (pV A lo n V).eval (.tmp d) = A.eval (.tmp d) := by
  show (pV A lo n V).tmps.getD d undef = A.tmps.getD d undef
  unfold pV
  by_cases hl : d < A.tmps.size
  · have hl' : d < (A.tmps.mapIdx (fun k x => if lo ≤ k ∧ k < lo + n then V (k - lo) else x)).size := by simpa using hl
    simp only [Array.getD, hl, hl', dif_pos, Array.getInternal_eq_getElem, Array.getElem_mapIdx]
    rw [if_neg (by omega)]
  · have hl' : ¬ d < (A.tmps.mapIdx (fun k x => if lo ≤ k ∧ k < lo + n then V (k - lo) else x)).size := by simpa using hl
    simp only [Array.getD, hl, hl', dif_neg, not_false_eq_true]

theorem pV_self (A : Act) (lo n : Nat) : pV A lo n (fun i => A.eval (.tmp (lo + i))) = A := by
  cases A with
  | mk t ds =>
    unfold pV
    simp only [Act.mk.injEq, and_true]
    apply Array.ext
    · simp
    · intro k h1 h2
      simp only [Array.getElem_mapIdx]
      split
      · rename_i h
        show t.getD (lo + (k - lo)) undef = t[k]
        rw [show lo + (k - lo) = k by omega]
        simp [Array.getD, h2]
      · rfl

/-- The places as so many puts. -/
def putsV (A : Act) (lo : Nat) (V : Nat → Value) : Nat → Act
  | 0 => A
  | n + 1 => (putsV A lo V n).put (some (lo + n)) (V n)

theorem putsV_eq (A : Act) (lo : Nat) (V : Nat → Value) : ∀ n, putsV A lo V n = pV A lo n V
  | 0 => by
    cases A with
    | mk t ds =>
      unfold putsV pV
      simp only [Act.mk.injEq, and_true]
      apply Array.ext_getElem?
      intro k
      rw [Array.getElem?_mapIdx]
      have : (fun x : Value => if lo ≤ k ∧ k < lo + 0 then V (k - lo) else x) = id := by
        funext x
        rw [if_neg (by omega)]
        rfl
      rw [this, Option.map_id]
      rfl
  | n + 1 => by
    rw [putsV, putsV_eq A lo V n]
    unfold pV Act.put
    simp only [Act.mk.injEq, and_true]
    apply Array.ext_getElem?
    intro k
    rw [Array.getElem?_setIfInBounds, Array.getElem?_mapIdx, Array.getElem?_mapIdx, Array.size_mapIdx]
    by_cases hk : lo + n = k
    · subst hk
      rw [if_pos rfl]
      by_cases hs : lo + n < A.tmps.size
      · rw [if_pos hs, Array.getElem?_eq_getElem hs]
        simp
      · rw [if_neg hs, Array.getElem?_eq_none (by omega)]
        rfl
    · rw [if_neg hk]
      congr 1
      funext x
      by_cases hr : lo ≤ k ∧ k < lo + n
      · rw [if_pos hr, if_pos (by omega)]
      · rw [if_neg hr, if_neg (by omega)]

theorem step_value {P : Program} {ops : Array Oper} {o : Oper} {a : Act} {w W' : World} {K : Act → World → Prop} {Q : Exit → Act → World → Prop} {E : Prop} {v : Value} {d : Nat} (hg : o.guard = none) (hd : o.dst = some d)
    (hrun : ∀ ρ, ρ = a.eval → (execOp ρ o).run P w = .ok (.value v) W') (h : K (a.put (some d) v) W') : if Region.wanted o (yielded ops a.tmps) = true then Oper.wp P o a w K Q else E := by
  have hw : Region.wanted o (yielded ops a.tmps) = true := by simp [Region.wanted, hg]
  rw [if_pos hw]
  unfold Oper.wp
  rw [hrun _ rfl, Oper.upon_value, hd]
  exact h

theorem step_skip {P : Program} {ops : Array Oper} {o : Oper} {a : Act} {w W' : World} {K : Act → World → Prop} {Q : Exit → Act → World → Prop} {E : Prop} {n : Next} (hg : o.guard = none) (hd : o.dst = none)
    (hn : n = .skip ∨ ∃ v, n = .value v) (hrun : ∀ ρ, ρ = a.eval → (execOp ρ o).run P w = .ok n W') (h : K a W') : if Region.wanted o (yielded ops a.tmps) = true then Oper.wp P o a w K Q else E := by
  have hw : Region.wanted o (yielded ops a.tmps) = true := by simp [Region.wanted, hg]
  rw [if_pos hw]
  unfold Oper.wp
  rw [hrun _ rfl]
  rcases hn with rfl | ⟨v, rfl⟩
  · rw [Oper.upon_skip, hd]
    exact h
  · rw [Oper.upon_value, hd]
    exact h

theorem named {P : Program} {c : Code} {Q : Exit → Act → World → Prop} {a : Act} {w : World} (h : ∀ A, A = a → c.wp P Q A w) : c.wp P Q a w := h a rfl

end Go.Proofs.YtabeihkfjlmepaaGreatDoor

/-
  A call of a Go function as one step of a region that draws its order, by its contract. No function of the program is named.
-/
namespace Go.Proofs.YtabeihkfjlmepaaGreatDoor
open Go.RowKit

theorem step_go_call {P : Program} {ops : Array Oper} {o : Oper} {a : Act} {w : World} {K : Act → World → Prop} {Q : Exit → Act → World → Prop} {E : Prop}
    (hg : o.guard = none) (f : FuncId) (s : Operand) (t : TypeId) (hop : o.op = .call { callee := .value (.func f), args := #[s], argTypes := #[t] })
    (v : Value) (hv : a.eval s = v) (hf : Sem.run P (callFunc f #[v]) w = .ok (.enter f #[v]) w) {R : Ending → World → Prop} (c : Calls P f #[v] w R) (hr : ∀ e w', R e w' → ∃ u, e = .returned u) (h : ∀ u w', R (.returned u) w' → K (a.put o.dst u) w') :
    if Region.wanted o (yielded ops a.tmps) = true then Oper.wp P o a w K Q else E := by
  have hw : Region.wanted o (yielded ops a.tmps) = true := by simp [Region.wanted, hg]
  rw [if_pos hw]
  unfold Oper.wp
  have e1 : (execOp a.eval o).run P w = .ok (.enter f #[v]) w := by
    have e0 : a.eval (.func f) = .func (.func f) #[] #[] := rfl
    simp [execOp, hop, resolve, invoke, e0, hv, Deferred.ofValue, hf]
  rw [e1, Oper.upon_enter]
  refine c.mono ?_
  intro e w' he
  obtain ⟨u, rfl⟩ := hr e w' he
  exact h u w' he

theorem step_go_call2 {P : Program} {ops : Array Oper} {o : Oper} {a : Act} {w : World} {K : Act → World → Prop} {Q : Exit → Act → World → Prop} {E : Prop}
    (hg : o.guard = none) (f : FuncId) (s s' : Operand) (t t' : TypeId) (hop : o.op = .call { callee := .value (.func f), args := #[s, s'], argTypes := #[t, t'] })
    (v v' : Value) (hv : a.eval s = v) (hv' : a.eval s' = v') (hf : Sem.run P (callFunc f #[v, v']) w = .ok (.enter f #[v, v']) w) {R : Ending → World → Prop} (c : Calls P f #[v, v'] w R) (hr : ∀ e w', R e w' → ∃ u, e = .returned u) (h : ∀ u w', R (.returned u) w' → K (a.put o.dst u) w') :
    if Region.wanted o (yielded ops a.tmps) = true then Oper.wp P o a w K Q else E := by
  have hw : Region.wanted o (yielded ops a.tmps) = true := by simp [Region.wanted, hg]
  rw [if_pos hw]
  unfold Oper.wp
  have e1 : (execOp a.eval o).run P w = .ok (.enter f #[v, v']) w := by
    have e0 : a.eval (.func f) = .func (.func f) #[] #[] := rfl
    simp [execOp, hop, resolve, invoke, e0, hv, hv', Deferred.ofValue, hf]
  rw [e1, Oper.upon_enter]
  refine c.mono ?_
  intro e w' he
  obtain ⟨u, rfl⟩ := hr e w' he
  exact h u w' he

end Go.Proofs.YtabeihkfjlmepaaGreatDoor
