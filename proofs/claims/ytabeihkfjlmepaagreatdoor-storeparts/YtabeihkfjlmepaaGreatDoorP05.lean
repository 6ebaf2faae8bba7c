/-
  note.write: a word and numbers, a blank ahead of each.
-/
import Derived.Lib.Split
import Derived.Deep.RegionHeld3
import Derived.Test.YtabeihkfjlmepaaGreatDoorP01
import Derived.Test.YtabeihkfjlmepaaGreatDoorP02
import Derived.Test.YtabeihkfjlmepaaGreatDoorP03
import Derived.Test.YtabeihkfjlmepaaGreatDoorP04
namespace Go.Proofs.YtabeihkfjlmepaaGreatDoor
open Go.RowKit

theorem cells_of {l : List UInt8} {a : Array UInt8} (h : l = a.toList) : (⟨l.toArray⟩ : ByteArray) = ⟨a⟩ := by subst h; simp

set_option maxHeartbeats 1000000 in
set_option maxRecDepth 100000 in
theorem write_any (wd : ByteArray) (ns : List Int) (a : Option Addr) (cap n : Nat) (w : World) (hg : Gl w) (S : Sl w a cap (ns.map (Value.int .i64))) (hn : n = ns.length) (hb : ∀ m ∈ ns, -9223372036854775808 ≤ m ∧ m ≤ 9223372036854775807) (few : n ≤ 1000) (hw : wd.size ≤ 1000) :
    Calls Tryz.prog 48 #[.string wd, .slice a n cap] w fun e w' => e = .returned (.string ⟨(wd.data.toList ++ numsT ns).toArray⟩) ∧ Below w.heap.size w w' := by
  replace hn := hide hn
  have I0 := Lib.IsBuilderF.of (Lib.fresh_isBuilder 128 5 w)
  have bel : Below w.heap.size w (w.alloc (.cells #[.pointer none, .slice none 0 0] 128)) := (Below.refl _ _).alloc (Nat.le_refl _) _
  go_enter Tryz.func48, Tryz.ntmps48
  go_wp2_with fail
  generalize w.alloc _ = w1 at *
  go_at_call 81
  refine (writeString w.heap.size w.heap.size [] wd _ I0 (by simp; omega) bel.size).mono ?_
  rintro e w2 ⟨rfl, I1, b2, -⟩
  have bel2 : Below w.heap.size w w2 := bel.trans b2
  replace I1 : Lib.IsBuilderF 128 5 w.heap.size w.heap.size (Lib.byteCells (wd.data.toList ++ numsT (ns.take 0))) w2 := .inr (by simpa [numsT, Lib.strCells_eq] using I1)
  clear I0 b2 bel
  go_wp2_with fail
  go_loopw [12] (fun i wr => ∃ (k : Nat), k ≤ n ∧ i = .int .i64 k ∧ Lib.IsBuilderF 128 5 w.heap.size w.heap.size (Lib.byteCells (wd.data.toList ++ numsT (ns.take k))) wr ∧ Below w.heap.size w wr) (fun i _ => n - (intOf i).toNat)
  case atStart => exact ⟨0, Nat.zero_le _, rfl, I1, bel2⟩
  case round =>
    clear I1 bel2
    obtain ⟨k, hk, rfl, I1, bel⟩ := hrel
    by_cases hlt : k < n
    · have hkl : k < ns.length := by rw [← hn.out]; exact hlt
      obtain ⟨m, hm⟩ : ∃ m, ns[k]? = some m := ⟨_, List.getElem?_eq_getElem hkl⟩
      have hm2 := hb m (List.mem_of_getElem? hm)
      have S1 := S.keep bel (Nat.le_refl _)
      obtain ⟨b1, o1, rfl, -, hc⟩ := S1.row.at (by intro h; have := congrArg List.length h; simp at this; subst this; simp at hkl)
      have d0 : wr.cell? ⟨b1, o1 + k, none⟩ = some (.int .i64 m) := hc k _ (by rw [List.getElem?_map, hm]; rfl)
      have g1 := hg.call bel
      have hle := numsT_le (ns.take k) (fun q hq => hb q (List.mem_of_mem_take hq))
      have hlen : (Lib.byteCells (wd.data.toList ++ numsT (ns.take k))).length ≤ 30000 := by
        rw [Lib.byteCells_length, List.length_append]
        have h1 : (ns.take k).length ≤ 1000 := by rw [List.length_take]; omega
        have h2 : wd.data.toList.length = wd.size := rfl
        omega
      have hit := itoa_le m hm2.1 hm2.2
      have hT : Lib.byteCells (wd.data.toList ++ numsT (ns.take k)) ++ [Value.int .u8 32] ++ Lib.strCells ⟨(Lib.itoa m).toArray⟩ = Lib.byteCells (wd.data.toList ++ numsT (ns.take (k + 1))) := by
        rw [List.take_add_one, hm]
        simp only [Option.toList_some]
        rw [numsT_snoc, Lib.strCells_eq, ← List.append_assoc, Lib.byteCells_append (_ ++ _) (32 :: _)]
        rw [List.append_assoc]
        rfl
      generalize Lib.byteCells (wd.data.toList ++ numsT (ns.take k)) = X at *
      replace hT := hide hT
      replace hm := hide hm
      clear S1 hc hkl hle
      go_wp2_with fail
      go_at_call 82
      refine (writeByte w.heap.size w.heap.size X 32 _ I1 (by omega) bel.size).mono ?_
      rintro e w3 ⟨rfl, I3, b3, -⟩
      have bel3 : Below w.heap.size w w3 := bel.trans b3
      have g3 := hg.call bel3
      go_wp2_with fail
      go_at_call 57
      refine (Tryz.strconv_Itoa m hm2.1 hm2.2 _ g3.tab).mono ?_
      rintro e w4 ⟨rfl, q, os, hw4⟩
      have b4 : Below w3.heap.size w3 w4 := by rw [hw4]; exact Lib.below_grow _ _ (Nat.le_refl _) _ _
      have I4 := isB_call (.inr I3) b4
      have bel4 := belowCall bel3 b4
      clear hw4 I3 b3 bel3 g3
      go_wp2_with fail
      go_at_call 81
      refine (writeString w.heap.size w.heap.size _ ⟨(Lib.itoa m).toArray⟩ _ I4 (by simp [ByteArray.size]; omega) bel4.size).mono ?_
      rintro e w5 ⟨rfl, I5, b5, -⟩
      rw [hT.out] at I5
      have bel5 : Below w.heap.size w w5 := bel4.trans b5
      clear I4 b4 b5 bel4
      go_wp2_with fail
      go_roundw
      case rel => exact ⟨k + 1, by omega, by go_num, .inr I5, bel5⟩
      case measure => simp [intOf]; omega
    · obtain rfl : n = k := by omega
      rw [List.take_of_length_le (by rw [← hn.out]; exact Nat.le_refl _)] at I1
      go_wp2_with fail
      go_at_call 83
      refine (Tryz.Builder_String_any_k w.heap.size w.heap.size _ _ I1 bel.size).mono ?_
      rintro e w5 ⟨rfl, -, b5, -⟩
      go_wp2_with fail
      go_ret
      exact ⟨rfl, bel.trans b5⟩

end Go.Proofs.YtabeihkfjlmepaaGreatDoor

/-
  note.Check, whatever the record.
-/
namespace Go.Proofs.YtabeihkfjlmepaaGreatDoor
open Go.RowKit

set_option maxHeartbeats 1000000 in
set_option maxRecDepth 100000 in
theorem checkBatch_any (s m : Int) (l : List Nt) (a : Option Addr) (cap n : Nat) (w : World) (S : SlW ec w a cap l) (hn : n = l.length) :
    Calls Tryz.prog 64 #[.agg #[.int .i64 1, .int .i64 s, .int .i64 m, .slice a n cap]] w fun e w' => e = .returned (.int .i64 (if s ≠ 0 ∨ m ≠ 0 then 4 else if 10 < l.length then 2 else if l.all ntOk then 0 else 3)) ∧ Below w.heap.size w w' := by
  by_cases hs : s = 0
  · subst hs
    by_cases hm : m = 0
    · subst hm
      rw [if_neg (by simp)]
      by_cases h10 : 10 < n
      · rw [if_pos (by rw [← hn]; exact h10)]
        have h10' : (10 : Int) < n := by omega
        replace hn := hide hn
        go_enter Tryz.func64, Tryz.ntmps64
        go_wp2_with fail
        go_ret
        exact ⟨rfl, (Below.refl _ _).alloc (Nat.le_refl _) _⟩
      · rw [if_neg (by rw [← hn]; exact h10)]
        exact batchLoop l a cap n w S hn (by omega)
    · rw [if_pos (.inr hm)]
      replace hn := hide hn
      have hm' : decide (m = 0) = false := decide_eq_false hm
      go_enter Tryz.func64, Tryz.ntmps64
      go_wp2_with fail
      go_ret
      exact ⟨rfl, (Below.refl _ _).alloc (Nat.le_refl _) _⟩
  · rw [if_pos (.inl hs)]
    replace hn := hide hn
    have hs' : decide (s = 0) = false := decide_eq_false hs
    go_enter Tryz.func64, Tryz.ntmps64
    go_wp2_with fail
    go_ret
    exact ⟨rfl, (Below.refl _ _).alloc (Nat.le_refl _) _⟩

def plainE (k s m : Int) (l : List Nt) : Int := if l ≠ [] ∨ (k = 4 ∧ s ≠ 0) then 4 else if 0 ≤ s ∧ s < 4 ∧ 0 ≤ m ∧ m ≤ 100001 then 0 else 3

set_option maxHeartbeats 1000000 in
set_option maxRecDepth 100000 in
theorem plain_rest (k s m : Int) (a : Option Addr) (cap : Nat) (w : World) (hk : k ≠ 4 ∨ s = 0) :
    Calls Tryz.prog 65 #[.agg #[.int .i64 k, .int .i64 s, .int .i64 m, .slice a 0 cap]] w fun e w' => e = .returned (.int .i64 (if 0 ≤ s ∧ s < 4 ∧ 0 ≤ m ∧ m ≤ 100001 then 0 else 3)) ∧ Below w.heap.size w w' := by
  obtain ⟨E, hE⟩ : ∃ E : Int, E = if 0 ≤ s ∧ s < 4 ∧ 0 ≤ m ∧ m ≤ 100001 then 0 else 3 := ⟨_, rfl⟩
  rw [← hE]
  have c1 := fun W => nIsSeries_any s W
  by_cases h4 : k = 4
  · obtain rfl : s = 0 := hk.resolve_left (fun h => h h4)
    subst h4
    rw [decide_eq_true (by omega : (0 : Int) ≤ 0 ∧ (0 : Int) < 4)] at c1
    clear hk
    by_cases m0 : m < 0
    · obtain rfl : E = 3 := by rw [hE, if_neg (by omega)]
      clear hE
      have d0 : decide (m < 0) = true := decide_eq_true m0
      go_enter Tryz.func65, Tryz.ntmps65
      go_wp2_with fail
      go_at_call 96
      refine (c1 _).mono ?_
      rintro e w2 ⟨rfl, rfl⟩
      go_wp2_with fail
      go_ret
      exact ⟨rfl, (Below.refl _ _).alloc (Nat.le_refl _) _⟩
    · have d0 : decide (m < 0) = false := decide_eq_false m0
      by_cases m1 : 100001 < m
      · obtain rfl : E = 3 := by rw [hE, if_neg (by omega)]
        clear hE
        have d1 : decide ((100001 : Int) < m) = true := decide_eq_true m1
        go_enter Tryz.func65, Tryz.ntmps65
        go_wp2_with fail
        go_at_call 96
        refine (c1 _).mono ?_
        rintro e w2 ⟨rfl, rfl⟩
        go_wp2_with fail
        go_ret
        exact ⟨rfl, (Below.refl _ _).alloc (Nat.le_refl _) _⟩
      · obtain rfl : E = 0 := by rw [hE, if_pos (by omega)]
        clear hE
        have d1 : decide ((100001 : Int) < m) = false := decide_eq_false m1
        go_enter Tryz.func65, Tryz.ntmps65
        go_wp2_with fail
        go_at_call 96
        refine (c1 _).mono ?_
        rintro e w2 ⟨rfl, rfl⟩
        go_wp2_with fail
        go_ret
        exact ⟨rfl, (Below.refl _ _).alloc (Nat.le_refl _) _⟩
  · have d4 : decide (k = 4) = false := decide_eq_false h4
    clear hk
    by_cases hs : 0 ≤ s ∧ s < 4
    · rw [decide_eq_true hs] at c1
      by_cases m0 : m < 0
      · obtain rfl : E = 3 := by rw [hE, if_neg (by omega)]
        clear hE
        have d0 : decide (m < 0) = true := decide_eq_true m0
        go_enter Tryz.func65, Tryz.ntmps65
        go_wp2_with fail
        go_at_call 96
        refine (c1 _).mono ?_
        rintro e w2 ⟨rfl, rfl⟩
        go_wp2_with fail
        go_ret
        exact ⟨rfl, (Below.refl _ _).alloc (Nat.le_refl _) _⟩
      · have d0 : decide (m < 0) = false := decide_eq_false m0
        by_cases m1 : 100001 < m
        · obtain rfl : E = 3 := by rw [hE, if_neg (by omega)]
          clear hE
          have d1 : decide ((100001 : Int) < m) = true := decide_eq_true m1
          go_enter Tryz.func65, Tryz.ntmps65
          go_wp2_with fail
          go_at_call 96
          refine (c1 _).mono ?_
          rintro e w2 ⟨rfl, rfl⟩
          go_wp2_with fail
          go_ret
          exact ⟨rfl, (Below.refl _ _).alloc (Nat.le_refl _) _⟩
        · obtain rfl : E = 0 := by rw [hE, if_pos (by omega)]
          clear hE
          have d1 : decide ((100001 : Int) < m) = false := decide_eq_false m1
          go_enter Tryz.func65, Tryz.ntmps65
          go_wp2_with fail
          go_at_call 96
          refine (c1 _).mono ?_
          rintro e w2 ⟨rfl, rfl⟩
          go_wp2_with fail
          go_ret
          exact ⟨rfl, (Below.refl _ _).alloc (Nat.le_refl _) _⟩
    · rw [decide_eq_false hs] at c1
      obtain rfl : E = 3 := by rw [hE, if_neg (by omega)]
      clear hE
      go_enter Tryz.func65, Tryz.ntmps65
      go_wp2_with fail
      go_at_call 96
      refine (c1 _).mono ?_
      rintro e w2 ⟨rfl, rfl⟩
      go_wp2_with fail
      go_ret
      exact ⟨rfl, (Below.refl _ _).alloc (Nat.le_refl _) _⟩

set_option maxHeartbeats 1000000 in
set_option maxRecDepth 100000 in
theorem checkPlain_any (k s m : Int) (l : List Nt) (a : Option Addr) (cap n : Nat) (w : World) (hn : n = l.length) :
    Calls Tryz.prog 65 #[.agg #[.int .i64 k, .int .i64 s, .int .i64 m, .slice a n cap]] w fun e w' => e = .returned (.int .i64 (plainE k s m l)) ∧ Below w.heap.size w w' := by
  unfold plainE
  by_cases h0 : n = 0
  · subst h0
    obtain rfl := List.length_eq_zero_iff.1 hn.symm
    by_cases hk : k = 4 ∧ s ≠ 0
    · rw [if_pos (.inr hk)]
      obtain ⟨rfl, hs⟩ := hk
      have d1 : decide (s = 0) = false := decide_eq_false hs
      clear hn
      go_enter Tryz.func65, Tryz.ntmps65
      go_wp2_with fail
      go_ret
      exact ⟨rfl, (Below.refl _ _).alloc (Nat.le_refl _) _⟩
    · rw [if_neg (by rintro (h | h); exact h rfl; exact hk h)]
      exact plain_rest k s m a cap w (by by_cases h4 : k = 4; exact .inr (Decidable.of_not_not (fun h => hk ⟨h4, h⟩)); exact .inl h4)
  · rw [if_pos (.inl (by intro h; subst h; exact h0 hn))]
    have hp : (0 : Int) < n := by omega
    have hd : decide (0 < n) = true := decide_eq_true (by omega)
    replace hn := hide hn
    go_enter Tryz.func65, Tryz.ntmps65
    go_wp2_with fail
    go_ret
    exact ⟨rfl, (Below.refl _ _).alloc (Nat.le_refl _) _⟩

set_option maxHeartbeats 1000000 in
set_option maxRecDepth 100000 in
theorem check_is (r : Rc) (a : Option Addr) (cap n : Nat) (w : World) (S : SlW ec w a cap r.e) (hn : n = r.e.length) :
    Calls Tryz.prog 41 #[.agg #[.int .i64 r.k, .int .i64 r.s, .int .i64 r.n, .slice a n cap]] w fun e w' => e = .returned (.int .i64 (recE r)) ∧ Below w.heap.size w w' := by
  obtain ⟨k, s, m, l⟩ := r
  simp only at *
  have cp := fun W => checkPlain_any k s m l a cap n W hn
  have S1 := S.alloc (.cells #[.int .i64 k, .int .i64 s, .int .i64 m, .slice a n cap] 27)
  have bel : Below w.heap.size w (w.alloc (.cells #[.int .i64 k, .int .i64 s, .int .i64 m, .slice a n cap] 27)) := (Below.refl _ _).alloc (Nat.le_refl _) _
  by_cases h1 : k = 1
  · subst h1
    have c := fun W h => checkBatch_any s m l a cap n W h hn
    rw [show recE ⟨1, s, m, l⟩ = if s ≠ 0 ∨ m ≠ 0 then 4 else if 10 < l.length then 2 else if l.all ntOk then 0 else 3 from rfl]
    generalize (if s ≠ 0 ∨ m ≠ 0 then (4 : Int) else if 10 < l.length then 2 else if l.all ntOk then 0 else 3) = E at *
    replace hn := hide hn
    go_enter Tryz.func41, Tryz.ntmps41
    go_wp2_with fail
    go_at_call 64
    refine (c _ S1).mono ?_
    rintro e w2 ⟨rfl, b2⟩
    go_wp2_with fail
    go_ret
    exact ⟨rfl, belowCall bel b2⟩
  · have d1 : decide (k = 1) = false := decide_eq_false h1
    by_cases h2 : k = 2 ∨ k = 3 ∨ k = 4
    · rw [show recE ⟨k, s, m, l⟩ = plainE k s m l by unfold recE plainE; rw [if_neg h1, if_pos h2]]
      generalize plainE k s m l = E at *
      replace hn := hide hn
      rcases h2 with rfl | rfl | rfl
      · go_enter Tryz.func41, Tryz.ntmps41
        go_wp2_with fail
        go_at_call 65
        refine (cp _).mono ?_
        rintro e w2 ⟨rfl, b2⟩
        go_wp2_with fail
        go_ret
        exact ⟨rfl, belowCall bel b2⟩
      · go_enter Tryz.func41, Tryz.ntmps41
        go_wp2_with fail
        go_at_call 65
        refine (cp _).mono ?_
        rintro e w2 ⟨rfl, b2⟩
        go_wp2_with fail
        go_ret
        exact ⟨rfl, belowCall bel b2⟩
      · go_enter Tryz.func41, Tryz.ntmps41
        go_wp2_with fail
        go_at_call 65
        refine (cp _).mono ?_
        rintro e w2 ⟨rfl, b2⟩
        go_wp2_with fail
        go_ret
        exact ⟨rfl, belowCall bel b2⟩
    · rw [show recE ⟨k, s, m, l⟩ = 4 by unfold recE; rw [if_neg h1, if_neg h2]]
      have d2 : ¬ k = 2 := fun h => h2 (.inl h)
      have d3 : ¬ k = 3 := fun h => h2 (.inr (.inl h))
      have d4 : ¬ k = 4 := fun h => h2 (.inr (.inr h))
      replace hn := hide hn
      clear h2 d1
      go_enter Tryz.func41, Tryz.ntmps41
      go_wp2_with fail
      go_ret
      exact ⟨rfl, bel⟩

end Go.Proofs.YtabeihkfjlmepaaGreatDoor

/-
  note.Print: the text of a record, or what is wrong with it.
-/
namespace Go.Proofs.YtabeihkfjlmepaaGreatDoor
open Go.RowKit

theorem recE_few {r : Rc} (h : recE r = 0) (h1 : r.k = 1) : r.s = 0 ∧ r.n = 0 ∧ r.e.length ≤ 10 ∧ r.e.all ntOk = true := by
  unfold recE at h
  rw [if_pos h1] at h
  split at h
  · cases h
  · rename_i h2
    split at h
    · cases h
    · split at h
      · rename_i h3 h4
        exact ⟨Decidable.of_not_not (fun e => h2 (.inl e)), Decidable.of_not_not (fun e => h2 (.inr e)), by omega, h4⟩
      · cases h

theorem recE_plain {r : Rc} (h : recE r = 0) (h1 : r.k ≠ 1) : (r.k = 2 ∨ r.k = 3 ∨ r.k = 4) ∧ r.e = [] ∧ (r.k = 4 → r.s = 0) ∧ 0 ≤ r.s ∧ r.s < 4 ∧ 0 ≤ r.n ∧ r.n ≤ 100001 := by
  unfold recE at h
  rw [if_neg h1] at h
  split at h
  · rename_i h2
    split at h
    · cases h
    · rename_i h3
      split at h
      · rename_i h4
        exact ⟨h2, Decidable.of_not_not (fun e => h3 (.inl e)), fun e => Decidable.of_not_not (fun e' => h3 (.inr ⟨e, e'⟩)), h4⟩
      · cases h
  · cases h

theorem nums_in {l : List Nt} (h : l.all ntOk = true) : ∀ m ∈ ntNums l, -9223372036854775808 ≤ m ∧ m ≤ 9223372036854775807 := by
  intro m hm
  unfold ntNums at hm
  obtain ⟨x, hx, hm⟩ := List.mem_flatMap.1 hm
  have := of_decide_eq_true (List.all_eq_true.1 h x hx)
  simp only [List.mem_cons, List.not_mem_nil, or_false] at hm
  rcases hm with rfl | rfl | rfl <;> omega

theorem ints_own {w : World} {base n : Nat} {a : Option Addr} {G : Nat} {cs : List Value} {T : TypeId} (o : w.ownsRow base T 1 (.slice a n G) n cs) : Sl w a G cs := by
  obtain ⟨h1, ⟨h2, h3⟩ | ⟨g, cap, cur, e1, hb, hh, hn, hm, hs, ht⟩⟩ := o
  · simp only [Value.slice.injEq] at h2
    obtain ⟨rfl, rfl, rfl⟩ := h2
    obtain rfl := List.length_eq_zero_iff.1 (by omega : cs.length = 0)
    exact ⟨.inl rfl, by simp, by decide, fun _ => rfl⟩
  · simp only [Value.slice.injEq, true_and] at e1
    obtain ⟨rfl, rfl⟩ := e1
    refine ⟨.inr ⟨g, 0, rfl, lt_of_block hh, fun i v hv => ?_⟩, by omega, hm, fun h => by cases h⟩
    rw [← ht, List.getElem?_take] at hv
    split at hv
    · simp only [World.cell?, hh, Nat.zero_add]
      simpa using hv
    · cases hv

theorem ints_laid (w : World) (l : List Int) (T : TypeId) : Sl (w.alloc (.cells (l.map (Value.int .i64)).toArray T)) (some ⟨w.heap.size, 0, none⟩) l.length (l.map (Value.int .i64)) ∨ 9223372036854775807 < l.length := by
  by_cases h : l.length ≤ 9223372036854775807
  · refine .inl ⟨.inr ⟨_, 0, rfl, by simp, fun i v hv => ?_⟩, by simp, h, fun h => by cases h⟩
    have B := Blk.laid w (l.map (Value.int .i64)) T _ rfl
    rw [Nat.zero_add]
    exact (B.cell i).trans hv
  · exact .inr (by omega)

theorem write_nums (wd : ByteArray) (ns : List Int) (W : World) (T : TypeId) (hg : Gl W) (hb : ∀ m ∈ ns, -9223372036854775808 ≤ m ∧ m ≤ 9223372036854775807) (few : ns.length ≤ 1000) (hw : wd.size ≤ 1000) :
    Calls Tryz.prog 48 #[.string wd, .slice (some ⟨W.heap.size, 0, none⟩) ns.length ns.length] (W.alloc (.cells (ns.map (Value.int .i64)).toArray T)) fun e w' => e = .returned (.string ⟨(wd.data.toList ++ numsT ns).toArray⟩) ∧ Below W.heap.size W w' := by
  refine (write_any wd ns _ _ _ _ (hg.alloc _) ((ints_laid W ns T).resolve_right (by omega)) rfl hb few hw).mono ?_
  rintro e w' ⟨rfl, b⟩
  exact ⟨rfl, belowCall (newB (Below.refl _ _) _) b⟩

set_option maxHeartbeats 2000000 in
set_option maxRecDepth 100000 in
theorem print_is (r : Rc) (a : Option Addr) (cap n : Nat) (w : World) (hg : Gl w) (S : SlW ec w a cap r.e) (hn : n = r.e.length) :
    Calls Tryz.prog 25 #[.agg #[.int .i64 r.k, .int .i64 r.s, .int .i64 r.n, .slice a n cap]] w fun e w' => e = .returned (.tuple #[.string ⟨(recT r).toArray⟩, .int .i64 (recE r)]) ∧ Below w.heap.size w w' := by
  have c1 := fun W h => check_is r a cap n W h hn
  have hE : recE r = recE r := rfl
  have T0 : recE r ≠ 0 → recT r = [] := fun h => if_neg h
  have S1 := S.alloc (.cells #[.int .i64 r.k, .int .i64 r.s, .int .i64 r.n, .slice a n cap] 27)
  have B0 := Blk.laid w [.int .i64 r.k, .int .i64 r.s, .int .i64 r.n, .slice a n cap] 27 _ rfl
  have bel : Below w.heap.size w (w.alloc (.cells #[.int .i64 r.k, .int .i64 r.s, .int .i64 r.n, .slice a n cap] 27)) := (Below.refl _ _).alloc (Nat.le_refl _) _
  have g1 := hg.alloc (.cells #[.int .i64 r.k, .int .i64 r.s, .int .i64 r.n, .slice a n cap] 27)
  by_cases h0 : recE r = 0
  · rw [h0] at c1
    rw [h0]
    by_cases h1 : r.k = 1
    · obtain ⟨e1, e2, e3, e4⟩ := recE_few h0 h1
      have eT : recT r = wBatch ++ numsT (ntNums r.e) := by unfold recT; rw [if_pos h0, if_pos h1]
      rw [eT]
      have cn := fun W h => numbers_any r.e a cap n W h hn (by omega)
      have cw := fun a' G W h1 h2 => write_any ⟨#[98, 97, 116, 99, 104]⟩ (ntNums r.e) a' G (n * 3) W h1 h2 (by rw [ntNums_length, hn]) (nums_in e4) (by omega) (by decide)
      obtain ⟨k, s, m, l⟩ := r
      simp only at *
      subst h1
      subst e1
      subst e2
      clear h0 eT e3 e4 T0 hE
      generalize ntNums l = NL at *
      obtain ⟨n3, hn3⟩ : ∃ n3, n3 = n * 3 := ⟨_, rfl⟩
      rw [← hn3] at cn cw
      clear hn3
      replace hn := hide hn
      go_enter Tryz.func25, Tryz.ntmps25
      go_wp2_with fail
      generalize w.alloc _ = w1 at *
      go_at_call 41
      refine (c1 _ S1).mono ?_
      rintro e w2 ⟨rfl, b2⟩
      have B2 := B0.keep b2 B0.lt
      have q0 := B2.cell 0
      have q3 := B2.cell 3
      have l2 := B2.lt
      have g2 := g1.call b2
      have S2 := S1.call b2
      have bel2 := belowCall bel b2
      go_wp2_with fail
      go_at_call 49
      refine (cn _ S2).mono ?_
      rintro e w3 ⟨a3, G3, rfl, o3, b3⟩
      have s3 := ints_own o3
      have g3 := g2.call b3
      have bel3 := belowCall bel2 b3
      go_wp2_with fail
      go_at_call 48
      refine (cw _ _ _ g3 s3).mono ?_
      rintro e w4 ⟨rfl, b4⟩
      go_wp2_with fail
      go_ret2
      exact ⟨rfl, belowCall bel3 b4⟩
    · obtain ⟨hk, e1, e2, e3, e4, e5, e6⟩ := recE_plain h0 h1
      have eT : recT r = (if r.k = 2 then wSeal ++ numsT [r.s, r.n] else if r.k = 3 then wMerge ++ numsT [r.s, r.n] else wDrop ++ numsT [r.n]) := by unfold recT; rw [if_pos h0, if_neg h1]
      rw [eT]
      clear eT T0 hE h0
      obtain ⟨k, s, m, l⟩ := r
      simp only at *
      subst e1
      replace hn := hide hn
      rcases hk with rfl | rfl | rfl
      · clear e2
        rw [if_pos rfl]
        have cw : ∀ W1 : World, Gl W1 → Calls Tryz.prog 48 #[.string ⟨#[115, 101, 97, 108]⟩, .slice (some ⟨W1.heap.size, 0, none⟩) 2 2] (W1.alloc (.cells #[.int .i64 s, .int .i64 m] 3)) fun e w' => e = .returned (.string ⟨(([115, 101, 97, 108] : List UInt8) ++ numsT [s, m]).toArray⟩) ∧ Below W1.heap.size W1 w' := fun W1 h1 => write_nums ⟨#[115, 101, 97, 108]⟩ [s, m] W1 3 h1 (by simp; omega) (by simp) (by decide)
        go_enter Tryz.func25, Tryz.ntmps25
        go_wp2_with fail
        generalize w.alloc _ = w1 at *
        go_at_call 41
        refine (c1 _ S1).mono ?_
        rintro e w2 ⟨rfl, b2⟩
        have B2 := B0.keep b2 B0.lt
        have q0 := B2.cell 0
        have q1 := B2.cell 1
        have q2 := B2.cell 2
        have q3 := B2.cell 3
        have l2 := B2.lt
        have g2 := g1.call b2
        have bel2 := belowCall bel b2
        go_wp2_with fail
        go_at_call 48
        refine (cw w2 g2).mono ?_
        rintro e w3 ⟨rfl, b3⟩
        go_wp2_with fail
        go_ret2
        exact ⟨rfl, belowCall bel2 b3⟩
      · clear e2
        rw [if_neg (by decide), if_pos rfl]
        have cw : ∀ W1 : World, Gl W1 → Calls Tryz.prog 48 #[.string ⟨#[109, 101, 114, 103, 101]⟩, .slice (some ⟨W1.heap.size, 0, none⟩) 2 2] (W1.alloc (.cells #[.int .i64 s, .int .i64 m] 3)) fun e w' => e = .returned (.string ⟨(([109, 101, 114, 103, 101] : List UInt8) ++ numsT [s, m]).toArray⟩) ∧ Below W1.heap.size W1 w' := fun W1 h1 => write_nums ⟨#[109, 101, 114, 103, 101]⟩ [s, m] W1 3 h1 (by simp; omega) (by simp) (by decide)
        go_enter Tryz.func25, Tryz.ntmps25
        go_wp2_with fail
        generalize w.alloc _ = w1 at *
        go_at_call 41
        refine (c1 _ S1).mono ?_
        rintro e w2 ⟨rfl, b2⟩
        have B2 := B0.keep b2 B0.lt
        have q0 := B2.cell 0
        have q1 := B2.cell 1
        have q2 := B2.cell 2
        have q3 := B2.cell 3
        have l2 := B2.lt
        have g2 := g1.call b2
        have bel2 := belowCall bel b2
        go_wp2_with fail
        go_at_call 48
        refine (cw w2 g2).mono ?_
        rintro e w3 ⟨rfl, b3⟩
        go_wp2_with fail
        go_ret2
        exact ⟨rfl, belowCall bel2 b3⟩
      · obtain rfl : s = 0 := e2 rfl
        clear e2
        rw [if_neg (by decide), if_neg (by decide)]
        have cw : ∀ W1 : World, Gl W1 → Calls Tryz.prog 48 #[.string ⟨#[100, 114, 111, 112]⟩, .slice (some ⟨W1.heap.size, 0, none⟩) 1 1] (W1.alloc (.cells #[.int .i64 m] 3)) fun e w' => e = .returned (.string ⟨(([100, 114, 111, 112] : List UInt8) ++ numsT [m]).toArray⟩) ∧ Below W1.heap.size W1 w' := fun W1 h1 => write_nums ⟨#[100, 114, 111, 112]⟩ [m] W1 3 h1 (by simp; omega) (by simp) (by decide)
        go_enter Tryz.func25, Tryz.ntmps25
        go_wp2_with fail
        generalize w.alloc _ = w1 at *
        go_at_call 41
        refine (c1 _ S1).mono ?_
        rintro e w2 ⟨rfl, b2⟩
        have B2 := B0.keep b2 B0.lt
        have q0 := B2.cell 0
        have q1 := B2.cell 1
        have q2 := B2.cell 2
        have q3 := B2.cell 3
        have l2 := B2.lt
        have g2 := g1.call b2
        have bel2 := belowCall bel b2
        go_wp2_with fail
        go_at_call 48
        refine (cw w2 g2).mono ?_
        rintro e w3 ⟨rfl, b3⟩
        go_wp2_with fail
        go_ret2
        exact ⟨rfl, belowCall bel2 b3⟩
  · rw [T0 h0]
    have h0' : ¬ recE r = 0 := h0
    obtain ⟨E, hE'⟩ : ∃ E, E = recE r := ⟨_, rfl⟩
    rw [← hE'] at c1 h0' ⊢
    obtain ⟨k, s, m, l⟩ := r
    simp only at *
    have hd : decide (E = 0) = false := decide_eq_false h0'
    clear hE T0 h0 hE'
    replace hn := hide hn
    go_enter Tryz.func25, Tryz.ntmps25
    go_wp2_with fail
    generalize w.alloc _ = w1 at *
    go_at_call 41
    refine (c1 _ S1).mono ?_
    rintro e w2 ⟨rfl, b2⟩
    go_wp2_with fail
    go_ret2
    exact ⟨rfl, belowCall bel b2⟩

end Go.Proofs.YtabeihkfjlmepaaGreatDoor

/-
  note.read: the record that a text tells.
-/
namespace Go.Proofs.YtabeihkfjlmepaaGreatDoor
open Go.RowKit

theorem put4r {w : World} {g : Nat} {c0 c1 c2 c3 : Value} {t : TypeId} (h : Blk w g [c0, c1, c2, c3] t) (u0 u1 u2 u3 : Value) :
    Blk ((((w.setCell ⟨g, 0, none⟩ u0).setCell ⟨g, 1, none⟩ u1).setCell ⟨g, 2, none⟩ u2).setCell ⟨g, 3, none⟩ u3) g [u0, u1, u2, u3] t :=
  (((h.set 0 u0).set 1 u1).set 2 u2).set 3 u3

theorem below4r {B : Nat} {w W : World} (h : Below B w W) {g : Nat} (hg : B ≤ g) (u0 u1 u2 u3 : Value) : Below B w ((((W.setCell ⟨g, 0, none⟩ u0).setCell ⟨g, 1, none⟩ u1).setCell ⟨g, 2, none⟩ u2).setCell ⟨g, 3, none⟩ u3) :=
  (((h.setCell (p := ⟨g, 0, none⟩) hg u0).setCell (p := ⟨g, 1, none⟩) hg u1).setCell (p := ⟨g, 2, none⟩) hg u2).setCell (p := ⟨g, 3, none⟩) hg u3

theorem own4r {w : World} {base n g : Nat} {e t : TypeId} {size : Nat} {v : Value} {xs cs : List Value} (h : w.ownsRow base e size v n xs) (B : Blk w g cs t) (ht : e ≠ t) (u0 u1 u2 u3 : Value) : ((((w.setCell ⟨g, 0, none⟩ u0).setCell ⟨g, 1, none⟩ u1).setCell ⟨g, 2, none⟩ u2).setCell ⟨g, 3, none⟩ u3).ownsRow base e size v n xs := by
  have hne : v.ownBlock ≠ some g := by
    rcases h.2 with ⟨rfl, _⟩ | ⟨g1, c1, cur1, rfl, _, h1, _⟩
    · intro e; cases e
    · intro e
      have e1 : g1 = g := by simpa [Value.ownBlock] using e
      subst e1
      have h2 := h1.symm.trans B
      simp only [Option.some.injEq, Obj.cells.injEq] at h2
      exact ht h2.2.1
  exact ownsRow_setCell_other (ownsRow_setCell_other (ownsRow_setCell_other (ownsRow_setCell_other h (a := ⟨g, 0, none⟩) hne u0) (a := ⟨g, 1, none⟩) hne u1) (a := ⟨g, 2, none⟩) hne u2) (a := ⟨g, 3, none⟩) hne u3

theorem strs_laid (w : World) (l : List ByteArray) (T : TypeId) (h : l.length ≤ 1000000) : Sl (w.alloc (.cells (l.map Value.string).toArray T)) (some ⟨w.heap.size, 0, none⟩) l.length (l.map Value.string) := by
  have B := Blk.laid w (l.map Value.string) T _ rfl
  refine ⟨.inr ⟨_, 0, rfl, B.lt, fun i v hv => ?_⟩, by simp, by omega, fun h => by cases h⟩
  rw [Nat.zero_add]
  exact (B.cell i).trans hv

theorem strs_tail {w : World} {g c : Nat} {x : ByteArray} {r : List ByteArray} (S : Sl w (some ⟨g, 0, none⟩) c ((x :: r).map Value.string)) : Sl w (some ⟨g, 1, none⟩) (c - 1) (r.map Value.string) := by
  obtain ⟨b, off, e, hb, hc⟩ := S.row.at (by simp)
  simp only [Option.some.injEq, Addr.mk.injEq, and_true] at e
  obtain ⟨rfl, rfl⟩ := e
  have h1 := S.le
  have h2 := S.max
  simp only [List.length_map, List.length_cons] at h1
  refine ⟨.inr ⟨g, 1, rfl, hb, fun i v hv => ?_⟩, by rw [List.length_map]; omega, by omega, fun h => by cases h⟩
  have := hc (i + 1) v (by simpa using hv)
  rw [Nat.zero_add] at this
  rw [Nat.add_comm 1 i]
  exact this

set_option maxHeartbeats 4000000 in
set_option maxRecDepth 100000 in
theorem read_any (s : ByteArray) (w : World) (hg : Gl w) (hs : s.size ≤ 60000) :
    Calls Tryz.prog 85 #[.string s] w fun e w' => ((∃ r a' G, textR s = some r ∧ e = .returned (.tuple #[.agg #[.int .i64 r.k, .int .i64 r.s, .int .i64 r.n, .slice a' r.e.length G], .bool true]) ∧ w'.ownsRow w.heap.size 68 3 (.slice a' r.e.length G) r.e.length (r.e.flatMap ec)) ∨ (textR s = none ∧ e = .returned (.tuple #[.agg #[.int .i64 0, .int .i64 0, .int .i64 0, .slice none 0 0], .bool false]))) ∧ Below w.heap.size w w' := by
  have hlen : (wordsB s).length = Lib.countB s blank + 1 := Lib.splitB_all blank (by decide) 0 _ s rfl
  have hsm : ∀ b ∈ wordsB s, b.size ≤ 60000 := fun b hb => Nat.le_trans (split_small blank 0 _ s b hb) hs
  have hcl : Lib.countB s blank ≤ 60000 := Nat.le_trans (Lib.countB_le blank (by decide) s.size s (Nat.le_refl _)) hs
  obtain ⟨m, hmax⟩ := (hg.alloc (.cells #[.int .i64 0, .int .i64 0, .int .i64 0, .slice none 0 0] 27)).max
  have cS := Tryz.strings_Split s blank m (w.alloc (.cells #[.int .i64 0, .int .i64 0, .int .i64 0, .slice none 0 0] 27)) (by omega) hmax (by decide)
  rw [show Lib.splitB blank 0 (Lib.countB s blank) s = wordsB s from rfl, ← hlen] at cS
  have hT : textR s = readR ((wordsB s).map bytes) := rfl
  generalize textR s = TR at *
  generalize wordsB s = WS at *
  cases WS with
  | nil => simp at hlen
  | cons x r =>
    obtain ⟨c, hc⟩ : ∃ c, c = r.length := ⟨_, rfl⟩
    rw [List.length_cons, ← hc] at cS
    rw [List.length_cons] at hlen
    have B0 := Blk.laid w [.int .i64 0, .int .i64 0, .int .i64 0, .slice none 0 0] 27 _ rfl
    have bel : Below w.heap.size w (w.alloc (.cells #[.int .i64 0, .int .i64 0, .int .i64 0, .slice none 0 0] 27)) := (Below.refl _ _).alloc (Nat.le_refl _) _
    have g1 := hg.alloc (.cells #[.int .i64 0, .int .i64 0, .int .i64 0, .slice none 0 0] 27)
    generalize hw1 : w.alloc (.cells #[.int .i64 0, .int .i64 0, .int .i64 0, .slice none 0 0] 27) = w1 at *
    have S1 := strs_laid w1 (x :: r) 9 (by rw [List.length_cons]; omega)
    rw [List.length_cons, ← hc] at S1
    have bel2 := newB bel (.cells ((x :: r).map Value.string).toArray 9)
    have g2 := g1.alloc (.cells ((x :: r).map Value.string).toArray 9)
    have B2 := B0.keep (newB (Below.refl w1.heap.size w1) (.cells ((x :: r).map Value.string).toArray 9)) B0.lt
    have x0 : (w1.alloc (.cells ((x :: r).map Value.string).toArray 9)).cell? ⟨w1.heap.size, 0, none⟩ = some (.string x) := (Blk.laid w1 ((x :: r).map Value.string) 9 _ rfl).cell 0
    have l1 : w1.heap.size < (w1.alloc (.cells ((x :: r).map Value.string).toArray 9)).heap.size := by simp
    generalize hw2 : w1.alloc (.cells ((x :: r).map Value.string).toArray 9) = w2 at *
    have cN := fun a' cap' (h : Sl w2 a' cap' (r.map Value.string)) => readNumbers_any r a' cap' c w2 g2 h hc (by omega) (fun b hb => Nat.le_trans (hsm b (List.mem_cons_of_mem _ hb)) (by decide))
    have hc60 : c ≤ 60000 := by omega
    replace hc := hide hc
    replace hT := hide hT
    clear hlen hsm hcl hmax
    go_enter Tryz.func85, Tryz.ntmps85
    go_wp2_with fail
    go_at_call 105
    refine cS.mono ?_
    rintro e w2' ⟨rfl, hw2'⟩
    clear hw2 hw1
    obtain rfl := hw2'
    have p0 : w2'.cell? ⟨w.heap.size, 0, none⟩ = some (.int .i64 0) := B2.cell 0
    have lR := B2.lt
    by_cases hr : c = 0
    · subst hr
      obtain rfl := List.length_eq_zero_iff.1 hc.out.symm
      go_wp2_with fail
      go_at_call 106
      refine (cN (some ⟨w1.heap.size, 0, none⟩) 0 ⟨.inl rfl, by simp, by decide, fun h => by cases h⟩).mono ?_
      rintro e w3 ⟨(⟨vs, a3, G3, hvs, rfl, o3⟩ | ⟨hvs, rfl⟩), b3⟩
      · have B3 := B2.keep b3 B2.lt
        have r0 := B3.cell 0
        have r1 := B3.cell 1
        have r2 := B3.cell 2
        have r3 := B3.cell 3
        have f0 := B3.free 0
        have f1 := B3.free 1
        have f2 := B3.free 2
        have f3 := B3.free 3
        have lR3 := B3.lt
        have x3 := (b3.cell (p := ⟨w1.heap.size, 0, none⟩) l1).trans x0
        have lx3 : w1.heap.size < w3.heap.size := Nat.lt_of_lt_of_le l1 b3.size
        have bel3 := belowCall bel2 b3
        have hvl : vs.length = 0 := by rw [readNums_length _ _ hvs, List.length_map]; exact hc.out.symm
        have hTR : TR = (if bytes x = wBatch ∧ vs.length % 3 = 0 then some ⟨1, 0, 0, chunkL vs⟩ else if bytes x = wSeal ∧ vs.length = 2 then some ⟨2, vs.getD 0 0, vs.getD 1 0, []⟩ else if bytes x = wMerge ∧ vs.length = 2 then some ⟨3, vs.getD 0 0, vs.getD 1 0, []⟩ else if bytes x = wDrop ∧ vs.length = 1 then some ⟨4, 0, vs.getD 0 0, []⟩ else none) := by
          rw [hT.out]
          simp only [readR, List.map_cons, hvs, Option.bind_some]
        replace hvs := hide hvs
        have SV := ints_own o3
        by_cases kB : bytes x = wBatch
        · by_cases m3 : 0 % 3 = 0
          · rw [if_pos ⟨kB, by omega⟩] at hTR
            have bB : (x.toList == [98, 97, 116, 99, 104]) = true := by rw [toList_bytes, kB]; rfl
            have bS : (x.toList == [115, 101, 97, 108]) = false := by rw [toList_bytes, kB]; rfl
            have bM : (x.toList == [109, 101, 114, 103, 101]) = false := by rw [toList_bytes, kB]; rfl
            have bD : (x.toList == [100, 114, 111, 112]) = false := by rw [toList_bytes, kB]; rfl
            replace hTR := hide hTR
            obtain ⟨mm, hmm⟩ : ∃ mm, 0 = mm * 3 := ⟨0 / 3, by omega⟩
            have cE := fun W (h : Sl W a3 G3 (vs.map (Value.int .i64))) => entries_any vs mm 0 G3 a3 W h hvl.symm hmm (by omega)
            have hcl : (chunkL vs).length = mm := chunk_length mm vs (by omega)
            replace hmm := hide hmm
            clear hvl hT
            go_wp2_with fail
            go_at_call 107
            refine (cE _ SV).mono ?_
            rintro e w4 ⟨v4, rfl, o4, b4⟩
            obtain ⟨a4, G4, rfl, -, -, -⟩ := SlW.ofOwn ec_three (by decide) o4
            have B4 := B3.keep b4 B3.lt
            have s0 := B4.cell 0
            have s1 := B4.cell 1
            have s2 := B4.cell 2
            have s3 := B4.cell 3
            have u0 := B4.free 0
            have u1 := B4.free 1
            have u2 := B4.free 2
            have u3 := B4.free 3
            have lR4 := B4.lt
            have bel4' := belowCall bel3 b4
            go_wp2_with fail
            have B5 := put4r B4 (.int .i64 1) (.int .i64 0) (.int .i64 0) (.slice a4 mm G4)
            have bel5 := below4r bel4' (Nat.le_refl _) (.int .i64 1) (.int .i64 0) (.int .i64 0) (.slice a4 mm G4)
            have o5 := own4r o4 B4 (by decide) (.int .i64 1) (.int .i64 0) (.int .i64 0) (.slice a4 mm G4)
            have i0 := B5.cell 0
            have i1 := B5.cell 1
            have i2 := B5.cell 2
            have i3 := B5.cell 3
            have le3 : w.heap.size ≤ w3.heap.size := bel3.size
            exact bodyPost_ret (v := .tuple #[.agg #[.int .i64 1, .int .i64 0, .int .i64 0, .slice a4 mm G4], .bool true]) (by simp [results, Tryz.results85, go_sem, i0, i1, i2, i3]) rfl ⟨.inl ⟨⟨1, 0, 0, chunkL vs⟩, a4, G4, hTR.out, by rw [hcl], by rw [hcl]; exact owndown o5 le3⟩, bel5⟩
          · rw [if_neg (fun h => m3 (by have := h.2; omega)), if_neg (fun h => by rw [kB] at h; exact absurd h.1 (by decide)), if_neg (fun h => by rw [kB] at h; exact absurd h.1 (by decide)), if_neg (fun h => by rw [kB] at h; exact absurd h.1 (by decide))] at hTR
            exact absurd rfl m3
        · rw [if_neg (fun h => kB h.1)] at hTR
          by_cases kS : bytes x = wSeal
          · by_cases hc2 : 0 = 2
            · rw [if_pos ⟨kS, by omega⟩] at hTR
              cases hc2
            · rw [if_neg (fun h => hc2 (by have := h.2; omega)), if_neg (fun h => by rw [kS] at h; exact absurd h.1 (by decide)), if_neg (fun h => by rw [kS] at h; exact absurd h.1 (by decide))] at hTR
              have bB : (x.toList == [98, 97, 116, 99, 104]) = false := by rw [toList_bytes, kS]; rfl
              have bS : (x.toList == [115, 101, 97, 108]) = true := by rw [toList_bytes, kS]; rfl
              have bM : (x.toList == [109, 101, 114, 103, 101]) = false := by rw [toList_bytes, kS]; rfl
              have bD : (x.toList == [100, 114, 111, 112]) = false := by rw [toList_bytes, kS]; rfl
              replace hTR := hide hTR
              clear hvl hT
              go_wp2_with fail
              have B4 := put4r B3 (.int .i64 0) (.int .i64 0) (.int .i64 0) (.slice none 0 0)
              have bel4 := below4r bel3 (Nat.le_refl _) (.int .i64 0) (.int .i64 0) (.int .i64 0) (.slice none 0 0)
              have i0 := B4.cell 0
              have i1 := B4.cell 1
              have i2 := B4.cell 2
              have i3 := B4.cell 3
              exact bodyPost_ret (v := .tuple #[.agg #[.int .i64 0, .int .i64 0, .int .i64 0, .slice none 0 0], .bool false]) (by simp [results, Tryz.results85, go_sem, i0, i1, i2, i3]) rfl ⟨.inr ⟨hTR.out, rfl⟩, bel4⟩
          · rw [if_neg (fun h => kS h.1)] at hTR
            by_cases kM : bytes x = wMerge
            · by_cases hc2 : 0 = 2
              · rw [if_pos ⟨kM, by omega⟩] at hTR
                cases hc2
              · rw [if_neg (fun h => hc2 (by have := h.2; omega)), if_neg (fun h => by rw [kM] at h; exact absurd h.1 (by decide))] at hTR
                have bB : (x.toList == [98, 97, 116, 99, 104]) = false := by rw [toList_bytes, kM]; rfl
                have bS : (x.toList == [115, 101, 97, 108]) = false := by rw [toList_bytes, kM]; rfl
                have bM : (x.toList == [109, 101, 114, 103, 101]) = true := by rw [toList_bytes, kM]; rfl
                have bD : (x.toList == [100, 114, 111, 112]) = false := by rw [toList_bytes, kM]; rfl
                replace hTR := hide hTR
                clear hvl hT
                go_wp2_with fail
                have B4 := put4r B3 (.int .i64 0) (.int .i64 0) (.int .i64 0) (.slice none 0 0)
                have bel4 := below4r bel3 (Nat.le_refl _) (.int .i64 0) (.int .i64 0) (.int .i64 0) (.slice none 0 0)
                have i0 := B4.cell 0
                have i1 := B4.cell 1
                have i2 := B4.cell 2
                have i3 := B4.cell 3
                exact bodyPost_ret (v := .tuple #[.agg #[.int .i64 0, .int .i64 0, .int .i64 0, .slice none 0 0], .bool false]) (by simp [results, Tryz.results85, go_sem, i0, i1, i2, i3]) rfl ⟨.inr ⟨hTR.out, rfl⟩, bel4⟩
            · rw [if_neg (fun h => kM h.1)] at hTR
              by_cases kD : bytes x = wDrop
              · by_cases hc1 : 0 = 1
                · rw [if_pos ⟨kD, by omega⟩] at hTR
                  cases hc1
                · rw [if_neg (fun h => hc1 (by have := h.2; omega))] at hTR
                  have bB : (x.toList == [98, 97, 116, 99, 104]) = false := by rw [toList_bytes, kD]; rfl
                  have bS : (x.toList == [115, 101, 97, 108]) = false := by rw [toList_bytes, kD]; rfl
                  have bM : (x.toList == [109, 101, 114, 103, 101]) = false := by rw [toList_bytes, kD]; rfl
                  have bD : (x.toList == [100, 114, 111, 112]) = true := by rw [toList_bytes, kD]; rfl
                  replace hTR := hide hTR
                  clear hvl hT
                  go_wp2_with fail
                  have B4 := put4r B3 (.int .i64 0) (.int .i64 0) (.int .i64 0) (.slice none 0 0)
                  have bel4 := below4r bel3 (Nat.le_refl _) (.int .i64 0) (.int .i64 0) (.int .i64 0) (.slice none 0 0)
                  have i0 := B4.cell 0
                  have i1 := B4.cell 1
                  have i2 := B4.cell 2
                  have i3 := B4.cell 3
                  exact bodyPost_ret (v := .tuple #[.agg #[.int .i64 0, .int .i64 0, .int .i64 0, .slice none 0 0], .bool false]) (by simp [results, Tryz.results85, go_sem, i0, i1, i2, i3]) rfl ⟨.inr ⟨hTR.out, rfl⟩, bel4⟩
              · rw [if_neg (fun h => kD h.1)] at hTR
                have bB : (x.toList == [98, 97, 116, 99, 104]) = false := by rw [toList_bytes]; exact beq_eq_false_iff_ne.2 kB
                have bS : (x.toList == [115, 101, 97, 108]) = false := by rw [toList_bytes]; exact beq_eq_false_iff_ne.2 kS
                have bM : (x.toList == [109, 101, 114, 103, 101]) = false := by rw [toList_bytes]; exact beq_eq_false_iff_ne.2 kM
                have bD : (x.toList == [100, 114, 111, 112]) = false := by rw [toList_bytes]; exact beq_eq_false_iff_ne.2 kD
                replace hTR := hide hTR
                clear hvl hT
                go_wp2_with fail
                have B4 := put4r B3 (.int .i64 0) (.int .i64 0) (.int .i64 0) (.slice none 0 0)
                have bel4 := below4r bel3 (Nat.le_refl _) (.int .i64 0) (.int .i64 0) (.int .i64 0) (.slice none 0 0)
                have i0 := B4.cell 0
                have i1 := B4.cell 1
                have i2 := B4.cell 2
                have i3 := B4.cell 3
                exact bodyPost_ret (v := .tuple #[.agg #[.int .i64 0, .int .i64 0, .int .i64 0, .slice none 0 0], .bool false]) (by simp [results, Tryz.results85, go_sem, i0, i1, i2, i3]) rfl ⟨.inr ⟨hTR.out, rfl⟩, bel4⟩
      · have B3 := B2.keep b3 B2.lt
        have r0 := B3.cell 0
        have r1 := B3.cell 1
        have r2 := B3.cell 2
        have r3 := B3.cell 3
        have f0 := B3.free 0
        have f1 := B3.free 1
        have f2 := B3.free 2
        have f3 := B3.free 3
        have lR3 := B3.lt
        have bel3 := belowCall bel2 b3
        have hTR : TR = none := by
          rw [hT.out]
          simp only [readR, List.map_cons, hvs, Option.bind_none]
        replace hTR := hide hTR
        go_wp2_with fail
        have B4 := put4r B3 (.int .i64 0) (.int .i64 0) (.int .i64 0) (.slice none 0 0)
        have bel4 := below4r bel3 (Nat.le_refl _) (.int .i64 0) (.int .i64 0) (.int .i64 0) (.slice none 0 0)
        have i0 := B4.cell 0
        have i1 := B4.cell 1
        have i2 := B4.cell 2
        have i3 := B4.cell 3
        exact bodyPost_ret (v := .tuple #[.agg #[.int .i64 0, .int .i64 0, .int .i64 0, .slice none 0 0], .bool false]) (by simp [results, Tryz.results85, go_sem, i0, i1, i2, i3]) rfl ⟨.inr ⟨hTR.out, rfl⟩, bel4⟩
    · have hr1 : (1 : Int) ≤ (c : Int) + 1 := by omega
      have hr2 : ¬ c + 1 = 1 := by omega
      have hr3 : ¬ c = 0 := hr
      go_wp2_with fail
      go_at_call 106
      refine (cN (some ⟨w1.heap.size, 1, none⟩) c (strs_tail S1)).mono ?_
      rintro e w3 ⟨(⟨vs, a3, G3, hvs, rfl, o3⟩ | ⟨hvs, rfl⟩), b3⟩
      · have B3 := B2.keep b3 B2.lt
        have r0 := B3.cell 0
        have r1 := B3.cell 1
        have r2 := B3.cell 2
        have r3 := B3.cell 3
        have f0 := B3.free 0
        have f1 := B3.free 1
        have f2 := B3.free 2
        have f3 := B3.free 3
        have lR3 := B3.lt
        have x3 := (b3.cell (p := ⟨w1.heap.size, 0, none⟩) l1).trans x0
        have lx3 : w1.heap.size < w3.heap.size := Nat.lt_of_lt_of_le l1 b3.size
        have bel3 := belowCall bel2 b3
        have hvl : vs.length = c := by rw [readNums_length _ _ hvs, List.length_map]; exact hc.out.symm
        have hTR : TR = (if bytes x = wBatch ∧ vs.length % 3 = 0 then some ⟨1, 0, 0, chunkL vs⟩ else if bytes x = wSeal ∧ vs.length = 2 then some ⟨2, vs.getD 0 0, vs.getD 1 0, []⟩ else if bytes x = wMerge ∧ vs.length = 2 then some ⟨3, vs.getD 0 0, vs.getD 1 0, []⟩ else if bytes x = wDrop ∧ vs.length = 1 then some ⟨4, 0, vs.getD 0 0, []⟩ else none) := by
          rw [hT.out]
          simp only [readR, List.map_cons, hvs, Option.bind_some]
        replace hvs := hide hvs
        have SV := ints_own o3
        by_cases kB : bytes x = wBatch
        · by_cases m3 : c % 3 = 0
          · rw [if_pos ⟨kB, by omega⟩] at hTR
            have bB : (x.toList == [98, 97, 116, 99, 104]) = true := by rw [toList_bytes, kB]; rfl
            have bS : (x.toList == [115, 101, 97, 108]) = false := by rw [toList_bytes, kB]; rfl
            have bM : (x.toList == [109, 101, 114, 103, 101]) = false := by rw [toList_bytes, kB]; rfl
            have bD : (x.toList == [100, 114, 111, 112]) = false := by rw [toList_bytes, kB]; rfl
            replace hTR := hide hTR
            obtain ⟨mm, hmm⟩ : ∃ mm, c = mm * 3 := ⟨c / 3, by omega⟩
            have cE := fun W (h : Sl W a3 G3 (vs.map (Value.int .i64))) => entries_any vs mm c G3 a3 W h hvl.symm hmm (by omega)
            have hcl : (chunkL vs).length = mm := chunk_length mm vs (by omega)
            replace hmm := hide hmm
            clear hvl hT
            have t3 : (c : Int).tmod 3 = 0 := by rw [Int.tmod_eq_emod_of_nonneg (by omega)]; omega
            go_wp2_with fail
            go_at_call 107
            refine (cE _ SV).mono ?_
            rintro e w4 ⟨v4, rfl, o4, b4⟩
            obtain ⟨a4, G4, rfl, -, -, -⟩ := SlW.ofOwn ec_three (by decide) o4
            have B4 := B3.keep b4 B3.lt
            have s0 := B4.cell 0
            have s1 := B4.cell 1
            have s2 := B4.cell 2
            have s3 := B4.cell 3
            have u0 := B4.free 0
            have u1 := B4.free 1
            have u2 := B4.free 2
            have u3 := B4.free 3
            have lR4 := B4.lt
            have bel4' := belowCall bel3 b4
            go_wp2_with fail
            have B5 := put4r B4 (.int .i64 1) (.int .i64 0) (.int .i64 0) (.slice a4 mm G4)
            have bel5 := below4r bel4' (Nat.le_refl _) (.int .i64 1) (.int .i64 0) (.int .i64 0) (.slice a4 mm G4)
            have o5 := own4r o4 B4 (by decide) (.int .i64 1) (.int .i64 0) (.int .i64 0) (.slice a4 mm G4)
            have i0 := B5.cell 0
            have i1 := B5.cell 1
            have i2 := B5.cell 2
            have i3 := B5.cell 3
            have le3 : w.heap.size ≤ w3.heap.size := bel3.size
            exact bodyPost_ret (v := .tuple #[.agg #[.int .i64 1, .int .i64 0, .int .i64 0, .slice a4 mm G4], .bool true]) (by simp [results, Tryz.results85, go_sem, i0, i1, i2, i3]) rfl ⟨.inl ⟨⟨1, 0, 0, chunkL vs⟩, a4, G4, hTR.out, by rw [hcl], by rw [hcl]; exact owndown o5 le3⟩, bel5⟩
          · rw [if_neg (fun h => m3 (by have := h.2; omega)), if_neg (fun h => by rw [kB] at h; exact absurd h.1 (by decide)), if_neg (fun h => by rw [kB] at h; exact absurd h.1 (by decide)), if_neg (fun h => by rw [kB] at h; exact absurd h.1 (by decide))] at hTR
            have bB : (x.toList == [98, 97, 116, 99, 104]) = true := by rw [toList_bytes, kB]; rfl
            have bS : (x.toList == [115, 101, 97, 108]) = false := by rw [toList_bytes, kB]; rfl
            have bM : (x.toList == [109, 101, 114, 103, 101]) = false := by rw [toList_bytes, kB]; rfl
            have bD : (x.toList == [100, 114, 111, 112]) = false := by rw [toList_bytes, kB]; rfl
            replace hTR := hide hTR
            clear hvl hT
            obtain ⟨r3, hr3⟩ : ∃ r3, r3 = (c : Int) % 3 := ⟨_, rfl⟩
            have d3 : decide (r3 = 0) = false := decide_eq_false (by omega)
            have n3 : ¬ r3 = 0 := by omega
            have t3 : (c : Int).tmod 3 = r3 := by rw [Int.tmod_eq_emod_of_nonneg (by omega)]; exact hr3.symm
            clear hr3
            go_wp2_with fail
            have B4 := put4r B3 (.int .i64 0) (.int .i64 0) (.int .i64 0) (.slice none 0 0)
            have bel4 := below4r bel3 (Nat.le_refl _) (.int .i64 0) (.int .i64 0) (.int .i64 0) (.slice none 0 0)
            have i0 := B4.cell 0
            have i1 := B4.cell 1
            have i2 := B4.cell 2
            have i3 := B4.cell 3
            exact bodyPost_ret (v := .tuple #[.agg #[.int .i64 0, .int .i64 0, .int .i64 0, .slice none 0 0], .bool false]) (by simp [results, Tryz.results85, go_sem, i0, i1, i2, i3]) rfl ⟨.inr ⟨hTR.out, rfl⟩, bel4⟩
        · rw [if_neg (fun h => kB h.1)] at hTR
          by_cases kS : bytes x = wSeal
          · by_cases hc2 : c = 2
            · rw [if_pos ⟨kS, by omega⟩] at hTR
              have bB : (x.toList == [98, 97, 116, 99, 104]) = false := by rw [toList_bytes, kS]; rfl
              have bS : (x.toList == [115, 101, 97, 108]) = true := by rw [toList_bytes, kS]; rfl
              have bM : (x.toList == [109, 101, 114, 103, 101]) = false := by rw [toList_bytes, kS]; rfl
              have bD : (x.toList == [100, 114, 111, 112]) = false := by rw [toList_bytes, kS]; rfl
              replace hTR := hide hTR
              obtain ⟨v0, v1, rfl⟩ : ∃ v0 v1, vs = [v0, v1] := by
                match vs, hvl.trans hc2 with
                | [v0, v1], _ => exact ⟨v0, v1, rfl⟩
              subst hc2
              obtain ⟨gv, ov, rfl, hgv, hcv⟩ := SV.row.at (by simp)
              have y0 : w3.cell? ⟨gv, ov, none⟩ = some (.int .i64 v0) := hcv 0 _ rfl
              have y1 : w3.cell? ⟨gv, ov + 1, none⟩ = some (.int .i64 v1) := hcv 1 _ rfl
              have hne : ¬ gv = w.heap.size := by
                rcases o3.2 with ⟨h, _⟩ | ⟨g, cp, cur, h, hb, _⟩
                · cases h
                · simp only [Value.slice.injEq, Option.some.injEq, Addr.mk.injEq] at h
                  obtain ⟨⟨rfl, -, -⟩, -⟩ := h
                  omega
              have hne' : ¬ w.heap.size = gv := fun h => hne h.symm
              clear hvl hT hcv
              go_wp2_with fail
              go_region_held3 (fun w' => w'.cell? ⟨gv, ov, none⟩ = some (.int .i64 v0) ∧ w'.cell? ⟨gv, ov + 1, none⟩ = some (.int .i64 v1)) (go_keep) (fail)
              all_goals go_wp2_with fail
              all_goals (
                have B4 : Blk (World.drew ((((w3.setCell ⟨w.heap.size, 0, none⟩ (.int .i64 2)).setCell ⟨w.heap.size, 1, none⟩ (.int .i64 v0)).setCell ⟨w.heap.size, 2, none⟩ (.int .i64 v1)).setCell ⟨w.heap.size, 3, none⟩ (.slice none 0 0))) w.heap.size [.int .i64 2, .int .i64 v0, .int .i64 v1, .slice none 0 0] 27 := put4r B3 (.int .i64 2) (.int .i64 v0) (.int .i64 v1) (.slice none 0 0)
                have bel4 := belowDrew (below4r bel3 (Nat.le_refl _) (.int .i64 2) (.int .i64 v0) (.int .i64 v1) (.slice none 0 0))
                generalize World.drew _ = w5 at *
                have i0 : w5.cell? ⟨w.heap.size, 0, none⟩ = some (.int .i64 2) := B4.cell 0
                have i1 : w5.cell? ⟨w.heap.size, 1, none⟩ = some (.int .i64 v0) := B4.cell 1
                have i2 : w5.cell? ⟨w.heap.size, 2, none⟩ = some (.int .i64 v1) := B4.cell 2
                have i3 : w5.cell? ⟨w.heap.size, 3, none⟩ = some (.slice none 0 0) := B4.cell 3
                exact bodyPost_ret (v := .tuple #[.agg #[.int .i64 2, .int .i64 v0, .int .i64 v1, .slice none 0 0], .bool true]) (by simp [results, Tryz.results85, go_sem, i0, i1, i2, i3]) rfl ⟨.inl ⟨⟨2, v0, v1, []⟩, none, 0, hTR.out, rfl, World.ownsRow_nil _ _ _ _⟩, bel4⟩)
            · rw [if_neg (fun h => hc2 (by have := h.2; omega)), if_neg (fun h => by rw [kS] at h; exact absurd h.1 (by decide)), if_neg (fun h => by rw [kS] at h; exact absurd h.1 (by decide))] at hTR
              have bB : (x.toList == [98, 97, 116, 99, 104]) = false := by rw [toList_bytes, kS]; rfl
              have bS : (x.toList == [115, 101, 97, 108]) = true := by rw [toList_bytes, kS]; rfl
              have bM : (x.toList == [109, 101, 114, 103, 101]) = false := by rw [toList_bytes, kS]; rfl
              have bD : (x.toList == [100, 114, 111, 112]) = false := by rw [toList_bytes, kS]; rfl
              replace hTR := hide hTR
              clear hvl hT
              have d2 : ¬ (c : Int) = 2 := by omega
              go_wp2_with fail
              have B4 := put4r B3 (.int .i64 0) (.int .i64 0) (.int .i64 0) (.slice none 0 0)
              have bel4 := below4r bel3 (Nat.le_refl _) (.int .i64 0) (.int .i64 0) (.int .i64 0) (.slice none 0 0)
              have i0 := B4.cell 0
              have i1 := B4.cell 1
              have i2 := B4.cell 2
              have i3 := B4.cell 3
              exact bodyPost_ret (v := .tuple #[.agg #[.int .i64 0, .int .i64 0, .int .i64 0, .slice none 0 0], .bool false]) (by simp [results, Tryz.results85, go_sem, i0, i1, i2, i3]) rfl ⟨.inr ⟨hTR.out, rfl⟩, bel4⟩
          · rw [if_neg (fun h => kS h.1)] at hTR
            by_cases kM : bytes x = wMerge
            · by_cases hc2 : c = 2
              · rw [if_pos ⟨kM, by omega⟩] at hTR
                have bB : (x.toList == [98, 97, 116, 99, 104]) = false := by rw [toList_bytes, kM]; rfl
                have bS : (x.toList == [115, 101, 97, 108]) = false := by rw [toList_bytes, kM]; rfl
                have bM : (x.toList == [109, 101, 114, 103, 101]) = true := by rw [toList_bytes, kM]; rfl
                have bD : (x.toList == [100, 114, 111, 112]) = false := by rw [toList_bytes, kM]; rfl
                replace hTR := hide hTR
                obtain ⟨v0, v1, rfl⟩ : ∃ v0 v1, vs = [v0, v1] := by
                  match vs, hvl.trans hc2 with
                  | [v0, v1], _ => exact ⟨v0, v1, rfl⟩
                subst hc2
                obtain ⟨gv, ov, rfl, hgv, hcv⟩ := SV.row.at (by simp)
                have y0 : w3.cell? ⟨gv, ov, none⟩ = some (.int .i64 v0) := hcv 0 _ rfl
                have y1 : w3.cell? ⟨gv, ov + 1, none⟩ = some (.int .i64 v1) := hcv 1 _ rfl
                have hne : ¬ gv = w.heap.size := by
                  rcases o3.2 with ⟨h, _⟩ | ⟨g, cp, cur, h, hb, _⟩
                  · cases h
                  · simp only [Value.slice.injEq, Option.some.injEq, Addr.mk.injEq] at h
                    obtain ⟨⟨rfl, -, -⟩, -⟩ := h
                    omega
                have hne' : ¬ w.heap.size = gv := fun h => hne h.symm
                clear hvl hT hcv
                go_wp2_with fail
                go_region_held3 (fun w' => w'.cell? ⟨gv, ov, none⟩ = some (.int .i64 v0) ∧ w'.cell? ⟨gv, ov + 1, none⟩ = some (.int .i64 v1)) (go_keep) (fail)
                all_goals go_wp2_with fail
                all_goals (
                  have B4 : Blk (World.drew ((((w3.setCell ⟨w.heap.size, 0, none⟩ (.int .i64 3)).setCell ⟨w.heap.size, 1, none⟩ (.int .i64 v0)).setCell ⟨w.heap.size, 2, none⟩ (.int .i64 v1)).setCell ⟨w.heap.size, 3, none⟩ (.slice none 0 0))) w.heap.size [.int .i64 3, .int .i64 v0, .int .i64 v1, .slice none 0 0] 27 := put4r B3 (.int .i64 3) (.int .i64 v0) (.int .i64 v1) (.slice none 0 0)
                  have bel4 := belowDrew (below4r bel3 (Nat.le_refl _) (.int .i64 3) (.int .i64 v0) (.int .i64 v1) (.slice none 0 0))
                  generalize World.drew _ = w5 at *
                  have i0 : w5.cell? ⟨w.heap.size, 0, none⟩ = some (.int .i64 3) := B4.cell 0
                  have i1 : w5.cell? ⟨w.heap.size, 1, none⟩ = some (.int .i64 v0) := B4.cell 1
                  have i2 : w5.cell? ⟨w.heap.size, 2, none⟩ = some (.int .i64 v1) := B4.cell 2
                  have i3 : w5.cell? ⟨w.heap.size, 3, none⟩ = some (.slice none 0 0) := B4.cell 3
                  exact bodyPost_ret (v := .tuple #[.agg #[.int .i64 3, .int .i64 v0, .int .i64 v1, .slice none 0 0], .bool true]) (by simp [results, Tryz.results85, go_sem, i0, i1, i2, i3]) rfl ⟨.inl ⟨⟨3, v0, v1, []⟩, none, 0, hTR.out, rfl, World.ownsRow_nil _ _ _ _⟩, bel4⟩)
              · rw [if_neg (fun h => hc2 (by have := h.2; omega)), if_neg (fun h => by rw [kM] at h; exact absurd h.1 (by decide))] at hTR
                have bB : (x.toList == [98, 97, 116, 99, 104]) = false := by rw [toList_bytes, kM]; rfl
                have bS : (x.toList == [115, 101, 97, 108]) = false := by rw [toList_bytes, kM]; rfl
                have bM : (x.toList == [109, 101, 114, 103, 101]) = true := by rw [toList_bytes, kM]; rfl
                have bD : (x.toList == [100, 114, 111, 112]) = false := by rw [toList_bytes, kM]; rfl
                replace hTR := hide hTR
                clear hvl hT
                have d2 : ¬ (c : Int) = 2 := by omega
                go_wp2_with fail
                have B4 := put4r B3 (.int .i64 0) (.int .i64 0) (.int .i64 0) (.slice none 0 0)
                have bel4 := below4r bel3 (Nat.le_refl _) (.int .i64 0) (.int .i64 0) (.int .i64 0) (.slice none 0 0)
                have i0 := B4.cell 0
                have i1 := B4.cell 1
                have i2 := B4.cell 2
                have i3 := B4.cell 3
                exact bodyPost_ret (v := .tuple #[.agg #[.int .i64 0, .int .i64 0, .int .i64 0, .slice none 0 0], .bool false]) (by simp [results, Tryz.results85, go_sem, i0, i1, i2, i3]) rfl ⟨.inr ⟨hTR.out, rfl⟩, bel4⟩
            · rw [if_neg (fun h => kM h.1)] at hTR
              by_cases kD : bytes x = wDrop
              · by_cases hc1 : c = 1
                · rw [if_pos ⟨kD, by omega⟩] at hTR
                  have bB : (x.toList == [98, 97, 116, 99, 104]) = false := by rw [toList_bytes, kD]; rfl
                  have bS : (x.toList == [115, 101, 97, 108]) = false := by rw [toList_bytes, kD]; rfl
                  have bM : (x.toList == [109, 101, 114, 103, 101]) = false := by rw [toList_bytes, kD]; rfl
                  have bD : (x.toList == [100, 114, 111, 112]) = true := by rw [toList_bytes, kD]; rfl
                  replace hTR := hide hTR
                  obtain ⟨v0, rfl⟩ : ∃ v0, vs = [v0] := by
                    match vs, hvl.trans hc1 with
                    | [v0], _ => exact ⟨v0, rfl⟩
                  subst hc1
                  obtain ⟨gv, ov, rfl, hgv, hcv⟩ := SV.row.at (by simp)
                  have y0 : w3.cell? ⟨gv, ov, none⟩ = some (.int .i64 v0) := hcv 0 _ rfl
                  have hne : ¬ gv = w.heap.size := by
                    rcases o3.2 with ⟨h, _⟩ | ⟨g, cp, cur, h, hb, _⟩
                    · cases h
                    · simp only [Value.slice.injEq, Option.some.injEq, Addr.mk.injEq] at h
                      obtain ⟨⟨rfl, -, -⟩, -⟩ := h
                      omega
                  have hne' : ¬ w.heap.size = gv := fun h => hne h.symm
                  clear hvl hT hcv
                  go_wp2_with fail
                  have B4 := put4r B3 (.int .i64 4) (.int .i64 0) (.int .i64 v0) (.slice none 0 0)
                  have bel4 := below4r bel3 (Nat.le_refl _) (.int .i64 4) (.int .i64 0) (.int .i64 v0) (.slice none 0 0)
                  have i0 := B4.cell 0
                  have i1 := B4.cell 1
                  have i2 := B4.cell 2
                  have i3 := B4.cell 3
                  exact bodyPost_ret (v := .tuple #[.agg #[.int .i64 4, .int .i64 0, .int .i64 v0, .slice none 0 0], .bool true]) (by simp [results, Tryz.results85, go_sem, i0, i1, i2, i3]) rfl ⟨.inl ⟨⟨4, 0, v0, []⟩, none, 0, hTR.out, rfl, World.ownsRow_nil _ _ _ _⟩, bel4⟩
                · rw [if_neg (fun h => hc1 (by have := h.2; omega))] at hTR
                  have bB : (x.toList == [98, 97, 116, 99, 104]) = false := by rw [toList_bytes, kD]; rfl
                  have bS : (x.toList == [115, 101, 97, 108]) = false := by rw [toList_bytes, kD]; rfl
                  have bM : (x.toList == [109, 101, 114, 103, 101]) = false := by rw [toList_bytes, kD]; rfl
                  have bD : (x.toList == [100, 114, 111, 112]) = true := by rw [toList_bytes, kD]; rfl
                  replace hTR := hide hTR
                  clear hvl hT
                  have d1 : ¬ (c : Int) = 1 := by omega
                  go_wp2_with fail
                  have B4 := put4r B3 (.int .i64 0) (.int .i64 0) (.int .i64 0) (.slice none 0 0)
                  have bel4 := below4r bel3 (Nat.le_refl _) (.int .i64 0) (.int .i64 0) (.int .i64 0) (.slice none 0 0)
                  have i0 := B4.cell 0
                  have i1 := B4.cell 1
                  have i2 := B4.cell 2
                  have i3 := B4.cell 3
                  exact bodyPost_ret (v := .tuple #[.agg #[.int .i64 0, .int .i64 0, .int .i64 0, .slice none 0 0], .bool false]) (by simp [results, Tryz.results85, go_sem, i0, i1, i2, i3]) rfl ⟨.inr ⟨hTR.out, rfl⟩, bel4⟩
              · rw [if_neg (fun h => kD h.1)] at hTR
                have bB : (x.toList == [98, 97, 116, 99, 104]) = false := by rw [toList_bytes]; exact beq_eq_false_iff_ne.2 kB
                have bS : (x.toList == [115, 101, 97, 108]) = false := by rw [toList_bytes]; exact beq_eq_false_iff_ne.2 kS
                have bM : (x.toList == [109, 101, 114, 103, 101]) = false := by rw [toList_bytes]; exact beq_eq_false_iff_ne.2 kM
                have bD : (x.toList == [100, 114, 111, 112]) = false := by rw [toList_bytes]; exact beq_eq_false_iff_ne.2 kD
                replace hTR := hide hTR
                clear hvl hT
                go_wp2_with fail
                have B4 := put4r B3 (.int .i64 0) (.int .i64 0) (.int .i64 0) (.slice none 0 0)
                have bel4 := below4r bel3 (Nat.le_refl _) (.int .i64 0) (.int .i64 0) (.int .i64 0) (.slice none 0 0)
                have i0 := B4.cell 0
                have i1 := B4.cell 1
                have i2 := B4.cell 2
                have i3 := B4.cell 3
                exact bodyPost_ret (v := .tuple #[.agg #[.int .i64 0, .int .i64 0, .int .i64 0, .slice none 0 0], .bool false]) (by simp [results, Tryz.results85, go_sem, i0, i1, i2, i3]) rfl ⟨.inr ⟨hTR.out, rfl⟩, bel4⟩
      · have B3 := B2.keep b3 B2.lt
        have r0 := B3.cell 0
        have r1 := B3.cell 1
        have r2 := B3.cell 2
        have r3 := B3.cell 3
        have f0 := B3.free 0
        have f1 := B3.free 1
        have f2 := B3.free 2
        have f3 := B3.free 3
        have lR3 := B3.lt
        have bel3 := belowCall bel2 b3
        have hTR : TR = none := by
          rw [hT.out]
          simp only [readR, List.map_cons, hvs, Option.bind_none]
        replace hTR := hide hTR
        go_wp2_with fail
        have B4 := put4r B3 (.int .i64 0) (.int .i64 0) (.int .i64 0) (.slice none 0 0)
        have bel4 := below4r bel3 (Nat.le_refl _) (.int .i64 0) (.int .i64 0) (.int .i64 0) (.slice none 0 0)
        have i0 := B4.cell 0
        have i1 := B4.cell 1
        have i2 := B4.cell 2
        have i3 := B4.cell 3
        exact bodyPost_ret (v := .tuple #[.agg #[.int .i64 0, .int .i64 0, .int .i64 0, .slice none 0 0], .bool false]) (by simp [results, Tryz.results85, go_sem, i0, i1, i2, i3]) rfl ⟨.inr ⟨hTR.out, rfl⟩, bel4⟩

end Go.Proofs.YtabeihkfjlmepaaGreatDoor
