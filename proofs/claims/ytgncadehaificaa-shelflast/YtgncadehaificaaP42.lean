/-
  query.Range: what it answers, whatever it is handed; its points lie in memory of the call's own.
-/
import Derived.Lib.SliceRun
import Derived.Lib.AppendZeros
import Derived.Test.YtgncadehaificaaHQRange
import Derived.Test.YtgncadehaificaaP20
import Derived.Test.YtgncadehaificaaP04
import Derived.Test.YtgncadehaificaaP01
namespace Go.Proofs.Ytgncadehaificaa
open Go.RowKit

theorem allL_len (C : List Rw) (s : Int) : (allL C s).length ≤ 40 := by
  unfold allL
  split
  · rename_i h
    unfold allE at h
    split at h
    · rename_i hz
      split at h
      · cases h
      · rename_i hi
        obtain ⟨k, rfl, hk⟩ := inI_nat (by simpa using hi)
        obtain ⟨h4, hm⟩ := shelfE_mem hz
        rw [Int.toNat_natCast]
        exact (checkE_zero (rowE_zero (hm _ (getD_mem (by omega)))).2.2).1
    · rename_i h0
      exact absurd h h0
  · simp

theorem allL_check (C : List Rw) (s : Int) : checkE (allL C s) = 0 := by
  unfold allL
  split
  · rename_i h
    unfold allE at h
    split at h
    · rename_i hz
      split at h
      · cases h
      · rename_i hi
        obtain ⟨k, rfl, hk⟩ := inI_nat (by simpa using hi)
        obtain ⟨h4, hm⟩ := shelfE_mem hz
        rw [Int.toNat_natCast]
        exact (rowE_zero (hm _ (getD_mem (by omega)))).2.2
    · rename_i h0
      exact absurd h h0
  · rfl

theorem allL_rises (C : List Rw) (s : Int) : Rises (allL C s) := (check_rises (allL_check C s)).1

set_option maxHeartbeats 1000000 in
set_option maxRecDepth 100000 in
theorem range_is {C : List Rw} {a : Option Addr} {G cn : Nat} {w : World} (s f t : Int) (h : IsS w a G C) (hcn : cn = C.length) :
    Calls Try.prog 29 #[.agg #[.slice a cn G], .int .i64 s, .int .i64 f, .int .i64 t] w fun e w' => ∃ a' G', e = .returned (.tuple #[.slice a' (rngL (allL C s) f t).length G', .int .i64 (allE C s)]) ∧
      w'.ownsRow w.heap.size 44 2 (.slice a' (rngL (allL C s) f t).length G') (rngL (allL C s) f t).length (cellsP (rngL (allL C s) f t)) ∧ Below w.heap.size w w' := by
  have hl := allL_len C s
  have c1 := fun W (h : IsS W a G C) => all_is s h
  rw [← hcn] at c1
  have S1 := ((h.alloc (.cells #[.slice a cn G] 24)).alloc (.cells #[.int .i64 f] 3)).alloc (.cells #[.int .i64 t] 3)
  have Bf := (Blk.laid (w.alloc (.cells #[.slice a cn G] 24)) [.int .i64 f] 3 (w.heap.size + 1) (by simp)).alc (.cells #[.int .i64 t] 3)
  have Bt := Blk.laid ((w.alloc (.cells #[.slice a cn G] 24)).alloc (.cells #[.int .i64 f] 3)) [.int .i64 t] 3 (w.heap.size + 2) (by simp)
  have bel := below3 w (.cells #[.slice a cn G] 24) (.cells #[.int .i64 f] 3) (.cells #[.int .i64 t] 3)
  by_cases hE : allE C s = 0
  · rw [hE] at c1 ⊢
    obtain ⟨A, hA⟩ : ∃ A, A = allL C s := ⟨_, rfl⟩
    rw [← hA] at c1 hl ⊢
    obtain ⟨n, hn⟩ : ∃ n, n = A.length := ⟨_, rfl⟩
    rw [← hn] at c1 hl
    obtain ⟨m, hm⟩ : ∃ m, m = (rngL A f t).length := ⟨_, rfl⟩
    have hmn : m ≤ n := by rw [hm, hn]; exact rng_len A f t
    rw [← hm]
    replace hm := hide hm
    replace hn := hide hn
    clear hE hA hcn
    go_enter Try.func29, Try.ntmps29
    go_wp2_with fail
    go_at_call 10
    refine (c1 _ S1).mono ?_
    rintro e w2 ⟨a2, G2, rfl, o2, b2⟩
    replace Bf := Bf.keep b2 Bf.lt
    replace Bt := Bt.keep b2 Bt.lt
    replace bel := belowCall bel b2
    rcases ownSpare o2 with ⟨e2, rfl, rfl⟩ | ⟨g, G', sp, e2, hb, B, h1, h2, h3⟩
    · simp only [Value.slice.injEq, true_and] at e2
      obtain ⟨rfl, rfl⟩ := e2
      obtain rfl : m = 0 := by omega
      have cI := fun W h k m => indexR [] none 0 0 f t (w.heap.size + 1) (w.heap.size + 2) W h k m rfl (by decide)
      have cD : Calls Try.prog 73 #[.slice none 0 0, .func (.func 72) #[] #[.pointer (some ⟨w.heap.size + 1, 0, none⟩), .pointer (some ⟨w.heap.size + 2, 0, none⟩)]] w2 fun e w' => e = .returned (.slice none 0 0) ∧ Below w2.heap.size w2 w' := by
        go_enter Try.func73, Try.ntmps73
        go_wp2_with fail
        go_at_call 94
        refine (cI _ (SlP.ofNil _) Bf Bt).mono ?_
        rintro e w3 ⟨b3, ⟨rfl, _⟩ | ⟨k0, x0, _, hx0, _⟩⟩
        · go_wp2_with fail
          go_ret
          exact ⟨rfl, b3⟩
        · simp at hx0
      clear cI b2 o2
      go_wp2_with fail
      go_at_call 73
      refine cD.mono ?_
      rintro e w3 ⟨rfl, b3⟩
      go_wp2_with fail
      go_ret2
      exact ⟨none, 0, rfl, World.ownsRow_nil _ _ _ _, belowCall bel b3⟩
    · simp only [Value.slice.injEq, true_and] at e2
      obtain ⟨rfl, rfl⟩ := e2
      rw [cellsP_flat] at B h3
      have cD := deleteP A sp f t g (w.heap.size + 1) (w.heap.size + 2) n G2 w2 B Bf Bt hn.out.symm hl h1 (by unfold maxLen at h2; exact h2)
      rw [keptR_eq] at cD
      rw [← hm.out] at cD
      have h3' := hide h3
      have hbw : w.heap.size ≤ g := by simp at hb; omega
      clear b2 o2 B h3
      go_wp2_with fail
      go_at_call 73
      refine cD.mono ?_
      rintro e w3 ⟨tail, rfl, hlen, B3, gr3⟩
      have bel3 : Below w.heap.size w w3 := bel.grown gr3 bel.size (fun k hk => by obtain rfl := Option.some.inj hk; exact hbw)
      have own3 : w3.ownsRow w.heap.size 44 2 (.slice (some ⟨g, 0, none⟩) m G2) m (cellsP (rngL A f t)) := by
        rw [List.flatMap_append, List.append_assoc, ← cellsP_flat] at B3
        refine spareOwn hbw B3 hm.out.symm (by omega) h2 ?_
        rw [← h3'.out, List.length_append, List.length_append, List.length_append, cellsP_flat, flat_length pc_two, flat_length pc_two, flat_length pc_two, ← hm.out, ← hn.out]
        rw [List.length_append, ← hm.out] at hlen
        omega
      replace hlen := hide hlen
      clear B3
      go_wp2_with fail
      go_ret2
      exact ⟨_, _, rfl, own3, bel3⟩
  · have hR : allL C s = [] := by unfold allL; rw [if_neg hE]
    rw [hR] at c1 ⊢
    generalize allE C s = E at *
    clear hR hcn
    go_enter Try.func29, Try.ntmps29
    go_wp2_with fail
    go_at_call 10
    refine (c1 _ S1).mono ?_
    rintro e w2 ⟨a2, G2, rfl, o2, b2⟩
    replace bel := belowCall bel b2
    go_wp2_with fail
    go_ret2
    exact ⟨none, 0, rfl, World.ownsRow_nil _ _ _ _, bel⟩

end Go.Proofs.Ytgncadehaificaa

/-
  query.Last: what it answers, whatever it is handed.
-/
namespace Go.Proofs.Ytgncadehaificaa
open Go.RowKit

def lastPt (l : List Pt) : Pt := l.getD (l.length - 1) (0, 0)

def someP (l : List Pt) : Bool := !l.isEmpty

set_option maxHeartbeats 1000000 in
set_option maxRecDepth 100000 in
theorem last_is {C : List Rw} {a : Option Addr} {G cn : Nat} {w : World} (s : Int) (h : IsS w a G C) (hcn : cn = C.length) :
    Calls Try.prog 31 #[.agg #[.slice a cn G], .int .i64 s] w fun e w' =>
      e = .returned (.tuple #[.agg #[.int .i64 (lastPt (allL C s)).1, .int .i64 (lastPt (allL C s)).2], .bool (someP (allL C s)), .int .i64 (allE C s)]) ∧ Below w.heap.size w w' := by
  have hl := allL_len C s
  have c1 := fun W (h : IsS W a G C) => all_is s h
  rw [← hcn] at c1
  have S1 := (h.alloc (.cells #[.slice a cn G] 24)).alloc (.cells #[.int .i64 0, .int .i64 0] 44)
  have BR := Blk.laid (w.alloc (.cells #[.slice a cn G] 24)) [.int .i64 0, .int .i64 0] 44 (w.heap.size + 1) (by simp)
  have bel := below2 w (.cells #[.slice a cn G] 24) (.cells #[.int .i64 0, .int .i64 0] 44)
  obtain ⟨A, hA⟩ : ∃ A, A = allL C s := ⟨_, rfl⟩
  have hEA : allE C s ≠ 0 → A = [] := fun hE => by rw [hA]; unfold allL; rw [if_neg hE]
  rw [← hA] at c1 hl ⊢
  generalize allE C s = E at *
  obtain ⟨n, hn⟩ : ∃ n, n = A.length := ⟨_, rfl⟩
  rw [← hn] at c1 hl
  replace hn := hide hn
  clear hA hcn
  by_cases h0 : E ≠ 0 ∨ A = []
  · have hA0 : A = [] := by
      rcases h0 with h0 | h0
      · exact hEA h0
      · exact h0
    obtain rfl : n = 0 := by rw [hn.out, hA0]; rfl
    have e1 : lastPt A = (0, 0) := by rw [hA0]; rfl
    have e2 : someP A = false := by rw [hA0]; rfl
    rw [e1, e2]
    clear e1 e2 hEA h0
    by_cases hE : E = 0
    · subst hE
      go_enter Try.func31, Try.ntmps31
      go_wp2_with fail
      go_at_call 10
      refine (c1 _ S1).mono ?_
      rintro e w2 ⟨a2, G2, rfl, o2, b2⟩
      replace BR := BR.keep b2 BR.lt
      replace bel := belowCall bel b2
      have q0 : w2.cell? ⟨w.heap.size + 1, 0, none⟩ = some (.int .i64 0) := BR.cell 0
      have q1 : w2.cell? ⟨w.heap.size + 1, 1, none⟩ = some (.int .i64 0) := BR.cell 1
      have f0 := BR.free 0
      have f1 := BR.free 1
      have lR := BR.lt
      go_wp2_with fail
      exact bodyPost_ret (v := .tuple #[.agg #[.int .i64 0, .int .i64 0], .bool false, .int .i64 0]) (by simp [results, Try.results31, go_sem, q0, q1]) rfl ⟨rfl, (bel.setCell (p := ⟨w.heap.size + 1, 0, none⟩) (Nat.le_succ _) _).setCell (p := ⟨w.heap.size + 1, 1, none⟩) (Nat.le_succ _) _⟩
    · go_enter Try.func31, Try.ntmps31
      go_wp2_with fail
      go_at_call 10
      refine (c1 _ S1).mono ?_
      rintro e w2 ⟨a2, G2, rfl, o2, b2⟩
      replace BR := BR.keep b2 BR.lt
      replace bel := belowCall bel b2
      have q0 : w2.cell? ⟨w.heap.size + 1, 0, none⟩ = some (.int .i64 0) := BR.cell 0
      have q1 : w2.cell? ⟨w.heap.size + 1, 1, none⟩ = some (.int .i64 0) := BR.cell 1
      have f0 := BR.free 0
      have f1 := BR.free 1
      have lR := BR.lt
      go_wp2_with fail
      exact bodyPost_ret (v := .tuple #[.agg #[.int .i64 0, .int .i64 0], .bool false, .int .i64 E]) (by simp [results, Try.results31, go_sem, q0, q1]) rfl ⟨rfl, (bel.setCell (p := ⟨w.heap.size + 1, 0, none⟩) (Nat.le_succ _) _).setCell (p := ⟨w.heap.size + 1, 1, none⟩) (Nat.le_succ _) _⟩
  · have hE : E = 0 := by
      by_cases hE : E = 0
      · exact hE
      · exact absurd (.inl hE) h0
    have hA0 : A ≠ [] := fun e => h0 (.inr e)
    subst hE
    have hn1 : 1 ≤ n := by rw [hn.out]; exact List.length_pos_iff.2 hA0
    have e2 : someP A = true := by
      unfold someP
      cases A with
      | nil => exact absurd rfl hA0
      | cons x r => rfl
    rw [e2]
    obtain ⟨m, rfl⟩ : ∃ m, n = m + 1 := ⟨n - 1, by omega⟩
    clear hEA h0 e2 hn1
    obtain ⟨X, Y, hXY⟩ : ∃ X Y, lastPt A = (X, Y) := ⟨_, _, rfl⟩
    rw [hXY]
    replace hXY := hide hXY
    replace hA0 := hide hA0
    go_enter Try.func31, Try.ntmps31
    go_wp2_with fail
    go_at_call 10
    refine (c1 _ S1).mono ?_
    rintro e w2 ⟨a2, G2, rfl, o2, b2⟩
    replace BR := BR.keep b2 BR.lt
    replace bel := belowCall bel b2
    have q0 : w2.cell? ⟨w.heap.size + 1, 0, none⟩ = some (.int .i64 0) := BR.cell 0
    have q1 : w2.cell? ⟨w.heap.size + 1, 1, none⟩ = some (.int .i64 0) := BR.cell 1
    have f0 := BR.free 0
    have f1 := BR.free 1
    have lR := BR.lt
    obtain ⟨a3, G3, e3, s3, _, _⟩ := SlP.ofOwn o2
    simp only [Value.slice.injEq, true_and] at e3
    obtain ⟨rfl, rfl⟩ := e3
    obtain ⟨b, off, rfl, hbw⟩ := s3.where hA0.out
    obtain ⟨x, y, p0, p1, hx, _⟩ := s3.pt m (by rw [← hn.out]; omega)
    obtain ⟨rfl, rfl⟩ : x = X ∧ y = Y := by
      have := hXY.out
      unfold lastPt at this
      rw [← hn.out, Nat.add_sub_cancel, List.getD, hx] at this
      simpa using this
    replace hx := hide hx
    have hle : m + 1 ≤ G2 := by have := s3.le; rw [← hn.out] at this; exact this
    have hmi : (0 : Int) ≤ m := by omega
    have hmi2 : (m : Int) < 40 := by omega
    clear o2 b2 s3
    go_wp2_with fail
    exact bodyPost_ret (v := .tuple #[.agg #[.int .i64 x, .int .i64 y], .bool true, .int .i64 0]) (by simp [results, Try.results31, go_sem, q0, q1]) rfl ⟨rfl, (bel.setCell (p := ⟨w.heap.size + 1, 0, none⟩) (Nat.le_succ _) _).setCell (p := ⟨w.heap.size + 1, 1, none⟩) (Nat.le_succ _) _⟩

end Go.Proofs.Ytgncadehaificaa

/-
  What one entry does to a series, as plain lists. No program is named.
-/
namespace Go.Proofs.Ytgncadehaificaa
open Go.RowKit

theorem put1_row {C : List Rw} {k : Nat} (hk : k < 4) (hz : shelfE C = 0) (t v : Int) : bputE C [⟨k, t, v⟩] = checkE (allPts (C.getD k rw0) ++ [(t, v)]) := by
  obtain ⟨h4, hm⟩ := shelfE_mem hz
  obtain ⟨z1, z2, z3⟩ := rowE_zero (hm _ (getD_mem (l := C) (k := k) (by omega)))
  unfold bputE
  rw [if_neg (by simp), putsE]
  have e : putRowE C ⟨k, t, v⟩ = checkE (allPts (C.getD k rw0) ++ [(t, v)]) := by
    unfold putRowE
    rw [if_neg (by unfold inI; simp; omega)]
    unfold putRow rowE
    simp only [Int.toNat_natCast]
    rw [if_neg (by omega), if_pos z2]
    unfold allPts
    simp only [List.append_assoc]
  rw [e]
  by_cases h0 : checkE (allPts (C.getD k rw0) ++ [(t, v)]) = 0
  · rw [if_pos h0, h0]; rfl
  · rw [if_neg h0]

theorem checkE_behind {A : List Pt} {t v : Int} (h : checkE (A ++ [(t, v)]) = 0) : (A ≠ [] → (lastPt A).1 < t) ∧ lastPt (A ++ [(t, v)]) = (t, v) := by
  refine ⟨fun hA => ?_, ?_⟩
  · have hr := (check_rises h).1
    rw [List.pairwise_append] at hr
    have hl : A.length - 1 < A.length := by have := List.length_pos_iff.2 hA; omega
    have : lastPt A ∈ A := by
      unfold lastPt
      rw [List.getD, List.getElem?_eq_getElem hl]
      exact List.getElem_mem hl
    exact hr.2.2 _ this (t, v) List.mem_cons_self
  · unfold lastPt
    rw [List.length_append, List.length_singleton, Nat.add_sub_cancel, List.getD, List.getElem?_append_right (Nat.le_refl _), Nat.sub_self]
    rfl

theorem checkE_twice {A : List Pt} {t v : Int} (h : checkE (A ++ [(t, v)]) = 0) : checkE ((A ++ [(t, v)]) ++ [(t, v)]) = 7 ∨ checkE ((A ++ [(t, v)]) ++ [(t, v)]) = 2 := by
  unfold checkE
  by_cases hl : 40 < ((A ++ [(t, v)]) ++ [(t, v)]).length
  · rw [if_pos hl]
    exact .inr rfl
  · rw [if_neg hl, chk_append]
    have hc : chk (-1) (A ++ [(t, v)]) = 0 := by
      unfold checkE at h
      split at h
      · cases h
      · exact h
    have hok := ((chk_rises _ _ hc).2 (t, v) (by simp)).2
    rw [if_pos hc, lastT_snoc]
    unfold chk
    rw [if_neg (by rw [hok]; decide), if_pos (Int.le_refl _)]
    exact .inl rfl

theorem put1_more {C : List Rw} {x : En} {L : List En} (h : bputE C [x] ≠ 0) : bputE C (x :: L) ≠ 0 := by
  unfold bputE at h ⊢
  rw [if_neg (by simp)] at h
  split
  · decide
  · unfold putsE at h ⊢
    split
    · rename_i h0
      rw [if_pos h0] at h
      exact absurd rfl h
    · assumption

theorem put1_all {C : List Rw} {k : Nat} (hk : k < 4) (hz : shelfE C = 0) {t v : Int} (h : bputE C [⟨k, t, v⟩] = 0) :
    shelfE (bputL C [⟨k, t, v⟩]) = 0 ∧ allPts ((bputL C [⟨k, t, v⟩]).getD k rw0) = allPts (C.getD k rw0) ++ [(t, v)] := by
  obtain ⟨p1, p2, p3⟩ := bput_zero h
  rw [p3]
  refine ⟨puts_shelf _ C hz p2, ?_⟩
  rw [puts_all _ C (shelfE_zero hz).1 p2 k hk]
  simp [entPts]

end Go.Proofs.Ytgncadehaificaa

/-
  slices.Concat of two slices of entries, not both of them empty: the new row, in new memory.
-/
namespace Go.Proofs.Ytgncadehaificaa
open Go.RowKit

theorem infoCE : (Try.prog.info? 49).map (fun i => (i.zero, i.size, i.bytes)) = some (some (.agg #[.int .i64 0, .int .i64 0, .int .i64 0]), 3, 24) := by kernel_rfl

set_option maxHeartbeats 400000 in
set_option maxRecDepth 100000 in
theorem growE (n : Nat) (w : World) (h0 : 0 < n) (hn : n * 24 ≤ 140737488355328) :
    Calls Try.prog 81 #[.slice none 0 0, .int .i64 n] w fun e w' => ∃ G, e = .returned (.slice (some ⟨w.heap.size, 0, none⟩) 0 G) ∧ n ≤ G ∧ G ≤ maxLen ∧ w'.ownsRow w.heap.size 49 3 (.slice (some ⟨w.heap.size, 0, none⟩) 0 G) 0 [] ∧ Below w.heap.size w w' := by
  obtain ⟨i0, hi, hz0, hz1, hz2⟩ := info_parts infoCE
  have hrz := fun ty => Lib.run_append_nil_zeros (P := Try.prog) w 25 3 ty 49 i0 (.agg #[.int .i64 0, .int .i64 0, .int .i64 0]) .i64 .i64 Try.underlying25 Try.underlying3 hi hz0 n h0 (by omega) (by omega) (by rw [hz2]; omega)
  have hG1 : n ≤ grownCap w n 0 49 := grownCap_ge w _ _ _
  have hG2 : grownCap w n 0 49 ≤ maxLen := grownCap_le_maxLen w n 0 _ (by unfold maxLen; omega)
  generalize grownCap w n 0 49 = G at *
  have hG3 := hG2
  unfold maxLen at hG3
  go_enter Try.func81, Try.ntmps81
  go_wp2_with (at_builtin; refine Lib.wpList_append_run _ rfl _ _ _ _ rfl _ _ rfl rfl _ _ (hrz _) ?_)
  go_ret
  refine ⟨G, rfl, hG1, hG2, ?_, ?_⟩
  · refine ⟨rfl, .inr ⟨w.heap.size, G, _, rfl, Nat.le_refl _, heap_alloc_new _ _, Nat.zero_le _, hG2, ?_, by simp⟩⟩
    rw [Array.size_append, size_zeroCells, size_zeroCells]
    show n * 3 + (G - n) * 3 = G * 3
    omega
  · repeat (first | exact Below.refl _ _ | apply Below.drew | refine Below.alloc ?_ (by simp) _)

theorem Row.srcE {w : World} {ao : Option Addr} {cs : List Value} (h : Row w ao cs) : ∀ ad, ao = some ad → ∀ j u, cs[j]? = some u → w.cell? (ad.add j) = some u := by
  intro ad had j u hu
  obtain ⟨b, off, e, _, hc⟩ := h.at (by intro e; rw [e] at hu; simp at hu)
  rw [e] at had
  obtain rfl := Option.some.inj had
  rw [Addr.add_lit]
  exact hc j u hu

set_option maxHeartbeats 1000000 in
set_option maxRecDepth 100000 in
theorem concatE (B : Nat) (a1 a2 : Option Addr) (c1 c2 n1 n2 : Nat) (C1 C2 : List Value) (w : World) (e0 : w.cell? ⟨B, 0, none⟩ = some (.slice a1 n1 c1)) (e1 : w.cell? ⟨B, 1, none⟩ = some (.slice a2 n2 c2))
    (s1 : Row w a1 C1) (s2 : Row w a2 C2) (h1 : C1.length = n1 * 3) (h2 : C2.length = n2 * 3) (y1 : a1 = none → n1 = 0 ∧ c1 = 0) (y2 : a2 = none → n2 = 0 ∧ c2 = 0)
    (o1 : ∀ v ∈ C1, v.oneCell' = true) (o2 : ∀ v ∈ C2, v.oneCell' = true) (h0 : 0 < n1 + n2) (hm : (n1 + n2) * 24 ≤ 140737488355328) (hB : B < w.heap.size) :
    Calls Try.prog 40 #[.slice (some ⟨B, 0, none⟩) 2 2] w fun e w' => ∃ g G, e = .returned (.slice (some ⟨g, 0, none⟩) (n1 + n2) G) ∧ w'.ownsRow w.heap.size 49 3 (.slice (some ⟨g, 0, none⟩) (n1 + n2) G) (n1 + n2) (C1 ++ C2) ∧ Below w.heap.size w w' := by
  obtain ⟨i0, hi, hz0, hz1, hz2⟩ := info_parts infoCE
  replace h1 := hide h1
  replace h2 := hide h2
  go_enter Try.func40, Try.ntmps40
  go_wp2_with fail
  refine wp_loop_rounds 3 ?_
  rw [rounds_succ]
  go_wp2_with fail
  rw [rounds_succ]
  go_wp2_with fail
  rw [rounds_succ]
  go_wp2_with fail
  have hg := growE (n1 + n2) w h0 hm
  rw [Int.natCast_add] at hg
  refine hg.mono ?_
  rintro e w1 ⟨G, rfl, hG1, hG2, own0, bel⟩
  clear hg
  have f0 : w1.cell? ⟨B, 0, none⟩ = some (.slice a1 n1 c1) := (bel.cell (p := ⟨B, 0, none⟩) hB).trans e0
  have f1 : w1.cell? ⟨B, 1, none⟩ = some (.slice a2 n2 c2) := (bel.cell (p := ⟨B, 1, none⟩) hB).trans e1
  have t1 := (s1.keep bel (Nat.le_refl _)).srcE
  have hlt := (own0.lt w.heap.size rfl).2
  clear e0 e1
  have b1 : 0 + n1 ≤ G := by omega
  go_wp2_with fail
  refine wp_loop_rounds 3 ?_
  rw [rounds_succ]
  go_wp2_with (at_builtin; refine wpList_append_fits_any _ rfl (.tmp 31) (.tmp 32) 25 rfl w.heap.size 49 i0 3 Try.underlying25 hi hz1 w.heap.size 0 G [] rfl own0 a1 n1 c1 C1 rfl h1.out y1 t1 o1 b1 ?_)
  intro w2 own1 grow1
  have bel2 : Below w.heap.size w w2 := bel.grown grow1 (by omega) (fun k h => by cases h; exact Nat.le_refl _)
  have f3 : w2.cell? ⟨B, 1, none⟩ = some (.slice a2 n2 c2) := grow1.cell f1 (by intro e; have h : B = w.heap.size := Option.some.inj e; omega)
  have t2 := (s2.keep bel2 (Nat.le_refl _)).srcE
  clear f0 f1 t1 own0 bel grow1 b1
  have b2 : n1 + n2 ≤ G := by omega
  go_wp2_with fail
  rw [rounds_succ]
  go_wp2_with (at_builtin; refine wpList_append_fits_any _ rfl (.tmp 31) (.tmp 32) 25 rfl w.heap.size 49 i0 3 Try.underlying25 hi hz1 w.heap.size n1 G C1 rfl own1 a2 n2 c2 C2 rfl h2.out y2 t2 o2 b2 ?_)
  intro w3 own2 grow2
  have bel3 : Below w.heap.size w w3 := bel2.grown grow2 (bel2.size) (fun k h => by cases h; exact Nat.le_refl _)
  go_wp2_with fail
  rw [rounds_succ]
  go_wp2_with fail
  go_ret
  exact ⟨w.heap.size, G, rfl, own2, bel3⟩

end Go.Proofs.Ytgncadehaificaa
