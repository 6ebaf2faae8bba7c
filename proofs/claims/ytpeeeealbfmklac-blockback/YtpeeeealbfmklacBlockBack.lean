/-
  Proved: for all points and any two numbers, BlockBack returns true and leaves its arguments as they were: a block's points are those that it was made of, and whichever two of three blocks are merged first it is the same.
-/
import Derived.Test.YtpeeeealbfmklacRows
import Derived.Test.YtpeeeealbfmklacBlocked
import Derived.Test.YtpeeeealbfmklacBSame
import Derived.Test.YtpeeeealbfmklacAt
namespace Go.Proofs.Ytpeeeealbfmklac.blockBack
open Go.ChangeShapes Go.WideShapes Go.ChangeAt Go.RowKit
set_option linter.unusedVariables false

set_option maxHeartbeats 400000 in
set_option maxRecDepth 100000 in
theorem walk_no (w : World) (a0 : Option Addr) (cap0 : Nat) (l : List Pt) (s0 : SlP w a0 cap0 l) (hl : l.length ≤ 140737488351232) (j k : Int) (h : ¬ (checkE l = 0 ∧ 3 ≤ l.length)) :
    Calls Try.prog 4 #[.slice a0 l.length cap0, .int .i64 j, .int .i64 k] w fun e w' => e = .returned (.bool true) ∧ Below w.heap.size w w' := by
  have c1 := fun W h => check_any a0 cap0 l W h
  generalize hE : checkE l = E at *
  generalize hn : l.length = n at *
  clear hE hn
  have kk := @blocked_any
  by_cases hE : E = 0
  · subst hE
    have hn : n < 3 := by omega
    clear h
    have hn' : (n : Int) < 3 := by omega
    go_enter Try.func4, Try.ntmps4
    go_wp2_with fail
    go_at_call 11
    refine (blocked_any _).mono ?_
    rintro e w1 ⟨rfl, b1⟩
    go_wp2_with fail
    go_at_call 15
    refine (c1 _ (s0.call b1)).mono ?_
    rintro e w2 ⟨rfl, b2⟩
    have bel := belowCall b1 b2
    go_wp2_with fail
    go_at_call 11
    refine (blocked_any _).mono ?_
    rintro e w3 ⟨rfl, b3⟩
    have bel := belowCall bel b3
    go_wp2_with fail
    go_ret
    exact ⟨rfl, bel⟩
  · clear h
    go_enter Try.func4, Try.ntmps4
    go_wp2_with fail
    go_at_call 11
    refine (blocked_any _).mono ?_
    rintro e w1 ⟨rfl, b1⟩
    go_wp2_with fail
    go_at_call 15
    refine (c1 _ (s0.call b1)).mono ?_
    rintro e w2 ⟨rfl, b2⟩
    have bel := belowCall b1 b2
    go_wp2_with fail
    go_at_call 11
    refine (blocked_any _).mono ?_
    rintro e w3 ⟨rfl, b3⟩
    have bel := belowCall bel b3
    go_wp2_with fail
    go_ret
    exact ⟨rfl, bel⟩

/-- Blocks that were made, merged. -/
theorem made (p q : List Pt) (hp : checkE p = 0) (hq : checkE q = 0) (h : checkE (p ++ q) = 0) (lp : 0 < p.length) (lq : 0 < q.length) (ao bo : Option Addr) (ca cb : Nat) (w : World) (ha : Sl w ao ca ((makeB p).bits.map Value.bool)) (hb : Sl w bo cb ((makeB q).bits.map Value.bool)) :
    Calls Try.prog 7 #[bkV (makeB p) ao ca, bkV (makeB q) bo cb] w fun e w' =>
      ∃ a' G, e = .returned (.tuple #[bkV (makeB (p ++ q)) a' G, .int .i64 0]) ∧ Sl w' a' G ((makeB (p ++ q)).bits.map Value.bool) ∧ Below w.heap.size w w' := by
  have l1 := makeB_bits p
  have l2 := makeB_bits q
  have c := merge_any (makeB p) (makeB q) ao bo ca cb w ha hb (by omega) (by omega)
  obtain ⟨e1, e2⟩ := merge_make hp hq h lp lq
  rw [e1, e2] at c
  exact c

theorem makes (l : List Pt) (n : Nat) (hn : l.length = n) (h : checkE l = 0) (hl : 0 < n) (ao : Option Addr) (cap : Nat) (w : World) (hr : SlP w ao cap l) :
    Calls Try.prog 5 #[.slice ao n cap] w fun e w' =>
      ∃ a' G, e = .returned (.tuple #[bkV (makeB l) a' G, .int .i64 0]) ∧ Sl w' a' G ((makeB l).bits.map Value.bool) ∧ Below w.heap.size w w' := by
  subst hn
  have c := make_any ao cap l w hr
  rw [makeE_zero h hl] at c
  exact c

set_option maxHeartbeats 400000 in
set_option maxRecDepth 100000 in
theorem walk_ok (w : World) (a0 : Option Addr) (cap0 : Nat) (l : List Pt) (s0 : SlP w a0 cap0 l) (j k : Int) (hc : checkE l = 0) (h3 : 3 ≤ l.length) :
    Calls Try.prog 4 #[.slice a0 l.length cap0, .int .i64 j, .int .i64 k] w fun e w' => e = .returned (.bool true) ∧ Below w.heap.size w w' := by
  have h40 := (checkE_zero hc).1
  have c1 := fun W h => check_any a0 cap0 l W h
  rw [hc] at c1
  obtain ⟨n, hn⟩ : ∃ n, n = l.length := ⟨_, rfl⟩
  rw [← hn] at h40 h3 c1 ⊢
  have hj0 := Int.emod_nonneg j (show (n : Int) - 2 ≠ 0 by omega)
  have hj1 := Int.emod_lt_of_pos j (show 0 < (n : Int) - 2 by omega)
  have c2 := fun W => at_any j ((n : Int) - 2) W (by omega) (by omega)
  obtain ⟨J, hJ⟩ := Int.eq_ofNat_of_zero_le hj0
  rw [hJ] at hj1 c2
  clear hJ hj0
  obtain ⟨p, hp⟩ : ∃ p : Nat, 1 + (J : Int) = (p : Int) := ⟨J + 1, by omega⟩
  have hp1 : 1 ≤ p := by omega
  have hp2 : p + 2 ≤ n := by omega
  have hk0 := Int.emod_nonneg k (show (n : Int) - p - 1 ≠ 0 by omega)
  have hk1 := Int.emod_lt_of_pos k (show 0 < (n : Int) - p - 1 by omega)
  have c3 := fun W => at_any k ((n : Int) - p - 1) W (by omega) (by omega)
  obtain ⟨K, hK⟩ := Int.eq_ofNat_of_zero_le hk0
  rw [hK] at hk1 c3
  clear hK hk0
  obtain ⟨q, hq⟩ : ∃ q : Nat, (p : Int) + 1 + (K : Int) = (q : Int) := ⟨p + 1 + K, by omega⟩
  have hq1 : p + 1 ≤ q := by omega
  have hq2 : q + 1 ≤ n := by omega
  replace hp := hide hp
  replace hq := hide hq
  have hcap : n ≤ cap0 := by have := s0.le; omega
  have hmax := s0.max
  obtain ⟨b, off, rfl, _⟩ := s0.where (by intro e; rw [e] at hn; simp at hn; omega)
  have mA : ∀ W, SlP W (some ⟨b, off, none⟩) cap0 l → Calls Try.prog 5 #[.slice (some ⟨b, off, none⟩) p cap0] W fun e w' => ∃ a' G, e = .returned (.tuple #[bkV (makeB (l.take p)) a' G, .int .i64 0]) ∧ Sl w' a' G ((makeB (l.take p)).bits.map Value.bool) ∧ Below W.heap.size W w' :=
    fun W h => makes (l.take p) p (by rw [List.length_take]; omega) (check_take hc p) (by omega) _ _ W (h.front p)
  have mB : ∀ W, SlP W (some ⟨b, off, none⟩) cap0 l → Calls Try.prog 5 #[.slice (some ⟨b, off + p * 2, none⟩) (q - p) (cap0 - p)] W fun e w' => ∃ a' G, e = .returned (.tuple #[bkV (makeB ((l.take q).drop p)) a' G, .int .i64 0]) ∧ Sl w' a' G ((makeB ((l.take q).drop p)).bits.map Value.bool) ∧ Below W.heap.size W w' := by
    intro W h
    have t := h.part p q (by omega) (by omega)
    rw [if_neg (by omega), Option.map_some, Addr.add_lit] at t
    exact makes _ (q - p) (by rw [List.length_drop, List.length_take]; omega) (check_drop (check_take hc q) p) (by omega) _ _ W t
  have mC : ∀ W, SlP W (some ⟨b, off, none⟩) cap0 l → Calls Try.prog 5 #[.slice (some ⟨b, off + q * 2, none⟩) (n - q) (cap0 - q)] W fun e w' => ∃ a' G, e = .returned (.tuple #[bkV (makeB (l.drop q)) a' G, .int .i64 0]) ∧ Sl w' a' G ((makeB (l.drop q)).bits.map Value.bool) ∧ Below W.heap.size W w' := by
    intro W h
    have t := h.part q n (by omega) (by omega)
    rw [if_neg (by omega), Option.map_some, Addr.add_lit, List.take_of_length_le (by omega)] at t
    exact makes _ (n - q) (by rw [List.length_drop]; omega) (check_drop hc q) (by omega) _ _ W t
  have mW := fun W h => makes l n hn.symm hc (by omega) (some ⟨b, off, none⟩) cap0 W h
  have j1 : l.take p ++ (l.take q).drop p = l.take q := by
    have := List.take_append_drop p (l.take q)
    rwa [List.take_take, Nat.min_eq_left (by omega)] at this
  have j2 : l.take q ++ l.drop q = l := List.take_append_drop q l
  have j3 : (l.take q).drop p ++ l.drop q = l.drop p := by
    have h1 : (l.take q ++ l.drop q).drop p = (l.take q).drop p ++ l.drop q := List.drop_append_of_le_length (by rw [List.length_take]; omega)
    rw [← h1, j2]
  have j4 : l.take p ++ l.drop p = l := List.take_append_drop p l
  have gAB := made (l.take p) ((l.take q).drop p) (check_take hc p) (check_drop (check_take hc q) p) (by rw [j1]; exact check_take hc q) (by rw [List.length_take]; omega) (by rw [List.length_drop, List.length_take]; omega)
  have gX := made (l.take q) (l.drop q) (check_take hc q) (check_drop hc q) (by rw [j2]; exact hc) (by rw [List.length_take]; omega) (by rw [List.length_drop]; omega)
  have gBC := made ((l.take q).drop p) (l.drop q) (check_drop (check_take hc q) p) (check_drop hc q) (by rw [j3]; exact check_drop hc p) (by rw [List.length_drop, List.length_take]; omega) (by rw [List.length_drop]; omega)
  have gY := made (l.take p) (l.drop p) (check_take hc p) (check_drop hc p) (by rw [j4]; exact hc) (by rw [List.length_take]; omega) (by rw [List.length_drop]; omega)
  rw [j1] at gAB
  rw [j2] at gX
  rw [j3] at gBC
  rw [j4] at gY
  have lM := makeB_bits l
  obtain ⟨e1, e2⟩ := pts_make hc (show 0 < l.length by omega)
  have pX := fun ao cap W h => bpoints_any (makeB l) ao cap W h (by omega)
  rw [e1, e2, ← hn] at pX
  have sM := fun ao bo ca cb W h k => same_any (makeB l) (makeB l) ao bo ca cb W h k (by omega) (by omega)
  rw [sameB_self] at sM
  have eL : ∀ a c d W, SlP W a c l → SlP W (some ⟨b, off, none⟩) d l → Calls Try.prog 14 #[.slice a n c, .slice (some ⟨b, off, none⟩) n d] W fun e w' => e = .returned (.bool true) ∧ Below W.heap.size W w' := by
    intro a c d W h k
    have t := equalPt a (some ⟨b, off, none⟩) c d l l W h k (by omega) (by omega)
    rw [decide_eq_true (rfl : l = l), ← hn] at t
    refine t.mono ?_
    rintro e w' ⟨he, q, rfl⟩
    exact ⟨he, belowDrewN (Below.refl _ _) q⟩
  clear j1 j2 j3 j4 lM e1 e2 hc
  generalize makeB (l.take p) = A at *
  generalize makeB ((l.take q).drop p) = B at *
  generalize makeB (l.drop q) = C at *
  generalize makeB (l.take q) = AB at *
  generalize makeB (l.drop p) = BC at *
  generalize makeB l = M at *
  simp only [bkV] at *
  replace hn := hide hn
  go_enter Try.func4, Try.ntmps4
  go_wp2_with fail
  go_at_call 11
  refine (blocked_any _).mono ?_
  rintro e w1 ⟨rfl, b1⟩
  have bel := b1
  have s0 := s0.call b1
  clear b1
  go_wp2_with fail
  go_at_call 15
  refine (c1 _ s0).mono ?_
  rintro e w2 ⟨rfl, b2⟩
  have bel := belowCall bel b2
  have s0 := s0.call b2
  clear b2 c1
  go_wp2_with fail
  go_at_call 16
  refine (c2 _).mono ?_
  rintro e w3 ⟨rfl, rfl⟩
  go_wp2_with fail
  rw [hp.out]
  go_at_call 16
  refine (c3 _).mono ?_
  rintro e w3 ⟨rfl, rfl⟩
  go_wp2_with fail
  rw [hq.out]
  go_at_call 5
  refine (mA _ s0).mono ?_
  rintro e w4 ⟨a4, G4, rfl, t, b⟩
  have bel := belowCall bel b
  have s0 := s0.call b
  clear b
  go_wp2_with fail
  have HA := Held.laid A t
  have bel := belowNew bel (.cells #[.int .i64 A.n, .int .i64 A.fr, .int .i64 A.to, .slice a4 A.bits.length G4] 25)
  have s0 := s0.alloc (.cells #[.int .i64 A.n, .int .i64 A.fr, .int .i64 A.to, .slice a4 A.bits.length G4] 25)
  clear t 
  generalize w4.heap.size = gHA at *
  generalize w4.alloc _ = w5 at *
  go_at_call 5
  refine (mB _ s0).mono ?_
  rintro e w6 ⟨a6, G6, rfl, t, b⟩
  have bel := belowCall bel b
  have s0 := s0.call b
  have HA := HA.call b
  clear b
  go_wp2_with fail
  have HB := Held.laid B t
  have bel := belowNew bel (.cells #[.int .i64 B.n, .int .i64 B.fr, .int .i64 B.to, .slice a6 B.bits.length G6] 25)
  have s0 := s0.alloc (.cells #[.int .i64 B.n, .int .i64 B.fr, .int .i64 B.to, .slice a6 B.bits.length G6] 25)
  have HA := HA.alloc (.cells #[.int .i64 B.n, .int .i64 B.fr, .int .i64 B.to, .slice a6 B.bits.length G6] 25)
  clear t 
  generalize w6.heap.size = gHB at *
  generalize w6.alloc _ = w7 at *
  go_at_call 5
  refine (mC _ s0).mono ?_
  rintro e w8 ⟨a8, G8, rfl, t, b⟩
  have bel := belowCall bel b
  have s0 := s0.call b
  have HA := HA.call b
  have HB := HB.call b
  clear b
  obtain ⟨HAc0, HAc1, HAc2, HAc3⟩ := HA.cells
  have HAl := HA.blk.lt
  obtain ⟨HBc0, HBc1, HBc2, HBc3⟩ := HB.cells
  have HBl := HB.blk.lt
  go_wp2_with fail
  have HC := Held.laid C t
  have bel := belowNew bel (.cells #[.int .i64 C.n, .int .i64 C.fr, .int .i64 C.to, .slice a8 C.bits.length G8] 25)
  have s0 := s0.alloc (.cells #[.int .i64 C.n, .int .i64 C.fr, .int .i64 C.to, .slice a8 C.bits.length G8] 25)
  have HA := HA.alloc (.cells #[.int .i64 C.n, .int .i64 C.fr, .int .i64 C.to, .slice a8 C.bits.length G8] 25)
  have HB := HB.alloc (.cells #[.int .i64 C.n, .int .i64 C.fr, .int .i64 C.to, .slice a8 C.bits.length G8] 25)
  clear t HAc0 HAc1 HAc2 HAc3 HAl HBc0 HBc1 HBc2 HBc3 HBl
  generalize w8.heap.size = gHC at *
  generalize w8.alloc _ = w9 at *
  go_at_call 7
  refine (gAB _ _ _ _ _ HA.bits HB.bits).mono ?_
  rintro e w10 ⟨a10, G10, rfl, t, b⟩
  have bel := belowCall bel b
  have s0 := s0.call b
  have HA := HA.call b
  have HB := HB.call b
  have HC := HC.call b
  clear b
  obtain ⟨HCc0, HCc1, HCc2, HCc3⟩ := HC.cells
  have HCl := HC.blk.lt
  go_wp2_with fail
  have HAB := Held.laid AB t
  have bel := belowNew bel (.cells #[.int .i64 AB.n, .int .i64 AB.fr, .int .i64 AB.to, .slice a10 AB.bits.length G10] 25)
  have s0 := s0.alloc (.cells #[.int .i64 AB.n, .int .i64 AB.fr, .int .i64 AB.to, .slice a10 AB.bits.length G10] 25)
  have HA := HA.alloc (.cells #[.int .i64 AB.n, .int .i64 AB.fr, .int .i64 AB.to, .slice a10 AB.bits.length G10] 25)
  have HB := HB.alloc (.cells #[.int .i64 AB.n, .int .i64 AB.fr, .int .i64 AB.to, .slice a10 AB.bits.length G10] 25)
  have HC := HC.alloc (.cells #[.int .i64 AB.n, .int .i64 AB.fr, .int .i64 AB.to, .slice a10 AB.bits.length G10] 25)
  clear t HCc0 HCc1 HCc2 HCc3 HCl
  generalize w10.heap.size = gHAB at *
  generalize w10.alloc _ = w11 at *
  go_at_call 7
  refine (gX _ _ _ _ _ HAB.bits HC.bits).mono ?_
  rintro e w12 ⟨a12, G12, rfl, t, b⟩
  have bel := belowCall bel b
  have s0 := s0.call b
  have HA := HA.call b
  have HB := HB.call b
  have HC := HC.call b
  have HAB := HAB.call b
  clear b
  obtain ⟨HBc0, HBc1, HBc2, HBc3⟩ := HB.cells
  have HBl := HB.blk.lt
  obtain ⟨HCc0, HCc1, HCc2, HCc3⟩ := HC.cells
  have HCl := HC.blk.lt
  go_wp2_with fail
  have HX := Held.laid M t
  have bel := belowNew bel (.cells #[.int .i64 M.n, .int .i64 M.fr, .int .i64 M.to, .slice a12 M.bits.length G12] 25)
  have s0 := s0.alloc (.cells #[.int .i64 M.n, .int .i64 M.fr, .int .i64 M.to, .slice a12 M.bits.length G12] 25)
  have HA := HA.alloc (.cells #[.int .i64 M.n, .int .i64 M.fr, .int .i64 M.to, .slice a12 M.bits.length G12] 25)
  have HB := HB.alloc (.cells #[.int .i64 M.n, .int .i64 M.fr, .int .i64 M.to, .slice a12 M.bits.length G12] 25)
  have HC := HC.alloc (.cells #[.int .i64 M.n, .int .i64 M.fr, .int .i64 M.to, .slice a12 M.bits.length G12] 25)
  have HAB := HAB.alloc (.cells #[.int .i64 M.n, .int .i64 M.fr, .int .i64 M.to, .slice a12 M.bits.length G12] 25)
  clear t HBc0 HBc1 HBc2 HBc3 HBl HCc0 HCc1 HCc2 HCc3 HCl
  generalize w12.heap.size = gHX at *
  generalize w12.alloc _ = w13 at *
  go_at_call 7
  refine (gBC _ _ _ _ _ HB.bits HC.bits).mono ?_
  rintro e w14 ⟨a14, G14, rfl, t, b⟩
  have bel := belowCall bel b
  have s0 := s0.call b
  have HA := HA.call b
  have HB := HB.call b
  have HC := HC.call b
  have HAB := HAB.call b
  have HX := HX.call b
  clear b
  obtain ⟨HAc0, HAc1, HAc2, HAc3⟩ := HA.cells
  have HAl := HA.blk.lt
  go_wp2_with fail
  have HBC := Held.laid BC t
  have bel := belowNew bel (.cells #[.int .i64 BC.n, .int .i64 BC.fr, .int .i64 BC.to, .slice a14 BC.bits.length G14] 25)
  have s0 := s0.alloc (.cells #[.int .i64 BC.n, .int .i64 BC.fr, .int .i64 BC.to, .slice a14 BC.bits.length G14] 25)
  have HA := HA.alloc (.cells #[.int .i64 BC.n, .int .i64 BC.fr, .int .i64 BC.to, .slice a14 BC.bits.length G14] 25)
  have HB := HB.alloc (.cells #[.int .i64 BC.n, .int .i64 BC.fr, .int .i64 BC.to, .slice a14 BC.bits.length G14] 25)
  have HC := HC.alloc (.cells #[.int .i64 BC.n, .int .i64 BC.fr, .int .i64 BC.to, .slice a14 BC.bits.length G14] 25)
  have HAB := HAB.alloc (.cells #[.int .i64 BC.n, .int .i64 BC.fr, .int .i64 BC.to, .slice a14 BC.bits.length G14] 25)
  have HX := HX.alloc (.cells #[.int .i64 BC.n, .int .i64 BC.fr, .int .i64 BC.to, .slice a14 BC.bits.length G14] 25)
  clear t HAc0 HAc1 HAc2 HAc3 HAl
  generalize w14.heap.size = gHBC at *
  generalize w14.alloc _ = w15 at *
  go_at_call 7
  refine (gY _ _ _ _ _ HA.bits HBC.bits).mono ?_
  rintro e w16 ⟨a16, G16, rfl, t, b⟩
  have bel := belowCall bel b
  have s0 := s0.call b
  have HA := HA.call b
  have HB := HB.call b
  have HC := HC.call b
  have HAB := HAB.call b
  have HX := HX.call b
  have HBC := HBC.call b
  clear b
  go_wp2_with fail
  have HY := Held.laid M t
  have bel := belowNew bel (.cells #[.int .i64 M.n, .int .i64 M.fr, .int .i64 M.to, .slice a16 M.bits.length G16] 25)
  have s0 := s0.alloc (.cells #[.int .i64 M.n, .int .i64 M.fr, .int .i64 M.to, .slice a16 M.bits.length G16] 25)
  have HA := HA.alloc (.cells #[.int .i64 M.n, .int .i64 M.fr, .int .i64 M.to, .slice a16 M.bits.length G16] 25)
  have HB := HB.alloc (.cells #[.int .i64 M.n, .int .i64 M.fr, .int .i64 M.to, .slice a16 M.bits.length G16] 25)
  have HC := HC.alloc (.cells #[.int .i64 M.n, .int .i64 M.fr, .int .i64 M.to, .slice a16 M.bits.length G16] 25)
  have HAB := HAB.alloc (.cells #[.int .i64 M.n, .int .i64 M.fr, .int .i64 M.to, .slice a16 M.bits.length G16] 25)
  have HX := HX.alloc (.cells #[.int .i64 M.n, .int .i64 M.fr, .int .i64 M.to, .slice a16 M.bits.length G16] 25)
  have HBC := HBC.alloc (.cells #[.int .i64 M.n, .int .i64 M.fr, .int .i64 M.to, .slice a16 M.bits.length G16] 25)
  clear t 
  generalize w16.heap.size = gHY at *
  generalize w16.alloc _ = w17 at *
  go_at_call 5
  refine (mW _ s0).mono ?_
  rintro e w18 ⟨a18, G18, rfl, t, b⟩
  have bel := belowCall bel b
  have s0 := s0.call b
  have HA := HA.call b
  have HB := HB.call b
  have HC := HC.call b
  have HAB := HAB.call b
  have HX := HX.call b
  have HBC := HBC.call b
  have HY := HY.call b
  clear b
  obtain ⟨HXc0, HXc1, HXc2, HXc3⟩ := HX.cells
  have HXl := HX.blk.lt
  go_wp2_with fail
  have HW := Held.laid M t
  have bel := belowNew bel (.cells #[.int .i64 M.n, .int .i64 M.fr, .int .i64 M.to, .slice a18 M.bits.length G18] 25)
  have s0 := s0.alloc (.cells #[.int .i64 M.n, .int .i64 M.fr, .int .i64 M.to, .slice a18 M.bits.length G18] 25)
  have HA := HA.alloc (.cells #[.int .i64 M.n, .int .i64 M.fr, .int .i64 M.to, .slice a18 M.bits.length G18] 25)
  have HB := HB.alloc (.cells #[.int .i64 M.n, .int .i64 M.fr, .int .i64 M.to, .slice a18 M.bits.length G18] 25)
  have HC := HC.alloc (.cells #[.int .i64 M.n, .int .i64 M.fr, .int .i64 M.to, .slice a18 M.bits.length G18] 25)
  have HAB := HAB.alloc (.cells #[.int .i64 M.n, .int .i64 M.fr, .int .i64 M.to, .slice a18 M.bits.length G18] 25)
  have HX := HX.alloc (.cells #[.int .i64 M.n, .int .i64 M.fr, .int .i64 M.to, .slice a18 M.bits.length G18] 25)
  have HBC := HBC.alloc (.cells #[.int .i64 M.n, .int .i64 M.fr, .int .i64 M.to, .slice a18 M.bits.length G18] 25)
  have HY := HY.alloc (.cells #[.int .i64 M.n, .int .i64 M.fr, .int .i64 M.to, .slice a18 M.bits.length G18] 25)
  clear t HXc0 HXc1 HXc2 HXc3 HXl
  generalize w18.heap.size = gHW at *
  generalize w18.alloc _ = w19 at *
  go_at_call 6
  refine (pX _ _ _ HX.bits).mono ?_
  rintro e w30 ⟨a30, G30, rfl, t, b⟩
  have bel := belowCall bel b
  have s0 := s0.call b
  have HX := HX.call b
  have HY := HY.call b
  have HW := HW.call b
  clear b HA HB HC HAB HBC
  obtain ⟨x0, x1, x2, x3⟩ := HX.cells
  obtain ⟨y0, y1, y2, y3⟩ := HY.cells
  go_wp2_with fail
  go_at_call 12
  refine (sM _ _ _ _ _ HX.bits HY.bits).mono ?_
  rintro e w31 ⟨rfl, b⟩
  have bel := belowCall bel b
  have s0 := s0.call b
  have t := t.call b
  have HX := HX.call b
  have HW := HW.call b
  clear b HY x0 x1 x2 x3 y0 y1 y2 y3
  obtain ⟨x0, x1, x2, x3⟩ := HX.cells
  obtain ⟨y0, y1, y2, y3⟩ := HW.cells
  go_wp2_with fail
  go_at_call 12
  refine (sM _ _ _ _ _ HX.bits HW.bits).mono ?_
  rintro e w32 ⟨rfl, b⟩
  have bel := belowCall bel b
  have s0 := s0.call b
  have t := t.call b
  clear b HX HW x0 x1 x2 x3 y0 y1 y2 y3
  go_wp2_with fail
  go_at_call 14
  refine (eL _ _ _ _ t s0).mono ?_
  rintro e w33 ⟨rfl, b⟩
  have bel := belowCall bel b
  go_wp2_with fail
  go_ret
  exact ⟨rfl, bel⟩

theorem walk (w : World) (a0 : Option Addr) (cap0 : Nat) (l : List Pt) (s0 : SlP w a0 cap0 l) (hreach : cap0 * 16 ≤ 140737488351232) (wf : ∀ p ∈ l, (Lit.int .i64 p.1).wf = true ∧ (Lit.int .i64 p.2).wf = true) (j : Int) (wj : (Lit.int .i64 j).wf = true) (k : Int) (wk : (Lit.int .i64 k).wf = true) :
    Calls Try.prog 4 #[.slice a0 l.length cap0, .int .i64 j, .int .i64 k] w fun e w' => e = .returned (.bool true) ∧ Below w.heap.size w w' := by
  by_cases h : checkE l = 0 ∧ 3 ≤ l.length
  · exact walk_ok w a0 cap0 l s0 j k h.1 h.2
  · exact walk_no w a0 cap0 l s0 (by have := s0.le; omega) j k h

set_option maxRecDepth 100000 in
theorem lifted (os : Os) (started : os.Started) (H : Type) (enc : TypeId × Value → H) :
    ReturnsInHanded {} Try.checked os 4 .any (Rows.blockBackSpec.pre6 enc Try.prog Try.f4 Rows.blockBackRow.domain false) (Rows.blockBackSpec.post enc Try.prog Try.f4 false true false false) := by
  refine returnsInHanded_of_change_sized (C := Try.checked) own started (by kernel_rfl) Try.func4
    (ChangeSpec.witness6 (enc := enc) (C := Try.checked) false ⟨#[], #[.slice none 0 0, .int .i64 0, .int .i64 0], []⟩ 8 (by kernel_rfl) (by kernel_rfl) (by kernel_rfl) (by kernel_rfl)) ?_
  intro W base args ds gs before hval0 hW hcnd hsz0 _
  have hsz : (DataW.weightsEach Try.prog (Try.f4.params.toList ++ Rows.blockBackSpec.plain.varTypes Try.prog) (ds ++ gs)).all (· ≤ reachBytes) = true := hsz0
  have hval : ∀ (j : Nat) t v, Try.f4.params[j]? = some t → args[j]? = some v → Value.okWide Try.prog W .any base t v := hval0
  have hW' := hW
  obtain ⟨p, q, hA0, hV, rfl, hfz, hnd⟩ := hW
  have hA : DataW.TrodAll enc Try.prog W 0 (fun _ => true) true Try.f4.params.toList args.toList ds p := hA0
  rw [Try.params4] at hA hval hsz
  obtain ⟨v0, vs0, d0, ds0, p0, q0, hargs, rfl, rfl, h0, r0⟩ := trodAll_cons hA
  obtain ⟨v1, vs1, d1, ds1, p1, q1, rfl, rfl, rfl, h1, r1⟩ := trodAll_cons r0
  obtain ⟨v2, vs2, d2, ds2, p2, q2, rfl, rfl, rfl, h2, r2⟩ := trodAll_cons r1
  obtain ⟨rfl, rfl, rfl⟩ := trodAll_nil r2
  obtain rfl : args = #[v0, v1, v2] := by cases args; simp_all
  obtain ⟨rfl, rfl⟩ := trodVars_none hV
  obtain ⟨a0, len0, cap0, rfl⟩ := okWide_slice Try.underlying22 (hval 0 22 v0 rfl rfl)
  have k0 := h0
  have lt0 : ∀ x ∈ p0, x.block < W.heap.size := by obtain ⟨m, hm⟩ := k0; exact DataW.trod_lt m _ _ _ hm
  obtain ⟨l0, rfl, s0, wf0, dd0⟩ := open_points Try.underlying22 Try.underlying36 (by kernel_rfl) rfl rfl (by kernel_rfl) (by kernel_rfl) Try.underlying3 Try.underlying3 h0
  have reach0 := reach_of (j := 0) (bytes := 16) hsz rfl rfl Try.underlying22 (by kernel_rfl) dd0
  obtain ⟨a1, rfl, rfl, rfl, w1⟩ := open_int Try.underlying3 (hval 1 3 v1 rfl rfl) h1
  obtain ⟨a2, rfl, rfl, rfl, w2⟩ := open_int Try.underlying3 (hval 2 3 v2 rfl rfl) h2
  clear hA0 hval0 hsz0
  refine (walk W a0 cap0 l0 s0 reach0 wf0 a1 w1 a2 w2).mono fun e W' ⟨he, bel⟩ => ?_
  subst he
  exact ⟨_, rfl, _, _, _, [], _, [], hW', trodAll_mk1 (shut_bool Try.underlying4 _), (trodAll_cons_mk (Below.trod laidOut (by kernel_rfl) (of_decide_eq_true (by kernel_rfl)) k0 bel lt0) (trodAll_cons_mk (shut_int Try.underlying3 w1) (trodAll_cons_mk (shut_int Try.underlying3 w2) trodAll_mk0))), rfl, bel.frame _, fun h => by cases h⟩

theorem over : Rows.blockBackRow.holds Try.pinned (OpenSpec.ofChange Rows.blockBackSpec) :=
  OpenClaim.holds_of_wide 4 Try.f4 rfl rfl rfl rfl rfl rfl rfl ⟨rfl, rfl, rfl, rfl, rfl⟩ rfl rfl rfl rfl rfl (by kernel_rfl) Try.func4 (by kernel_rfl)
    (of_decide_eq_true (by kernel_rfl)) (by unfold Func.isWrapper; first | (rw [if_pos (by decide +kernel)]; kernel_rfl) | (rw [if_neg (by decide +kernel)]; exact ⟨rfl, rfl⟩))
    (fun os started H enc _ => lifted os started H enc)
end Go.Proofs.Ytpeeeealbfmklac.blockBack

namespace Go.Proofs.Ytpeeeealbfmklac
theorem blockBack_holds : Rows.BlockBackSaid := blockBack.over
#print axioms blockBack_holds
end Go.Proofs.Ytpeeeealbfmklac
