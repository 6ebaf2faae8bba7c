/-
  Proved: for any shelf, any entry and any batch behind it, ShelfLast returns true and leaves its arguments as they were: what is put last is the last point, and what isn't later than that isn't put.
-/
import Derived.Test.YtgncadehaificaaRows
import Derived.Deep.RegionHeld3
import Derived.Deep.Cut
import Derived.Deep.CutRange
import Derived.Test.YtgncadehaificaaHShelved
import Derived.Test.YtgncadehaificaaP42
import Derived.Test.YtgncadehaificaaP09
import Derived.Test.YtgncadehaificaaP25
namespace Go.Proofs.Ytgncadehaificaa.shelfLast
open Go.ChangeShapes Go.WideShapes Go.ChangeAt Go.RowKit
set_option linter.unusedVariables false

theorem makes_pts {E : Int} {D : List Rw} {d : Nat} {f : Nat} {args : Array Value} {W : World} (hd : d = D.length) (c : Calls Try.prog f args W (Makes E D W)) :
    Calls Try.prog f args W fun e w' => ∃ a' G', e = .returned (.tuple #[.agg #[.slice a' d G'], .int .i64 E]) ∧ IsS w' a' G' D ∧ Below W.heap.size W w' := by
  subst hd
  exact c

theorem ents_one (l : List En) : ∀ v ∈ l.flatMap En.cells, v.oneCell' = true := by
  intro v hv
  obtain ⟨r, _, h⟩ := List.mem_flatMap.1 hv
  simp only [En.cells, List.mem_cons, List.not_mem_nil, or_false] at h
  rcases h with rfl | rfl | rfl <;> rfl

/-- The way to the first put: walked once for each end. -/
theorem all_good {C : List Rw} {k : Nat} (hE : allE C k = 0) : shelfE C = 0 := by
  unfold allE at hE
  split at hE
  · assumption
  · rename_i h0; exact absurd hE h0

set_option maxHeartbeats 2000000 in
set_option maxRecDepth 100000 in
theorem walkB (w : World) (a0 : Option Addr) (cap0 cn : Nat) (C : List Rw) (hcn : Hid (cn = C.length)) (S0 : IsS w a0 cap0 C) (s t v : Int) (a1 : Option Addr) (cap1 n1 : Nat) (k : Nat) (ek : s % 4 = k) (hE : allE C k ≠ 0) :
    Calls Try.prog 8 #[.agg #[.slice a0 cn cap0], .int .i64 s, .int .i64 t, .int .i64 v, .slice a1 n1 cap1] w fun e w' => e = .returned (.bool true) ∧ Below w.heap.size w w' := by
  have c0 := fun W => at_any s 4 W (by decide) (by decide)
  rw [ek] at c0
  have c1 := fun W (h : IsS W a0 cap0 C) => last_is (k : Int) h hcn.out
  have sh := fun W => shelved_any W
  generalize allE C k = EE at *
  generalize lastPt (allL C k) = P at *
  generalize someP (allL C k) = sm at *
  have B0 := Blk.laid w [.slice a0 cn cap0] 24 _ rfl
  have bel : Below w.heap.size w (w.alloc (.cells #[.slice a0 cn cap0] 24)) := (Below.refl _ _).alloc (Nat.le_refl _) _
  have S1 := S0.alloc (.cells #[.slice a0 cn cap0] 24)
  go_enter Try.func8, Try.ntmps8
  go_wp2_with fail
  generalize w.alloc _ = w1 at *
  go_at_call 28
  refine (c0 _).mono ?_
  rintro e wx ⟨rfl, rfl⟩
  have d0 : w1.cell? ⟨w.heap.size, 0, none⟩ = some (.slice a0 cn cap0) := B0.cell 0
  have l0 := B0.lt
  go_wp2_with fail
  go_at_call 31
  refine (c1 _ S1).mono ?_
  rintro e w3 ⟨rfl, b3⟩
  replace bel := belowCall bel b3
  clear b3 d0 l0
  go_wp2_with fail
  replace bel := belowNew bel (.cells #[.int .i64 P.1, .int .i64 P.2] 44)
  generalize w3.alloc _ = w4 at *
  go_at_call 16
  refine (sh _).mono ?_
  rintro e w5 ⟨rfl, b5⟩
  replace bel := belowCall bel b5
  clear b5
  go_wp2_with fail
  go_at_call 16
  refine (sh _).mono ?_
  rintro e w6 ⟨rfl, b6⟩
  replace bel := belowCall bel b6
  go_wp2_with fail
  go_ret
  exact ⟨rfl, bel⟩

set_option maxHeartbeats 2000000 in
set_option maxRecDepth 100000 in
theorem walkG (w : World) (a0 : Option Addr) (cap0 cn : Nat) (C : List Rw) (hcn : Hid (cn = C.length)) (S0 : IsS w a0 cap0 C) (s t v : Int) (a1 : Option Addr) (cap1 n1 : Nat) (L : List En) (hn1 : Hid (n1 = L.length)) (s1 : SlW En.cells w a1 cap1 L) (r1 : cap1 * 24 ≤ 140737488351232) (k : Nat) (hk : k < 4) (ek : s % 4 = k) (hE : allE C k = 0) :
    Calls Try.prog 8 #[.agg #[.slice a0 cn cap0], .int .i64 s, .int .i64 t, .int .i64 v, .slice a1 n1 cap1] w fun e w' => e = .returned (.bool true) ∧ Below w.heap.size w w' := by
  have hz := all_good hE
  have c0 := fun W => at_any s 4 W (by decide) (by decide)
  rw [ek] at c0
  have c1 := fun a G W (h : IsS W a G C) => last_is (k : Int) h hcn.out
  have sh := fun W => shelved_any W
  have hA : allL C k = allPts (C.getD k rw0) := by unfold allL; rw [if_pos hE, Int.toNat_natCast]
  have ch : ∀ x, chE C x = x := fun x => by unfold chE; rw [if_pos hz]
  have c2 := fun la W (h : IsS W a0 cap0 C) (t' : SlW En.cells W la 1 [⟨k, t, v⟩]) => put_is [⟨k, t, v⟩] la 1 h t' (by simp)
  simp only [ch] at c2
  simp only [← hcn.out, show ([⟨k, t, v⟩] : List En).length = 1 from rfl] at c2
  have hle1 := s1.le
  rw [← hn1.out] at hle1
  have e1 := put1_row hk hz t v
  obtain ⟨P, hP⟩ : ∃ P, P = lastPt (allL C k) := ⟨_, rfl⟩
  obtain ⟨sm, hsm⟩ : ∃ b, b = someP (allL C k) := ⟨_, rfl⟩
  rw [hE, ← hP, ← hsm] at c1
  have B0 := Blk.laid w [.slice a0 cn cap0] 24 _ rfl
  have bel : Below w.heap.size w (w.alloc (.cells #[.slice a0 cn cap0] 24)) := (Below.refl _ _).alloc (Nat.le_refl _) _
  have S1 := S0.alloc (.cells #[.slice a0 cn cap0] 24)
  have t1 := s1.alloc (.cells #[.slice a0 cn cap0] 24)
  clear S0 s1 ek
  by_cases hPE : bputE C [⟨k, t, v⟩] = 0
  · obtain ⟨z1, z2⟩ := put1_all hk hz hPE
    rw [hPE] at e1 c2
    obtain ⟨y1, y2⟩ := checkE_behind e1.symm
    rw [← hA] at z2 e1 y1 y2
    have hsmX : sm = true → P.1 < t := fun h => by
      rw [hP]
      refine y1 (fun e0 => ?_)
      rw [hsm, e0] at h
      cases h
    obtain ⟨T, hT⟩ : ∃ T, T = bputL C [⟨k, t, v⟩] := ⟨_, rfl⟩
    have hTE : chL C 0 T = T := by unfold chL; rw [ch, if_pos rfl]
    rw [← hT] at c2 z1 z2
    simp only [hTE] at c2
    obtain ⟨tn, htn⟩ : ∃ n, n = T.length := ⟨_, rfl⟩
    replace c2 := fun la W h t' => makes_pts htn (c2 la W h t')
    have eT : allE T k = 0 := by unfold allE; rw [if_pos z1]; unfold inI; simp; omega
    have lT : allL T k = allL C k ++ [(t, v)] := by rw [← z2]; unfold allL; rw [if_pos eT, Int.toNat_natCast]
    have c3 := fun a G W (h : IsS W a G T) => last_is (k : Int) h htn
    have sT : someP (allL C k ++ [(t, v)]) = true := by unfold someP; simp
    simp only [lT, eT, y2, sT] at c3
    have chT : ∀ x, chE T x = x := fun x => by unfold chE; rw [if_pos z1]
    have c4 := fun la a G W (h : IsS W a G T) (t' : SlW En.cells W la 1 [⟨k, t, v⟩]) => put_is [⟨k, t, v⟩] la 1 h t' (by simp)
    simp only [chT] at c4
    simp only [← htn, show ([⟨k, t, v⟩] : List En).length = 1 from rfl] at c4
    have e4 := put1_row hk z1 t v
    rw [z2] at e4
    have e5 := checkE_twice e1.symm
    rw [← e4] at e5
    generalize bputE T [⟨k, t, v⟩] = E4 at *
    generalize chL T E4 _ = T4 at *
    obtain ⟨n4, hn4⟩ : ∃ n, n = T4.length := ⟨_, rfl⟩
    replace c4 := fun la a G W h t' => makes_pts hn4 (c4 la a G W h t')
    clear hT htn hn4 eT lT sT chT e4 z1 z2 y1 y2 hA hPE hTE hP hsm ch hz hE
    replace e1 := hide e1
    go_enter Try.func8, Try.ntmps8
    go_wp2_with fail
    generalize w.alloc _ = w1 at *
    go_at_call 28
    refine (c0 _).mono ?_
    rintro e wx ⟨rfl, rfl⟩
    have d0 : w1.cell? ⟨w.heap.size, 0, none⟩ = some (.slice a0 cn cap0) := B0.cell 0
    have l0 := B0.lt
    go_wp2_with fail
    go_at_call 31
    refine (c1 _ _ _ S1).mono ?_
    rintro e w3 ⟨rfl, b3⟩
    replace B0 := B0.keep b3 B0.lt
    replace bel := belowCall bel b3
    replace S1 := S1.call b3
    clear b3 d0 l0 t1 c1 c0
    go_wp2_with fail
    have BP := Blk.laid w3 [.int .i64 P.1, .int .i64 P.2] 44 _ rfl
    replace B0 := B0.alc (.cells #[.int .i64 P.1, .int .i64 P.2] 44)
    replace bel := belowNew bel (.cells #[.int .i64 P.1, .int .i64 P.2] 44)
    replace S1 := S1.alloc (.cells #[.int .i64 P.1, .int .i64 P.2] 44)
    generalize w3.heap.size = gP at *
    generalize w3.alloc _ = w4 at *
    go_at_call 16
    refine (sh _).mono ?_
    rintro e w5 ⟨rfl, b5⟩
    replace B0 := B0.keep b5 B0.lt
    replace BP := BP.keep b5 BP.lt
    replace bel := belowCall bel b5
    replace S1 := S1.call b5
    clear b5 sh
    have d0 : w5.cell? ⟨w.heap.size, 0, none⟩ = some (.slice a0 cn cap0) := B0.cell 0
    have l0 := B0.lt
    go_wp2_with fail
    have te := entLaid w5 [⟨k, t, v⟩] #[.int .i64 k, .int .i64 t, .int .i64 v] rfl 49 _ rfl 1 rfl (by decide)
    replace BP := BP.alc (.cells #[.int .i64 k, .int .i64 t, .int .i64 v] 49)
    replace bel := belowNew bel (.cells #[.int .i64 k, .int .i64 t, .int .i64 v] 49)
    replace S1 := S1.alloc (.cells #[.int .i64 k, .int .i64 t, .int .i64 v] 49)
    go_at_call 11
    refine (c2 _ _ S1 te).mono ?_
    rintro e w6 ⟨a6, G6, rfl, s6, b6⟩
    replace BP := BP.keep b6 BP.lt
    replace bel := belowCall bel b6
    clear b6 te S1 d0 l0 B0 c2
    have p0 : w6.cell? ⟨gP, 0, none⟩ = some (.int .i64 P.1) := BP.cell 0
    have lP := BP.lt
    cases hb : sm with
    | true =>
      have hX := hsmX hb
      subst hb
      have hX' : ¬ t ≤ P.1 := by omega
      go_wp2_with fail
      replace bel := belowNew bel (.cells #[.slice a6 tn G6] 24)
      have BT := Blk.laid w6 [.slice a6 tn G6] 24 _ rfl
      replace s6 := s6.alloc (.cells #[.slice a6 tn G6] 24)
      clear p0 lP BP
      generalize w6.heap.size = g6 at *
      generalize w6.alloc _ = w7 at *
      go_at_call 31
      refine (c3 _ _ _ s6).mono ?_
      rintro e w8 ⟨rfl, b8⟩
      replace bel := belowCall bel b8
      replace s6 := s6.call b8
      replace BT := BT.keep b8 BT.lt
      clear b8 c3
      have d1 : w8.cell? ⟨g6, 0, none⟩ = some (.slice a6 tn G6) := BT.cell 0
      have l1 := BT.lt
      go_wp2_with fail
      replace bel := belowNew bel (.cells #[.int .i64 t, .int .i64 v] 44)
      replace s6 := s6.alloc (.cells #[.int .i64 t, .int .i64 v] 44)
      have hz9 : (w8.alloc (.cells #[.int .i64 t, .int .i64 v] 44)).heap.size = w8.heap.size + 1 := by simp
      generalize w8.heap.size = g8 at *
      generalize w8.alloc _ = w9 at *
      have te := entLaid w9 [⟨k, t, v⟩] #[.int .i64 k, .int .i64 t, .int .i64 v] rfl 49 (g8 + 1) hz9.symm 1 rfl (by decide)
      clear hz9
      replace bel := belowNew bel (.cells #[.int .i64 k, .int .i64 t, .int .i64 v] 49)
      go_at_call 11
      refine (c4 _ _ _ _ (s6.alloc _) te).mono ?_
      rintro e w10 ⟨a10, G10, rfl, s10, b10⟩
      replace bel := belowCall bel b10
      rcases e5 with e5 | e5
      · subst e5
        go_wp2_with fail
        go_ret
        exact ⟨rfl, bel⟩
      · subst e5
        go_wp2_with fail
        go_ret
        exact ⟨rfl, bel⟩
    | false =>
      subst hb
      go_wp2_with fail
      replace bel := belowNew bel (.cells #[.slice a6 tn G6] 24)
      have BT := Blk.laid w6 [.slice a6 tn G6] 24 _ rfl
      replace s6 := s6.alloc (.cells #[.slice a6 tn G6] 24)
      clear p0 lP BP
      generalize w6.heap.size = g6 at *
      generalize w6.alloc _ = w7 at *
      go_at_call 31
      refine (c3 _ _ _ s6).mono ?_
      rintro e w8 ⟨rfl, b8⟩
      replace bel := belowCall bel b8
      replace s6 := s6.call b8
      replace BT := BT.keep b8 BT.lt
      clear b8 c3
      have d1 : w8.cell? ⟨g6, 0, none⟩ = some (.slice a6 tn G6) := BT.cell 0
      have l1 := BT.lt
      go_wp2_with fail
      replace bel := belowNew bel (.cells #[.int .i64 t, .int .i64 v] 44)
      replace s6 := s6.alloc (.cells #[.int .i64 t, .int .i64 v] 44)
      have hz9 : (w8.alloc (.cells #[.int .i64 t, .int .i64 v] 44)).heap.size = w8.heap.size + 1 := by simp
      generalize w8.heap.size = g8 at *
      generalize w8.alloc _ = w9 at *
      have te := entLaid w9 [⟨k, t, v⟩] #[.int .i64 k, .int .i64 t, .int .i64 v] rfl 49 (g8 + 1) hz9.symm 1 rfl (by decide)
      clear hz9
      replace bel := belowNew bel (.cells #[.int .i64 k, .int .i64 t, .int .i64 v] 49)
      go_at_call 11
      refine (c4 _ _ _ _ (s6.alloc _) te).mono ?_
      rintro e w10 ⟨a10, G10, rfl, s10, b10⟩
      replace bel := belowCall bel b10
      rcases e5 with e5 | e5
      · subst e5
        go_wp2_with fail
        go_ret
        exact ⟨rfl, bel⟩
      · subst e5
        go_wp2_with fail
        go_ret
        exact ⟨rfl, bel⟩
  · have hPE2 := put1_more (L := L) hPE
    have c4 := fun la lc W (h : IsS W a0 cap0 C) (t' : SlW En.cells W la lc (⟨k, t, v⟩ :: L)) => put_is (⟨k, t, v⟩ :: L) la lc h t' (by rw [List.length_cons, ← hn1.out]; omega)
    simp only [ch] at c4
    simp only [← hcn.out, List.length_cons, ← hn1.out] at c4
    generalize bputE C [⟨k, t, v⟩] = E1 at *
    generalize bputE C (⟨k, t, v⟩ :: L) = E4 at *
    generalize chL C E1 _ = T at *
    generalize chL C E4 _ = T4 at *
    obtain ⟨tn, htn⟩ : ∃ n, n = T.length := ⟨_, rfl⟩
    obtain ⟨n4, hn4⟩ : ∃ n, n = T4.length := ⟨_, rfl⟩
    replace c2 := fun la W h t' => makes_pts htn (c2 la W h t')
    replace c4 := fun la lc W h t' => makes_pts hn4 (c4 la lc W h t')
    clear htn hn4 e1 hA hP hsm ch hz hE
    go_enter Try.func8, Try.ntmps8
    go_wp2_with fail
    generalize w.alloc _ = w1 at *
    go_at_call 28
    refine (c0 _).mono ?_
    rintro e wx ⟨rfl, rfl⟩
    have d0 : w1.cell? ⟨w.heap.size, 0, none⟩ = some (.slice a0 cn cap0) := B0.cell 0
    have l0 := B0.lt
    go_wp2_with fail
    go_at_call 31
    refine (c1 _ _ _ S1).mono ?_
    rintro e w3 ⟨rfl, b3⟩
    replace B0 := B0.keep b3 B0.lt
    replace bel := belowCall bel b3
    replace S1 := S1.call b3
    replace t1 := t1.call b3
    clear b3 d0 l0 c1 c0
    go_wp2_with fail
    have BP := Blk.laid w3 [.int .i64 P.1, .int .i64 P.2] 44 _ rfl
    replace B0 := B0.alc (.cells #[.int .i64 P.1, .int .i64 P.2] 44)
    replace bel := belowNew bel (.cells #[.int .i64 P.1, .int .i64 P.2] 44)
    replace S1 := S1.alloc (.cells #[.int .i64 P.1, .int .i64 P.2] 44)
    replace t1 := t1.alloc (.cells #[.int .i64 P.1, .int .i64 P.2] 44)
    generalize w3.heap.size = gP at *
    generalize w3.alloc _ = w4 at *
    go_at_call 16
    refine (sh _).mono ?_
    rintro e w5 ⟨rfl, b5⟩
    replace B0 := B0.keep b5 B0.lt
    replace BP := BP.keep b5 BP.lt
    replace bel := belowCall bel b5
    replace S1 := S1.call b5
    replace t1 := t1.call b5
    clear b5 sh
    have d0 : w5.cell? ⟨w.heap.size, 0, none⟩ = some (.slice a0 cn cap0) := B0.cell 0
    have l0 := B0.lt
    go_wp2_with fail
    have te := entLaid w5 [⟨k, t, v⟩] #[.int .i64 k, .int .i64 t, .int .i64 v] rfl 49 _ rfl 1 rfl (by decide)
    replace B0 := B0.alc (.cells #[.int .i64 k, .int .i64 t, .int .i64 v] 49)
    replace BP := BP.alc (.cells #[.int .i64 k, .int .i64 t, .int .i64 v] 49)
    replace bel := belowNew bel (.cells #[.int .i64 k, .int .i64 t, .int .i64 v] 49)
    replace S1 := S1.alloc (.cells #[.int .i64 k, .int .i64 t, .int .i64 v] 49)
    replace t1 := t1.alloc (.cells #[.int .i64 k, .int .i64 t, .int .i64 v] 49)
    go_at_call 11
    refine (c2 _ _ S1 te).mono ?_
    rintro e w6 ⟨a6, G6, rfl, s6, b6⟩
    replace B0 := B0.keep b6 B0.lt
    replace BP := BP.keep b6 BP.lt
    replace bel := belowCall bel b6
    replace S1 := S1.call b6
    replace t1 := t1.call b6
    clear b6 te d0 l0 c2 s6
    replace B0 := B0.alc (.cells #[.slice a6 tn G6] 24)
    replace BP := BP.alc (.cells #[.slice a6 tn G6] 24)
    replace bel := belowNew bel (.cells #[.slice a6 tn G6] 24)
    replace S1 := S1.alloc (.cells #[.slice a6 tn G6] 24)
    replace t1 := t1.alloc (.cells #[.slice a6 tn G6] 24)
    have h6 : w6.heap.size < (w6.alloc (.cells #[.slice a6 tn G6] 24)).heap.size := by simp
    go_upto_region 6 with fail
    generalize w6.heap.size = g6 at *
    generalize w6.alloc _ = w7 at *
    have p0 : w7.cell? ⟨gP, 0, none⟩ = some (.int .i64 P.1) := BP.cell 0
    have lP := BP.lt
    have d0 : w7.cell? ⟨w.heap.size, 0, none⟩ = some (.slice a0 cn cap0) := B0.cell 0
    have l0 := B0.lt
    have cat : ∀ W0, Below w7.heap.size w7 W0 → W0.heap.size = w7.heap.size → Calls Try.prog 40 #[.slice (some ⟨w7.heap.size + 1, 0, none⟩) 2 2] ((W0.alloc (.cells #[.int .i64 k, .int .i64 t, .int .i64 v] 49)).alloc (.cells #[.slice (some ⟨w7.heap.size, 0, none⟩) 1 1, .slice a1 n1 cap1] 25)) fun e w' => ∃ g G, e = .returned (.slice (some ⟨g, 0, none⟩) (n1 + 1) G) ∧ SlW En.cells w' (some ⟨g, 0, none⟩) G (⟨k, t, v⟩ :: L) ∧ w'.cell? ⟨w.heap.size, 0, none⟩ = some (.slice a0 cn cap0) ∧ Below w7.heap.size w7 w' := by
      intro W0 hW hsz
      have te := (entLaid W0 [⟨k, t, v⟩] #[.int .i64 k, .int .i64 t, .int .i64 v] rfl 49 w7.heap.size hsz.symm 1 rfl (by decide)).alloc (.cells #[.slice (some ⟨w7.heap.size, 0, none⟩) 1 1, .slice a1 n1 cap1] 25)
      have tl := ((t1.keep hW (Nat.le_refl _)).alloc (.cells #[.int .i64 k, .int .i64 t, .int .i64 v] 49)).alloc (.cells #[.slice (some ⟨w7.heap.size, 0, none⟩) 1 1, .slice a1 n1 cap1] 25)
      have Bq := Blk.laid (W0.alloc (.cells #[.int .i64 k, .int .i64 t, .int .i64 v] 49)) [.slice (some ⟨w7.heap.size, 0, none⟩) 1 1, .slice a1 n1 cap1] 25 (w7.heap.size + 1) (by rw [World.size_alloc, hsz])
      have hB2 : Below w7.heap.size w7 ((W0.alloc (.cells #[.int .i64 k, .int .i64 t, .int .i64 v] 49)).alloc (.cells #[.slice (some ⟨w7.heap.size, 0, none⟩) 1 1, .slice a1 n1 cap1] 25)) := belowNew (belowNew hW _) _
      refine (concatE (w7.heap.size + 1) (some ⟨w7.heap.size, 0, none⟩) a1 1 cap1 1 n1 _ _ _ (Bq.cell 0) (Bq.cell 1) te.row tl.row (by rw [flat_length En.three]; rfl) (by rw [flat_length En.three, hn1.out]) (fun e => by cases e) (fun e => ⟨by have := tl.nil e; omega, tl.nil e⟩) (ents_one _) (ents_one _) (by omega) (by omega) Bq.lt).mono ?_
      rintro e w' ⟨g, G, rfl, o, b⟩
      rw [← List.flatMap_append] at o
      obtain ⟨a3, G3, e3, s3, _, _⟩ := SlW.ofOwn En.three (by decide) o
      simp only [Value.slice.injEq, true_and] at e3
      obtain ⟨rfl, rfl⟩ := e3
      have hb := belowCall hB2 b
      exact ⟨g, G, by rw [Nat.add_comm], s3, (hb.cell (p := ⟨w.heap.size, 0, none⟩) l0).trans d0, hb⟩
    have c5 := fun la lc W (h : Below w7.heap.size w7 W) t' => c4 la lc W (S1.keep h (Nat.le_refl _)) t'
    have K0 : Below w7.heap.size w7 w7.drew := belowDrew (Below.refl _ _)
    have K1 := belowDrew (belowNew (Below.refl w7.heap.size w7) (.cells #[.int .i64 k, .int .i64 t, .int .i64 v] 49))
    have K2 := belowDrew (belowNew (belowNew (Below.refl w7.heap.size w7) (.cells #[.int .i64 k, .int .i64 t, .int .i64 v] 49)) (.cells #[.slice (some ⟨w7.heap.size, 0, none⟩) 1 1, .slice a1 n1 cap1] 25))
    by_cases ht : t ≤ P.1
    · cases sm <;> (
        go_wp2_with fail
        go_region_held3 (fun w' => w'.cell? ⟨w.heap.size, 0, none⟩ = some (.slice a0 cn cap0) ∧ Below w7.heap.size w7 w') (go_keep)
          (first
            | (go_at_call 40; refine (cat w7.drew K0 rfl).mono ?_; rintro e w8 ⟨g8, G8, rfl, s8, z0, z1⟩)
            | (go_at_call 11; refine (c5 _ _ _ z1 s8).mono ?_; rintro e w9 ⟨a9, G9, rfl, s9, b9⟩; have z2 := belowCall z1 b9; have z3 := (z2.cell (p := ⟨w.heap.size, 0, none⟩) l0).trans d0))
        all_goals go_wp2_with fail
        all_goals go_ret
        all_goals exact ⟨by simp [hPE2], bel.trans (z2.mono bel.size)⟩)
    · cases sm <;> (
        go_wp2_with fail
        go_region_held3 (fun w' => w'.cell? ⟨w.heap.size, 0, none⟩ = some (.slice a0 cn cap0) ∧ Below w7.heap.size w7 w') (go_keep)
          (first
            | (go_at_call 40; refine (cat w7.drew K0 rfl).mono ?_; rintro e w8 ⟨g8, G8, rfl, s8, z0, z1⟩)
            | (go_at_call 11; refine (c5 _ _ _ z1 s8).mono ?_; rintro e w9 ⟨a9, G9, rfl, s9, b9⟩; have z2 := belowCall z1 b9; have z3 := (z2.cell (p := ⟨w.heap.size, 0, none⟩) l0).trans d0))
        all_goals go_wp2_with fail
        all_goals go_ret
        all_goals exact ⟨by simp [hPE2], bel.trans (z2.mono bel.size)⟩)

theorem walk (w : World) (a0 : Option Addr) (cap0 : Nat) (l : List Lr) (s0 : SlR w a0 cap0 l) (r0 : cap0 * 48 ≤ 140737488351232) (s : Int) (ws : (Lit.int .i64 s).wf = true) (t : Int) (wt : (Lit.int .i64 t).wf = true) (v : Int) (wv : (Lit.int .i64 v).wf = true) (a1 : Option Addr) (cap1 : Nat) (L : List En) (s1 : SlW En.cells w a1 cap1 L) (wf1 : ∀ x ∈ L, x.Wf) (r1 : cap1 * 24 ≤ 140737488351232) :
    Calls Try.prog 8 #[.agg #[.slice a0 l.length cap0], .int .i64 s, .int .i64 t, .int .i64 v, .slice a1 L.length cap1] w fun e w' => e = .returned (.bool true) ∧ Below w.heap.size w w' := by
  obtain ⟨k, hk, ek⟩ : ∃ k : Nat, k < 4 ∧ s % 4 = k := ⟨(s % 4).toNat, by omega, by omega⟩
  have S0 := IsS.of s0
  have hcn : l.length = (l.map Lr.rw).length := by rw [List.length_map]
  by_cases hE : allE (l.map Lr.rw) k = 0
  · exact walkG w a0 cap0 l.length _ hcn S0 s t v a1 cap1 L.length L rfl s1 r1 k hk ek hE
  · exact walkB w a0 cap0 l.length _ hcn S0 s t v a1 cap1 L.length k ek hE

set_option maxRecDepth 100000 in
theorem lifted (os : Os) (started : os.Started) (H : Type) (enc : TypeId × Value → H) :
    ReturnsInHanded {} Try.checked os 8 .any (Rows.shelfLastSpec.pre6 enc Try.prog Try.f8 Rows.shelfLastRow.domain false) (Rows.shelfLastSpec.post enc Try.prog Try.f8 false true false false) := by
  refine returnsInHanded_of_change_sized (C := Try.checked) own started (by kernel_rfl) Try.func8
    (ChangeSpec.witness6 (enc := enc) (C := Try.checked) false ⟨#[], #[.agg #[.slice none 0 0], .int .i64 0, .int .i64 0, .int .i64 0, .slice none 0 0], []⟩ 8 (by kernel_rfl) (by kernel_rfl) (by kernel_rfl) (by kernel_rfl)) ?_
  intro W base args ds gs before hval0 hW hcnd hsz0 _
  have hsz : (DataW.weightsEach Try.prog (Try.f8.params.toList ++ Rows.shelfLastSpec.plain.varTypes Try.prog) (ds ++ gs)).all (· ≤ reachBytes) = true := hsz0
  have hval : ∀ (j : Nat) t v, Try.f8.params[j]? = some t → args[j]? = some v → Value.okWide Try.prog W .any base t v := hval0
  have hW' := hW
  obtain ⟨p, q, hA0, hV, rfl, hfz, hnd⟩ := hW
  have hA : DataW.TrodAll enc Try.prog W 0 (fun _ => true) true Try.f8.params.toList args.toList ds p := hA0
  rw [Try.params8] at hA hval hsz
  obtain ⟨v0, vs0, d0, ds0, p0, q0, hargs, rfl, rfl, h0, r0⟩ := trodAll_cons hA
  obtain ⟨v1, vs1, d1, ds1, p1, q1, rfl, rfl, rfl, h1, r1⟩ := trodAll_cons r0
  obtain ⟨v2, vs2, d2, ds2, p2, q2, rfl, rfl, rfl, h2, r2⟩ := trodAll_cons r1
  obtain ⟨v3, vs3, d3, ds3, p3, q3, rfl, rfl, rfl, h3, r3⟩ := trodAll_cons r2
  obtain ⟨v4, vs4, d4, ds4, p4, q4, rfl, rfl, rfl, h4, r4⟩ := trodAll_cons r3
  obtain ⟨rfl, rfl, rfl⟩ := trodAll_nil r4
  obtain rfl : args = #[v0, v1, v2, v3, v4] := by cases args; simp_all
  obtain ⟨rfl, rfl⟩ := trodVars_none hV
  have k0 := h0
  have lt0 : ∀ x ∈ p0, x.block < W.heap.size := by obtain ⟨m, hm⟩ := k0; exact DataW.trod_lt m _ _ _ hm
  obtain ⟨l0, a0, cap0, rfl, s0, reach0⟩ := open_shelf (hval 0 24 v0 rfl rfl) h0 (light_of (j := 0) hsz rfl rfl)
  obtain ⟨a1, rfl, rfl, rfl, w1⟩ := open_int Try.underlying3 (hval 1 3 v1 rfl rfl) h1
  obtain ⟨a2, rfl, rfl, rfl, w2⟩ := open_int Try.underlying3 (hval 2 3 v2 rfl rfl) h2
  obtain ⟨a3, rfl, rfl, rfl, w3⟩ := open_int Try.underlying3 (hval 3 3 v3 rfl rfl) h3
  obtain ⟨a4, len4, cap4, rfl⟩ := okWide_slice Try.underlying25 (hval 4 25 v4 rfl rfl)
  have k4 := h4
  have lt4 : ∀ x ∈ p4, x.block < W.heap.size := by obtain ⟨m, hm⟩ := k4; exact DataW.trod_lt m _ _ _ hm
  obtain ⟨l4, rfl, s4, wf4, reach4⟩ := open_entries h4 (light_of (j := 4) hsz rfl rfl)
  clear hA0 hval0 hsz0
  refine (walk W a0 cap0 l0 s0 reach0 a1 w1 a2 w2 a3 w3 a4 cap4 l4 s4 wf4 reach4).mono fun e W' ⟨he, bel⟩ => ?_
  subst he
  exact ⟨_, rfl, _, _, _, [], _, [], hW', trodAll_mk1 (shut_bool Try.underlying4 _), (trodAll_cons_mk (Below.trod laidOut (by kernel_rfl) (of_decide_eq_true (by kernel_rfl)) k0 bel lt0) (trodAll_cons_mk (shut_int Try.underlying3 w1) (trodAll_cons_mk (shut_int Try.underlying3 w2) (trodAll_cons_mk (shut_int Try.underlying3 w3) (trodAll_cons_mk (Below.trod laidOut (by kernel_rfl) (of_decide_eq_true (by kernel_rfl)) k4 bel lt4) trodAll_mk0))))), rfl, bel.frame _, fun h => by cases h⟩

theorem over : Rows.shelfLastRow.holds Try.pinned (OpenSpec.ofChange Rows.shelfLastSpec) :=
  OpenClaim.holds_of_wide 8 Try.f8 rfl rfl rfl rfl rfl rfl rfl ⟨rfl, rfl, rfl, rfl, rfl⟩ rfl rfl rfl rfl rfl (by kernel_rfl) Try.func8 (by kernel_rfl)
    (of_decide_eq_true (by kernel_rfl)) (by unfold Func.isWrapper; first | (rw [if_pos (by decide +kernel)]; kernel_rfl) | (rw [if_neg (by decide +kernel)]; exact ⟨rfl, rfl⟩))
    (fun os started H enc _ => lifted os started H enc)
end Go.Proofs.Ytgncadehaificaa.shelfLast

namespace Go.Proofs.Ytgncadehaificaa
theorem shelfLast_holds : Rows.ShelfLastSaid := shelfLast.over
#print axioms shelfLast_holds
end Go.Proofs.Ytgncadehaificaa
