/-
  shelf.All and shelf.New.
-/
import Derived.Test.YtnpikbpngohimaaP12
import Derived.Test.YtnpikbpngohimaaP01
import Derived.Test.YtnpikbpngohimaaP05
namespace Go.Proofs.Ytnpikbpngohimaa
open Go.RowKit

set_option maxHeartbeats 400000 in
set_option maxRecDepth 100000 in
theorem sNew_any (w : World) :
    Calls Try.prog 20 #[] w fun e w' => ∃ a' G, e = .returned (.agg #[.slice a' 4 G]) ∧ SlR w' a' G fresh4 ∧ Below w.heap.size w w' := by
  obtain ⟨i0, hi, hz0, hz1, hz2⟩ := info_parts infoR
  have B0 := Blk.laid w [.slice none 0 0] 24 _ rfl
  go_enter Try.func20, Try.ntmps20
  go_wp2_with (at_make; refine wpList_make_full _ rfl (.const (.int .i64 4)) (.const (.int .i64 4)) 22 rfl (w.heap.size + 1) 41 i0 (.agg #[.slice none 0 0, .slice none 0 0]) 2 Try.underlying22 hi hz0 hz1 _ _ _ _ 4 rfl rfl rfl rfl (by rw [hz2]; omega) (by unfold maxLen; omega) (by simp) ?_)
  intro w1 own grow
  rw [show (madeCells #[Value.slice none 0 0, Value.slice none 0 0] 8).toList = fresh4.flatMap Lr.cells by kernel_rfl] at own
  have bel : Below w.heap.size w w1 := ((Below.refl _ _).alloc (Nat.le_refl _) _).grown grow (by simp) (fun k h => by cases h)
  have B1 := B0.grown grow (fun k h => by cases h)
  have f0 := B1.free 0
  have d0 : w1.cell? ⟨w.heap.size, 0, none⟩ = some (.slice none 0 0) := B1.cell 0
  have hgl := B1.lt
  go_wp2_with fail
  have own2 := own.kept (row := some w.heap.size) (grownSet (grownRefl w1 (some w.heap.size)) 0 (.slice (some ⟨w.heap.size + 1, 0, none⟩) 4 4)) (.inr (by intro e; have : w.heap.size + 1 = w.heap.size := Option.some.inj e; omega))
  obtain ⟨a9, c9, ev, s9, _, _⟩ := SlW.ofOwn Lr.two (by decide) own2
  simp only [Value.slice.injEq, true_and] at ev
  obtain ⟨rfl, rfl⟩ := ev
  refine bodyPost_ret (v := .agg #[.slice (some ⟨w.heap.size + 1, 0, none⟩) 4 4]) (by simp [results, Try.results20, go_sem, d0]) rfl ?_
  refine ⟨_, _, rfl, ⟨s9, fun r hr => ?_⟩, bel.setCell (Nat.le_refl _) _⟩
  simp only [fresh4, List.mem_cons, List.not_mem_nil, or_false, or_self] at hr
  subst hr
  exact lr0_good _

def allE (l : List Rw) (s : Int) : Int := if shelfE l = 0 then (if inI s 0 3 = false then 5 else 0) else shelfE l

def allL (l : List Rw) (s : Int) : List Pt := if allE l s = 0 then allPts (l.getD s.toNat rw0) else []

set_option maxHeartbeats 400000 in
set_option maxRecDepth 100000 in
/-- All, whatever it is handed: the points lie in memory of the call's own. -/
theorem sAll_any (l : List Lr) (ao : Option Addr) (cap : Nat) (s : Int) (w : World) (hs : SlR w ao cap l) :
    Calls Try.prog 10 #[.agg #[.slice ao l.length cap], .int .i64 s] w fun e w' => ∃ a' G, e = .returned (.tuple #[.slice a' (allL (l.map Lr.rw) s).length G, .int .i64 (allE (l.map Lr.rw) s)]) ∧
      w'.ownsRow w.heap.size 44 2 (.slice a' (allL (l.map Lr.rw) s).length G) (allL (l.map Lr.rw) s).length (cellsP (allL (l.map Lr.rw) s)) ∧ Below w.heap.size w w' := by
  have c1 := fun W h => sCheck_any l ao cap W h
  have c2 := fun W => isSeries_any s W
  have hs1 := fun o => hs.alloc o
  obtain ⟨A, hA⟩ : ∃ A, A = allL (l.map Lr.rw) s := ⟨_, rfl⟩
  rw [← hA]
  by_cases hE : shelfE (l.map Lr.rw) = 0
  · by_cases hi : inI s 0 3 = true
    · have e1 : allE (l.map Lr.rw) s = 0 := by unfold allE; rw [if_pos hE, hi]; rfl
      obtain ⟨h4, hrows⟩ := shelfE_zero hE
      rw [List.length_map] at h4
      have hin : 0 ≤ s ∧ s ≤ 3 := by unfold inI at hi; simpa using hi
      obtain ⟨k, rfl⟩ : ∃ k : Nat, s = k := ⟨s.toNat, by omega⟩
      have hk : k < 4 := by omega
      obtain ⟨x, hx⟩ : ∃ x, l[k]? = some x := ⟨_, List.getElem?_eq_getElem (by omega)⟩
      have hxr : rowE x.rw = 0 := rowsE_zero hrows x.rw (List.mem_map.2 ⟨x, List.mem_of_getElem? hx, rfl⟩)
      obtain ⟨z1, z2, z3⟩ := rowE_zero hxr
      have hA2 : A = rpts x.rw := by
        rw [hA]; unfold allL rpts; rw [if_pos e1, if_pos z2, Int.toNat_natCast]
        congr 1
        simp [List.getD, List.getElem?_map, hx]
      have c3 := fun W h => sPoints_any x W h (by unfold Lr.rw at z1; simpa using z1)
      rw [← hA2, z2] at c3
      rw [hE] at c1
      rw [e1]
      rw [hi] at c2
      rw [h4] at c1 ⊢
      obtain ⟨b, off, rfl, hbw⟩ := hs.where (by intro e; rw [e] at h4; simp at h4)
      unfold Lr.v at c3
      replace h4 := hide h4
      replace hx := hide hx
      clear hA2 hA hE hi e1 hrows hxr z1 z2 z3 hin
      have B0 := Blk.laid w [.slice (some ⟨b, off, none⟩) 4 cap] 24 _ rfl
      have bel0 : Below w.heap.size w (w.alloc (.cells #[.slice (some ⟨b, off, none⟩) 4 cap] 24)) := (Below.refl _ _).alloc (Nat.le_refl _) _
      replace hs1 := hs1 (.cells #[.slice (some ⟨b, off, none⟩) 4 cap] 24)
      go_enter Try.func10, Try.ntmps10
      go_wp2_with fail
      generalize w.alloc _ = w1 at *
      go_at_call 17
      refine (c1 _ hs1).mono ?_
      rintro e w2 ⟨rfl, b2⟩
      have hs2 := hs1.call b2
      have B2 := B0.keep b2 B0.lt
      have bel2 := belowCall bel0 b2
      have d0 : w2.cell? ⟨w.heap.size, 0, none⟩ = some (.slice (some ⟨b, off, none⟩) 4 cap) := B2.cell 0
      obtain ⟨e0, e1, gr⟩ := hs2.at k x hx.out
      clear b2 hs1 B0 bel0
      go_wp2_with fail
      go_at_call 41
      refine (c2 _).mono ?_
      rintro e w3 ⟨rfl, rfl⟩
      go_wp2_with fail
      go_at_call 42
      refine (c3 _ gr).mono ?_
      rintro e w4 ⟨a4, G4, rfl, own4, b4⟩
      have bel4 := belowCall bel2 b4
      have own5 := ownBase own4 bel2.size
      go_wp2_with fail
      go_ret2
      exact ⟨_, _, rfl, own5, bel4⟩
    · have hi : inI s 0 3 = false := by simpa using hi
      have e1 : allE (l.map Lr.rw) s = 5 := by unfold allE; rw [if_pos hE, hi]; rfl
      obtain rfl : A = [] := by rw [hA]; unfold allL; rw [e1]; rfl
      rw [e1]
      rw [hE] at c1
      rw [hi] at c2
      clear hA hE e1 hi
      generalize l.length = n at *
      go_enter Try.func10, Try.ntmps10
      go_wp2_with fail
      go_at_call 17
      refine (c1 _ (hs1 _)).mono ?_
      rintro e w2 ⟨rfl, b2⟩
      have bel2 := belowCall (belowNew (Below.refl _ w) _) b2
      go_wp2_with fail
      go_at_call 41
      refine (c2 _).mono ?_
      rintro e w3 ⟨rfl, rfl⟩
      go_wp2_with fail
      go_ret2
      exact ⟨none, 0, rfl, World.ownsRow_nil _ _ _ _, bel2⟩
  · have e1 : allE (l.map Lr.rw) s = shelfE (l.map Lr.rw) := by unfold allE; rw [if_neg hE]
    obtain rfl : A = [] := by rw [hA]; unfold allL; rw [e1, if_neg hE]
    rw [e1]
    clear hA e1
    generalize shelfE (l.map Lr.rw) = E at *
    generalize l.length = n at *
    go_enter Try.func10, Try.ntmps10
    go_wp2_with fail
    go_at_call 17
    refine (c1 _ (hs1 _)).mono ?_
    rintro e w2 ⟨rfl, b2⟩
    have bel2 := belowCall (belowNew (Below.refl _ w) _) b2
    go_wp2_with fail
    go_ret2
    exact ⟨none, 0, rfl, World.ownsRow_nil _ _ _ _, bel2⟩

end Go.Proofs.Ytnpikbpngohimaa

/-
  slices.Equal, at bools: it returns whether the two lists are the same; it only reads.
-/
namespace Go.Proofs.Ytnpikbpngohimaa
open Go.RowKit

set_option maxHeartbeats 1000000 in
set_option maxRecDepth 100000 in
theorem equalBool (a1 a2 : Option Addr) (c1 c2 : Nat) (l m : List Bool) (w : World) (r1 : Row w a1 (l.map Value.bool)) (r2 : Row w a2 (m.map Value.bool)) (hl : l.length ≤ 4611686018427387904) (hm : m.length ≤ 4611686018427387904) :
    Calls Try.prog 89 #[.slice a1 l.length c1, .slice a2 m.length c2] w fun e w' => e = .returned (.bool (decide (l = m))) ∧ ∃ q, w' = w.drewN q := by
  by_cases hnm : l.length = m.length
  · generalize hn : l.length = n at *
    have hm' := hnm.symm
    rw [hm'] at hm ⊢
    by_cases h0 : n = 0
    · subst h0
      obtain rfl := List.eq_nil_of_length_eq_zero hn
      obtain rfl := List.eq_nil_of_length_eq_zero hm'
      clear hn hm' hnm hl hm r1 r2
      go_enter Try.func89, Try.ntmps89
      go_wp2
      refine wp_loop_rounds 1 ?_
      rw [rounds_succ]
      go_wp2
      go_ret
      exact ⟨rfl, 0, rfl⟩
    obtain ⟨b1, o1, rfl, -, k1⟩ := r1.at (by intro h; simp at h; subst h; simp at hn; omega)
    obtain ⟨b2, o2, rfl, -, k2⟩ := r2.at (by intro h; simp at h; subst h; simp at hm'; omega)
    have g1 := fun k hk => boolAt k1 k hk
    have g2 := fun k hk => boolAt k2 k hk
    clear k1 k2 r1 r2
    have HL : Hid (l.length = n) := hn
    have HM : Hid (m.length = n) := hm'
    clear hn hm' hnm
    go_enter Try.func89, Try.ntmps89
    go_wp2
    go_loopg [13] n (fun g s13 wr => ∃ k q : Nat, k ≤ n ∧ n - k ≤ g ∧ s13 = .int .i64 k ∧ wr = w.drewN q ∧ Hid (∀ j, j < k → l.getD j false = m.getD j false))
    case atStart => exact ⟨0, 0, Nat.zero_le _, by omega, rfl, rfl, fun j hj => absurd hj (Nat.not_lt_zero _)⟩
    case round =>
      obtain ⟨k, q, hk, hg, rfl, rfl, A⟩ := hrel
      by_cases hlt : k < n
      · have e1 := g1 k (by rw [HL.out]; exact hlt)
        have e2 := g2 k (by rw [HM.out]; exact hlt)
        clear g1 g2
        generalize hx : l.getD k false = x at e1
        generalize hy : m.getD k false = y at e2
        have B : Hid (l.getD k false = x ∧ m.getD k false = y) := ⟨hx, hy⟩
        clear hx hy
        cases hxy : (x == y) with
        | true =>
          obtain rfl : x = y := by simpa using hxy
          clear hxy
          go_wp2_with fail
          go_region
          all_goals go_wp2
          all_goals go_roundg (n - (k + 1))
          case measure => omega
          case rel =>
            refine ⟨k + 1, q + 1, by omega, by omega, by go_num, rfl, (show Hid _ from fun j hj => ?_)⟩
            by_cases e : j = k
            · subst e
              rw [B.out.1, B.out.2]
            · exact A.out j (by omega)
        | false =>
          go_wp2_with fail
          go_region
          all_goals go_wp2
          all_goals go_ret
          refine ⟨?_, q + 1, rfl⟩
          have hne : l ≠ m := listNe (d := false) (k := k) (by rw [B.out.1, B.out.2]; simpa using hxy)
          simp [hne]
      · have : k = n := by omega
        subst this
        clear g1 g2
        go_wp2
        go_ret
        refine ⟨?_, q, rfl⟩
        have he : l = m := listEq (d := false) (HL.out.trans HM.out.symm) (fun j hj => A.out j (by rw [← HL.out]; exact hj))
        simp [he]
  · have hnm' : ¬ (l.length : Int) = (m.length : Int) := by omega
    have hne : l ≠ m := fun e => hnm (by rw [e])
    clear r1 r2
    have H : Hid (l ≠ m) := hne
    clear hne
    generalize l.length = x at *
    generalize m.length = y at *
    go_enter Try.func89, Try.ntmps89
    go_wp2
    go_ret
    refine ⟨?_, 0, rfl⟩
    simp [H.out]

end Go.Proofs.Ytnpikbpngohimaa

/-
  block.Same: are all fields of two blocks alike?
-/
namespace Go.Proofs.Ytnpikbpngohimaa
open Go.RowKit

set_option maxHeartbeats 400000 in
set_option maxRecDepth 100000 in
theorem same_any (a b : Bk) (ao bo : Option Addr) (ca cb : Nat) (w : World) (ha : Sl w ao ca (a.bits.map Value.bool)) (hb : Sl w bo cb (b.bits.map Value.bool)) (la : a.bits.length ≤ 140737488355328) (lb : b.bits.length ≤ 140737488355328) :
    Calls Try.prog 88 #[bkV a ao ca, bkV b bo cb] w fun e w' => e = .returned (.bool (sameB a b)) ∧ Below w.heap.size w w' := by
  obtain ⟨an, af, aT, X⟩ := a
  obtain ⟨bn, bf, bT, Y⟩ := b
  unfold bkV sameB
  simp only at *
  have c1 := fun W h k => equalBool ao bo ca cb X Y W h k (by omega) (by omega)
  generalize decide (X = Y) = D at *
  clear la lb
  have sa := fun o1 o2 => (ha.alloc o1).alloc o2
  have sb := fun o1 o2 => (hb.alloc o1).alloc o2
  by_cases h1 : an = bn
  · subst h1
    by_cases h2 : af = bf
    · subst h2
      by_cases h3 : aT = bT
      · subst h3
        go_enter Try.func88, Try.ntmps88
        go_wp2_with fail
        go_at_call 89
        refine (c1 _ (sa _ _).row (sb _ _).row).mono ?_
        rintro e w1 ⟨rfl, q, rfl⟩
        go_wp2_with fail
        go_ret
        exact ⟨by simp, belowDrewN (below2 w _ _) q⟩
      · go_enter Try.func88, Try.ntmps88
        go_wp2_with fail
        go_ret
        exact ⟨by simp [h3], below2 w _ _⟩
    · go_enter Try.func88, Try.ntmps88
      go_wp2_with fail
      go_ret
      exact ⟨by simp [h2], below2 w _ _⟩
  · go_enter Try.func88, Try.ntmps88
    go_wp2_with fail
    go_ret
    exact ⟨by simp [h1], below2 w _ _⟩

end Go.Proofs.Ytnpikbpngohimaa

/-
  slices.Equal, at points: it returns whether the two lists are the same; it only reads.
-/
namespace Go.Proofs.Ytnpikbpngohimaa
open Go.RowKit

theorem hide' {p : Prop} (h : p) : Hid p := h

set_option maxHeartbeats 1000000 in
set_option maxRecDepth 100000 in
theorem equalPt (a1 a2 : Option Addr) (c1 c2 : Nat) (l m : List Pt) (w : World) (r1 : SlP w a1 c1 l) (r2 : SlP w a2 c2 m) (hl : l.length ≤ 4611686018427387904) (hm : m.length ≤ 4611686018427387904) :
    Calls Try.prog 27 #[.slice a1 l.length c1, .slice a2 m.length c2] w fun e w' => e = .returned (.bool (decide (l = m))) ∧ ∃ q, w' = w.drewN q := by
  by_cases hnm : l.length = m.length
  · generalize hn : l.length = n at *
    have hm' := hnm.symm
    rw [hm'] at hm ⊢
    by_cases h0 : n = 0
    · subst h0
      obtain rfl := List.eq_nil_of_length_eq_zero hn
      obtain rfl := List.eq_nil_of_length_eq_zero hm'
      clear hn hm' hnm hl hm r1 r2
      go_enter Try.func27, Try.ntmps27
      go_wp2
      refine wp_loop_rounds 1 ?_
      rw [rounds_succ]
      go_wp2
      go_ret
      exact ⟨rfl, 0, rfl⟩
    obtain ⟨b1, o1, rfl, -⟩ := r1.where (by intro h; subst h; simp at hn; omega)
    obtain ⟨b2, o2, rfl, -⟩ := r2.where (by intro h; subst h; simp at hm'; omega)
    have g1 := fun k hk => r1.pt k hk
    have g2 := fun k hk => r2.pt k hk
    clear r1 r2
    have HL : Hid (l.length = n) := hn
    have HM : Hid (m.length = n) := hm'
    clear hn hm' hnm
    go_enter Try.func27, Try.ntmps27
    go_wp2
    go_loopg [13] n (fun g s13 wr => ∃ k q : Nat, k ≤ n ∧ n - k ≤ g ∧ s13 = .int .i64 k ∧ wr = w.drewN q ∧ Hid (∀ j : Nat, j < k → l[j]? = m[j]?))
    case atStart => exact ⟨0, 0, Nat.zero_le _, by omega, rfl, rfl, fun j hj => absurd hj (Nat.not_lt_zero _)⟩
    case round =>
      obtain ⟨k, q, hk, hg, rfl, rfl, A⟩ := hrel
      by_cases hlt : k < n
      · obtain ⟨x, y, e1, e2, hx, -⟩ := g1 k (by rw [HL.out]; exact hlt)
        obtain ⟨x', y', e3, e4, hy, -⟩ := g2 k (by rw [HM.out]; exact hlt)
        clear g1 g2
        have B : Hid (l[k]? = some (x, y) ∧ m[k]? = some (x', y')) := ⟨hx, hy⟩
        clear hx hy
        by_cases hxy : x = x' ∧ y = y'
        · obtain ⟨rfl, rfl⟩ := hxy
          go_wp2_with fail
          go_region
          all_goals go_wp2
          all_goals go_roundg (n - (k + 1))
          case measure => omega
          case rel =>
            refine ⟨k + 1, q + 1, by omega, by omega, by go_num, rfl, (show Hid _ from fun j hj => ?_)⟩
            by_cases e : j = k
            · subst e
              rw [B.out.1, B.out.2]
            · exact A.out j (by omega)
        · have hne : l ≠ m := fun h => hxy (by have h2 := B.out.2; rw [← h, B.out.1] at h2; simpa using h2)
          have HN := hide' hne
          clear hne
          by_cases hx : x = x'
          · subst hx
            have hy : ¬ y = y' := fun h => hxy ⟨rfl, h⟩
            clear hxy
            go_wp2_with fail
            go_region
            all_goals go_wp2
            all_goals go_ret
            refine ⟨?_, q + 1, rfl⟩
            simp [HN.out]
          · clear hxy
            go_wp2_with fail
            go_region
            all_goals go_wp2
            all_goals go_ret
            refine ⟨?_, q + 1, rfl⟩
            simp [HN.out]
      · have : k = n := by omega
        subst this
        clear g1 g2
        go_wp2
        go_ret
        refine ⟨?_, q, rfl⟩
        have he : l = m := by
          apply List.ext_getElem?
          intro i
          by_cases hi : i < k
          · exact A.out i hi
          · rw [List.getElem?_eq_none (by rw [HL.out]; omega), List.getElem?_eq_none (by rw [HM.out]; omega)]
        simp [he]
  · have hnm' : ¬ (l.length : Int) = (m.length : Int) := by omega
    have hne : l ≠ m := fun e => hnm (by rw [e])
    clear r1 r2
    have H : Hid (l ≠ m) := hne
    clear hne
    generalize l.length = x at *
    generalize m.length = y at *
    go_enter Try.func27, Try.ntmps27
    go_wp2
    go_ret
    refine ⟨?_, 0, rfl⟩
    simp [H.out]

end Go.Proofs.Ytnpikbpngohimaa
