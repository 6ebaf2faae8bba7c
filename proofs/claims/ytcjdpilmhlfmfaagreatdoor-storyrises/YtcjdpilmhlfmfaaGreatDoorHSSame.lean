/-
  shelf.Same: are two shelves alike, whatever they are?
-/
import Derived.Test.YtcjdpilmhlfmfaaGreatDoorP11
import Derived.Test.YtcjdpilmhlfmfaaGreatDoorP35
namespace Go.Proofs.YtcjdpilmhlfmfaaGreatDoor
open Go.RowKit

theorem sameBs_lenp : ∀ l m, sameBs l m = true → l.length = m.length
  | [], [], _ => rfl
  | x :: r, y :: s, h => by
    rw [sameBs, Bool.and_eq_true] at h
    rw [List.length_cons, List.length_cons, sameBs_lenp r s h.2]
  | [], y :: s, h => by cases h
  | x :: r, [], h => by cases h

set_option maxHeartbeats 400000 in
set_option maxRecDepth 100000 in
theorem eqFuncBp (l m : List Lb) (a1 a2 : Option Addr) (c1 c2 : Nat) (w : World) (h1 : SlB w a1 c1 l) (h2 : SlB w a2 c2 m) (hl : l.length ≤ 140737488355328) :
    Calls Tryz.prog 82 #[.slice a1 l.length c1, .slice a2 m.length c2, .func (.func 140) #[] #[]] w fun e w' => e = .returned (.bool (sameBs (l.map Lb.b) (m.map Lb.b))) ∧ Below w.heap.size w w' := by
  by_cases hne : l.length = m.length
  · obtain ⟨D, hD⟩ : ∃ D, D = sameBs (l.map Lb.b) (m.map Lb.b) := ⟨_, rfl⟩
    rw [← hD]
    have H0 : Hid (D = sameBs ((l.drop 0).map Lb.b) ((m.drop 0).map Lb.b)) := by rw [List.drop_zero, List.drop_zero]; exact hD
    clear hD
    rw [← hne]
    obtain ⟨n, hn⟩ : ∃ n, n = l.length := ⟨_, rfl⟩
    rw [← hn] at hne hl ⊢
    replace hn := hide hn
    replace hne := hide hne
    have bel0 := Below.refl w.heap.size w
    go_enter Tryz.func82, Tryz.ntmps82
    go_wp2_with fail
    go_loopw [17] (fun i wr => ∃ (k : Nat), k ≤ n ∧ i = .int .i64 k ∧ Hid (D = sameBs ((l.drop k).map Lb.b) ((m.drop k).map Lb.b)) ∧ Below w.heap.size w wr) (fun i _ => n - (intOf i).toNat)
    case atStart => exact ⟨0, by omega, rfl, H0, bel0⟩
    case round =>
      clear H0 bel0
      obtain ⟨k, hk, rfl, H0, bel⟩ := hrel
      by_cases hlt : k < n
      · have hs1 := h1.keep bel (Nat.le_refl _)
        have hs2 := h2.keep bel (Nat.le_refl _)
        obtain ⟨b1, o1, rfl, hb1⟩ := hs1.where (by intro e; rw [hn.out, e] at hlt; simp at hlt)
        obtain ⟨b2, o2, rfl, hb2⟩ := hs2.where (by intro e; rw [hne.out, e] at hlt; simp at hlt)
        obtain ⟨x, hx⟩ : ∃ x, l[k]? = some x := ⟨_, List.getElem?_eq_getElem (by rw [← hn.out]; exact hlt)⟩
        obtain ⟨y, hy⟩ : ∃ y, m[k]? = some y := ⟨_, List.getElem?_eq_getElem (by rw [← hne.out]; exact hlt)⟩
        obtain ⟨e0, e1, e2, e3, gx⟩ := hs1.at k x hx
        obtain ⟨f0, f1, f2, f3, gy⟩ := hs2.at k y hy
        have hd1 : l.drop k = x :: l.drop (k + 1) := by
          obtain ⟨hk', rfl⟩ := List.getElem?_eq_some_iff.1 hx
          exact List.drop_eq_getElem_cons hk'
        have hd2 : m.drop k = y :: m.drop (k + 1) := by
          obtain ⟨hk', rfl⟩ := List.getElem?_eq_some_iff.1 hy
          exact List.drop_eq_getElem_cons hk'
        have H0' := H0.out
        rw [hd1, hd2, List.map_cons, List.map_cons, sameBs] at H0'
        have c1 := fun W (h : x.Good W) (k : y.Good W) => same_any x.b y.b x.a y.a x.c y.c W h.bits k.bits h.few k.few
        unfold bkV at c1
        clear H0 hd1 hd2 hx hy hs1 hs2
        have sx := fun o1 o2 => (gx.alloc o1).alloc o2
        have sy := fun o1 o2 => (gy.alloc o1).alloc o2
        cases hS : sameB x.b y.b with
        | true =>
          rw [hS, Bool.true_and] at H0'
          rw [hS] at c1
          replace H0' := hide H0'
          clear hS
          go_wp2_with fail
          go_at_call 140
          refine (c1 _ (sx _ _) (sy _ _)).mono ?_
          rintro e w2 ⟨rfl, b2⟩
          have bel2 := belowCall (belowNew (belowNew bel _) _) b2
          go_wp2_with fail
          go_roundw
          case rel => exact ⟨k + 1, by omega, by go_num, H0', bel2⟩
          case measure => simp [intOf]; omega
        | false =>
          rw [hS, Bool.false_and] at H0'
          rw [hS] at c1
          replace H0' := hide H0'
          clear hS
          go_wp2_with fail
          go_at_call 140
          refine (c1 _ (sx _ _) (sy _ _)).mono ?_
          rintro e w2 ⟨rfl, b2⟩
          have bel2 := belowCall (belowNew (belowNew bel _) _) b2
          go_wp2_with fail
          go_ret
          exact ⟨by rw [H0'.out]; rfl, bel2⟩
      · obtain rfl : k = n := by omega
        have H0' := H0.out
        rw [List.drop_eq_nil_of_le (by rw [hn.out]; exact Nat.le_refl _), List.drop_eq_nil_of_le (by rw [hne.out]; exact Nat.le_refl _)] at H0'
        replace H0' := hide H0'
        clear H0
        go_wp2_with fail
        go_ret
        exact ⟨by rw [H0'.out]; rfl, bel⟩
  · have hS : sameBs (l.map Lb.b) (m.map Lb.b) = false := by
      cases hS : sameBs (l.map Lb.b) (m.map Lb.b) with
      | false => rfl
      | true =>
        have := sameBs_lenp _ _ hS
        rw [List.length_map, List.length_map] at this
        exact absurd this hne
    rw [hS]
    have hne' : ¬ (l.length : Int) = m.length := by omega
    generalize l.length = n1 at *
    generalize m.length = n2 at *
    clear hS h1 h2
    go_enter Tryz.func82, Tryz.ntmps82
    go_wp2_with fail
    go_ret
    exact ⟨rfl, Below.refl _ _⟩

set_option maxHeartbeats 400000 in
set_option maxRecDepth 100000 in
theorem sRow_any (r q : Lr) (w : World) (hr : r.Good w) (hq : q.Good w) :
    Calls Tryz.prog 109 #[r.v, q.v] w fun e w' => e = .returned (.bool (sameRw r.rw q.rw)) ∧ Below w.heap.size w w' := by
  have c1 := fun W h k => eqFuncBp r.bs q.bs r.ba q.ba r.bc q.bc W h k hr.few
  have f1 := hr.hfew
  have f2 := hq.hfew
  have c2 := fun W h k => equalPt r.ha q.ha r.hc q.hc r.hd q.hd W h k (by omega) (by omega)
  have s1 := fun o1 o2 => (hr.bs.alloc o1).alloc o2
  have s2 := fun o1 o2 => (hq.bs.alloc o1).alloc o2
  have t1 := fun o1 o2 => (hr.hd.alloc o1).alloc o2
  have t2 := fun o1 o2 => (hq.hd.alloc o1).alloc o2
  obtain ⟨bs, ba, bc, hd, ha, hc⟩ := r
  obtain ⟨ds, da, dc, gd, ga, gc⟩ := q
  unfold Lr.v sameRw Lr.rw
  simp only at *
  clear hr hq f1 f2
  cases hS : sameBs (bs.map Lb.b) (ds.map Lb.b) with
  | true =>
    rw [hS] at c1
    rw [Bool.true_and]
    generalize decide (hd = gd) = D at *
    clear hS
    generalize bs.length = n1 at *
    generalize ds.length = n2 at *
    generalize hd.length = n3 at *
    generalize gd.length = n4 at *
    go_enter Tryz.func109, Tryz.ntmps109
    go_wp2_with fail
    have B0 := (Blk.laid w [.slice ba n1 bc, .slice ha n3 hc] 47 _ rfl).alc (.cells #[.slice da n2 dc, .slice ga n4 gc] 47)
    have B1 := Blk.laid (w.alloc (.cells #[.slice ba n1 bc, .slice ha n3 hc] 47)) [.slice da n2 dc, .slice ga n4 gc] 47 (w.heap.size + 1) (by simp)
    have bel := below2 w (.cells #[.slice ba n1 bc, .slice ha n3 hc] 47) (.cells #[.slice da n2 dc, .slice ga n4 gc] 47)
    replace s1 := s1 (.cells #[.slice ba n1 bc, .slice ha n3 hc] 47) (.cells #[.slice da n2 dc, .slice ga n4 gc] 47)
    replace s2 := s2 (.cells #[.slice ba n1 bc, .slice ha n3 hc] 47) (.cells #[.slice da n2 dc, .slice ga n4 gc] 47)
    replace t1 := t1 (.cells #[.slice ba n1 bc, .slice ha n3 hc] 47) (.cells #[.slice da n2 dc, .slice ga n4 gc] 47)
    replace t2 := t2 (.cells #[.slice ba n1 bc, .slice ha n3 hc] 47) (.cells #[.slice da n2 dc, .slice ga n4 gc] 47)
    generalize (w.alloc _).alloc _ = w1 at *
    go_at_call 82
    refine (c1 _ s1 s2).mono ?_
    rintro e w2 ⟨rfl, b2⟩
    replace B0 := B0.keep b2 B0.lt
    replace B1 := B1.keep b2 B1.lt
    replace bel := belowCall bel b2
    replace t1 := t1.call b2
    replace t2 := t2.call b2
    clear b2 s1 s2 c1
    have d0 : w2.cell? ⟨w.heap.size, 1, none⟩ = some (.slice ha n3 hc) := B0.cell 1
    have d1 : w2.cell? ⟨w.heap.size + 1, 1, none⟩ = some (.slice ga n4 gc) := B1.cell 1
    go_wp2_with fail
    go_at_call 16
    refine (c2 _ t1 t2).mono ?_
    rintro e w3 ⟨rfl, q, rfl⟩
    go_wp2_with fail
    go_ret
    exact ⟨rfl, belowDrewN bel _⟩
  | false =>
    rw [hS] at c1
    rw [Bool.false_and]
    clear hS c2
    generalize bs.length = n1 at *
    generalize ds.length = n2 at *
    generalize hd.length = n3 at *
    generalize gd.length = n4 at *
    go_enter Tryz.func109, Tryz.ntmps109
    go_wp2_with fail
    go_at_call 82
    refine (c1 _ (s1 _ _) (s2 _ _)).mono ?_
    rintro e w2 ⟨rfl, b2⟩
    have bel2 := belowCall (below2 w _ _) b2
    go_wp2_with fail
    go_ret
    exact ⟨rfl, bel2⟩

theorem sameSh_lenp : ∀ l m, sameSh l m = true → l.length = m.length
  | [], [], _ => rfl
  | x :: r, y :: s, h => by
    rw [sameSh, Bool.and_eq_true] at h
    rw [List.length_cons, List.length_cons, sameSh_lenp r s h.2]
  | [], y :: s, h => by cases h
  | x :: r, [], h => by cases h

set_option maxHeartbeats 400000 in
set_option maxRecDepth 100000 in
theorem eqFuncRp (l m : List Lr) (a1 a2 : Option Addr) (c1 c2 : Nat) (w : World) (h1 : SlR w a1 c1 l) (h2 : SlR w a2 c2 m) (hl : l.length ≤ 140737488355328) :
    Calls Tryz.prog 80 #[.slice a1 l.length c1, .slice a2 m.length c2, .func (.func 109) #[] #[]] w fun e w' => e = .returned (.bool (sameSh (l.map Lr.rw) (m.map Lr.rw))) ∧ Below w.heap.size w w' := by
  by_cases hne : l.length = m.length
  · obtain ⟨D, hD⟩ : ∃ D, D = sameSh (l.map Lr.rw) (m.map Lr.rw) := ⟨_, rfl⟩
    rw [← hD]
    have H0 : Hid (D = sameSh ((l.drop 0).map Lr.rw) ((m.drop 0).map Lr.rw)) := by rw [List.drop_zero, List.drop_zero]; exact hD
    clear hD
    rw [← hne]
    obtain ⟨n, hn⟩ : ∃ n, n = l.length := ⟨_, rfl⟩
    rw [← hn] at hne hl ⊢
    replace hn := hide hn
    replace hne := hide hne
    have bel0 := Below.refl w.heap.size w
    go_enter Tryz.func80, Tryz.ntmps80
    go_wp2_with fail
    go_loopw [17] (fun i wr => ∃ (k : Nat), k ≤ n ∧ i = .int .i64 k ∧ Hid (D = sameSh ((l.drop k).map Lr.rw) ((m.drop k).map Lr.rw)) ∧ Below w.heap.size w wr) (fun i _ => n - (intOf i).toNat)
    case atStart => exact ⟨0, by omega, rfl, H0, bel0⟩
    case round =>
      clear H0 bel0
      obtain ⟨k, hk, rfl, H0, bel⟩ := hrel
      by_cases hlt : k < n
      · have hs1 := h1.keep bel (Nat.le_refl _)
        have hs2 := h2.keep bel (Nat.le_refl _)
        obtain ⟨b1, o1, rfl, hb1⟩ := hs1.where (by intro e; rw [hn.out, e] at hlt; simp at hlt)
        obtain ⟨b2, o2, rfl, hb2⟩ := hs2.where (by intro e; rw [hne.out, e] at hlt; simp at hlt)
        obtain ⟨x, hx⟩ : ∃ x, l[k]? = some x := ⟨_, List.getElem?_eq_getElem (by rw [← hn.out]; exact hlt)⟩
        obtain ⟨y, hy⟩ : ∃ y, m[k]? = some y := ⟨_, List.getElem?_eq_getElem (by rw [← hne.out]; exact hlt)⟩
        obtain ⟨e0, e1, gx⟩ := hs1.at k x hx
        obtain ⟨f0, f1, gy⟩ := hs2.at k y hy
        have hd1 : l.drop k = x :: l.drop (k + 1) := by
          obtain ⟨hk', rfl⟩ := List.getElem?_eq_some_iff.1 hx
          exact List.drop_eq_getElem_cons hk'
        have hd2 : m.drop k = y :: m.drop (k + 1) := by
          obtain ⟨hk', rfl⟩ := List.getElem?_eq_some_iff.1 hy
          exact List.drop_eq_getElem_cons hk'
        have H0' := H0.out
        rw [hd1, hd2, List.map_cons, List.map_cons, sameSh] at H0'
        have c1 := fun W (h : x.Good W) (k : y.Good W) => sRow_any x y W h k
        unfold Lr.v at c1
        clear H0 hd1 hd2 hx hy hs1 hs2
        have sx := fun o1 o2 => (gx.alloc o1).alloc o2
        have sy := fun o1 o2 => (gy.alloc o1).alloc o2
        cases hS : sameRw x.rw y.rw with
        | true =>
          rw [hS, Bool.true_and] at H0'
          rw [hS] at c1
          replace H0' := hide H0'
          clear hS
          go_wp2_with fail
          go_at_call 109
          refine (c1 _ (sx _ _) (sy _ _)).mono ?_
          rintro e w2 ⟨rfl, b2⟩
          have bel2 := belowCall (belowNew (belowNew bel _) _) b2
          go_wp2_with fail
          go_roundw
          case rel => exact ⟨k + 1, by omega, by go_num, H0', bel2⟩
          case measure => simp [intOf]; omega
        | false =>
          rw [hS, Bool.false_and] at H0'
          rw [hS] at c1
          replace H0' := hide H0'
          clear hS
          go_wp2_with fail
          go_at_call 109
          refine (c1 _ (sx _ _) (sy _ _)).mono ?_
          rintro e w2 ⟨rfl, b2⟩
          have bel2 := belowCall (belowNew (belowNew bel _) _) b2
          go_wp2_with fail
          go_ret
          exact ⟨by rw [H0'.out]; rfl, bel2⟩
      · obtain rfl : k = n := by omega
        have H0' := H0.out
        rw [List.drop_eq_nil_of_le (by rw [hn.out]; exact Nat.le_refl _), List.drop_eq_nil_of_le (by rw [hne.out]; exact Nat.le_refl _)] at H0'
        replace H0' := hide H0'
        clear H0
        go_wp2_with fail
        go_ret
        exact ⟨by rw [H0'.out]; rfl, bel⟩
  · have hS : sameSh (l.map Lr.rw) (m.map Lr.rw) = false := by
      cases hS : sameSh (l.map Lr.rw) (m.map Lr.rw) with
      | false => rfl
      | true =>
        have := sameSh_lenp _ _ hS
        rw [List.length_map, List.length_map] at this
        exact absurd this hne
    rw [hS]
    have hne' : ¬ (l.length : Int) = m.length := by omega
    generalize l.length = n1 at *
    generalize m.length = n2 at *
    clear hS h1 h2
    go_enter Tryz.func80, Tryz.ntmps80
    go_wp2_with fail
    go_ret
    exact ⟨rfl, Below.refl _ _⟩

set_option maxHeartbeats 400000 in
set_option maxRecDepth 100000 in
/-- Same of shelves, whatever it is handed. -/
theorem sSame_any (l m : List Lr) (a1 a2 : Option Addr) (c1 c2 : Nat) (w : World) (h1 : SlR w a1 c1 l) (h2 : SlR w a2 c2 m) (hl : l.length ≤ 140737488355328) :
    Calls Tryz.prog 64 #[.agg #[.slice a1 l.length c1], .agg #[.slice a2 m.length c2]] w fun e w' => e = .returned (.bool (sameSh (l.map Lr.rw) (m.map Lr.rw))) ∧ Below w.heap.size w w' := by
  have c := fun W h k => eqFuncRp l m a1 a2 c1 c2 W h k hl
  have s1 := fun o1 o2 => (h1.alloc o1).alloc o2
  have s2 := fun o1 o2 => (h2.alloc o1).alloc o2
  generalize sameSh (l.map Lr.rw) (m.map Lr.rw) = D at *
  generalize l.length = n1 at *
  generalize m.length = n2 at *
  go_enter Tryz.func64, Tryz.ntmps64
  go_wp2_with fail
  go_at_call 80
  refine (c _ (s1 _ _) (s2 _ _)).mono ?_
  rintro e w2 ⟨rfl, b2⟩
  have bel2 := belowCall (below2 w _ _) b2
  go_wp2_with fail
  go_ret
  exact ⟨rfl, bel2⟩

end Go.Proofs.YtcjdpilmhlfmfaaGreatDoor
