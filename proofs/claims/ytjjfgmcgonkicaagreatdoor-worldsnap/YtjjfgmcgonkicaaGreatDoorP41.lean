/-
  slices.Equal, at ints: it returns whether the two lists are the same; it only reads.
-/
import Derived.Test.YtjjfgmcgonkicaaGreatDoorRows
import Derived.Test.YtjjfgmcgonkicaaGreatDoorCards
import Derived.Test.YtjjfgmcgonkicaaGreatDoorTie
import Derived.ProofKit
import Derived.ChangeMaps5
import Derived.LaidMore
import Derived.Stop.Joined
import Derived.SevenTiedAt
import Derived.Test.YtjjfgmcgonkicaaGreatDoorP01
import Derived.Test.YtjjfgmcgonkicaaGreatDoorP35
import Derived.Test.YtjjfgmcgonkicaaGreatDoorP37
import Derived.Test.YtjjfgmcgonkicaaGreatDoorHQRange
import Derived.Test.YtjjfgmcgonkicaaGreatDoorP40
import Derived.Test.YtjjfgmcgonkicaaGreatDoorP13
namespace Go.Proofs.YtjjfgmcgonkicaaGreatDoor
open Go.RowKit

set_option maxHeartbeats 1000000 in
set_option maxRecDepth 100000 in
theorem equalInt (a1 a2 : Option Addr) (c1 c2 : Nat) (l m : List Int) (w : World) (r1 : Row w a1 (l.map (Value.int .i64))) (r2 : Row w a2 (m.map (Value.int .i64))) (hl : l.length ≤ 4611686018427387904) (hm : m.length ≤ 4611686018427387904) :
    Calls Tryz.prog 43 #[.slice a1 l.length c1, .slice a2 m.length c2] w fun e w' => e = .returned (.bool (decide (l = m))) ∧ ∃ q, w' = w.drewN q := by
  by_cases hnm : l.length = m.length
  · generalize hn : l.length = n at *
    have hm' := hnm.symm
    rw [hm'] at hm ⊢
    by_cases h0 : n = 0
    · subst h0
      obtain rfl := List.eq_nil_of_length_eq_zero hn
      obtain rfl := List.eq_nil_of_length_eq_zero hm'
      clear hn hm' hnm hl hm r1 r2
      go_enter Tryz.func43, Tryz.ntmps43
      go_wp2
      refine wp_loop_rounds 1 ?_
      rw [rounds_succ]
      go_wp2
      go_ret
      exact ⟨rfl, 0, rfl⟩
    obtain ⟨b1, o1, rfl, -, k1⟩ := r1.at (by intro h; simp at h; subst h; simp at hn; omega)
    obtain ⟨b2, o2, rfl, -, k2⟩ := r2.at (by intro h; simp at h; subst h; simp at hm'; omega)
    have g1 := fun k hk => intAt k1 k hk
    have g2 := fun k hk => intAt k2 k hk
    clear k1 k2 r1 r2
    have HL : Hid (l.length = n) := hn
    have HM : Hid (m.length = n) := hm'
    clear hn hm' hnm
    go_enter Tryz.func43, Tryz.ntmps43
    go_wp2
    go_loopg [13] n (fun g s13 wr => ∃ k q : Nat, k ≤ n ∧ n - k ≤ g ∧ s13 = .int .i64 k ∧ wr = w.drewN q ∧ Hid (∀ j, j < k → l.getD j 0 = m.getD j 0))
    case atStart => exact ⟨0, 0, Nat.zero_le _, by omega, rfl, rfl, fun j hj => absurd hj (Nat.not_lt_zero _)⟩
    case round =>
      obtain ⟨k, q, hk, hg, rfl, rfl, A⟩ := hrel
      by_cases hlt : k < n
      · have e1 := g1 k (by rw [HL.out]; exact hlt)
        have e2 := g2 k (by rw [HM.out]; exact hlt)
        clear g1 g2
        generalize hx : l.getD k 0 = x at e1
        generalize hy : m.getD k 0 = y at e2
        have B : Hid (l.getD k 0 = x ∧ m.getD k 0 = y) := ⟨hx, hy⟩
        clear hx hy
        cases hxy : (x == y) with
        | true =>
          obtain rfl : x = y := by simpa using hxy
          clear hxy
          go_wp2_with fail
          go_region
          all_goals go_wp2
          all_goals go_roundg (n - (k + 1))
          case measure => omega
          case rel =>
            refine ⟨k + 1, q + 1, by omega, by omega, by go_num, rfl, (show Hid _ from fun j hj => ?_)⟩
            by_cases e : j = k
            · subst e
              rw [B.out.1, B.out.2]
            · exact A.out j (by omega)
        | false =>
          go_wp2_with fail
          go_region
          all_goals go_wp2
          all_goals go_ret
          refine ⟨?_, q + 1, rfl⟩
          have hne : l ≠ m := listNe (d := 0) (k := k) (by rw [B.out.1, B.out.2]; simpa using hxy)
          simp [hne]
      · have : k = n := by omega
        subst this
        clear g1 g2
        go_wp2
        go_ret
        refine ⟨?_, q, rfl⟩
        have he : l = m := listEq (d := 0) (HL.out.trans HM.out.symm) (fun j hj => A.out j (by rw [← HL.out]; exact hj))
        simp [he]
  · have hnm' : ¬ (l.length : Int) = (m.length : Int) := by omega
    have hne : l ≠ m := fun e => hnm (by rw [e])
    clear r1 r2
    have H : Hid (l ≠ m) := hne
    clear hne
    generalize l.length = x at *
    generalize m.length = y at *
    go_enter Tryz.func43, Tryz.ntmps43
    go_wp2
    go_ret
    refine ⟨?_, 0, rfl⟩
    simp [H.out]

end Go.Proofs.YtjjfgmcgonkicaaGreatDoor

/-
  world.Same: are all fields of two worlds alike?
-/
namespace Go.Proofs.YtjjfgmcgonkicaaGreatDoor
open Go.RowKit
open Go.Lib (byteCells)

/-- Two worlds are alike. -/
def sameWd (x y : Wd) : Bool := sameSh x.c y.c && (decide (x.d.safe = y.d.safe ∧ x.d.wait = y.d.wait) && (decide (x.up = y.up) && decide (x.rd = y.rd)))

set_option maxHeartbeats 4000000 in
set_option maxRecDepth 100000 in
theorem wsame_any (x y : Wd) (p q : Pw) (w : World) (I : IsW w p x) (J : IsW w q y) (ls : x.c.length ≤ 140737488355328) (lx : x.rd.length ≤ 4611686018427387904) (ly : y.rd.length ≤ 4611686018427387904) :
    Calls Tryz.prog 15 #[p.val x.up, q.val y.up] w fun e w' => e = .returned (.bool (sameWd x y)) ∧ Below w.heap.size w w' := by
  obtain ⟨C, X, U, R⟩ := x
  obtain ⟨D, Y, V, Q⟩ := y
  obtain ⟨sa, sn, sG, a1, n1, c1, a2, n2, c2, ra, rn, rc⟩ := p
  obtain ⟨ta, tn, tG, b1, m1, k1, b2, m2, k2, rb, rm, rk⟩ := q
  have bel := newB (newB (Below.refl w.heap.size w) (.cells #[.slice sa sn sG, .slice a1 n1 c1, .slice a2 n2 c2, .bool U, .slice ra rn rc] 30)) (.cells #[.slice ta tn tG, .slice b1 m1 k1, .slice b2 m2 k2, .bool V, .slice rb rm rk] 30)
  have BX := (Blk.laid w [.slice sa sn sG, .slice a1 n1 c1, .slice a2 n2 c2, .bool U, .slice ra rn rc] 30 _ rfl).alc (.cells #[.slice ta tn tG, .slice b1 m1 k1, .slice b2 m2 k2, .bool V, .slice rb rm rk] 30)
  have BY := Blk.laid (w.alloc (.cells #[.slice sa sn sG, .slice a1 n1 c1, .slice a2 n2 c2, .bool U, .slice ra rn rc] 30)) [.slice ta tn tG, .slice b1 m1 k1, .slice b2 m2 k2, .bool V, .slice rb rm rk] 30 (w.heap.size + 1) (by simp)
  obtain ⟨gY, hgY'⟩ : ∃ gY, gY = w.heap.size + 1 := ⟨_, rfl⟩
  rw [← hgY'] at BY
  have I2 := I.keep bel (Nat.le_refl _)
  have J2 := J.keep bel (Nat.le_refl _)
  obtain ⟨es, e1, e2, er, S, S1, S2, R1⟩ := I2
  obtain ⟨et, f1, f2, fr, T, T1, T2, Q1⟩ := J2
  clear I J
  unfold sameWd Pw.val
  simp only at *
  have cS := fun W h k => shSame_is (a := sa) (b := ta) (G := sG) (H := tG) (W := W) (C := C) (D := D) h k ls
  have cD := fun W s1 s2 t1 t2 => dsame_any X Y a1 a2 b1 b2 c1 c2 k1 k2 n1 n2 m1 m2 W s1 s2 t1 t2 e1 e2 f1 f2
  have cR := fun W h k => equalInt ra rb rc rk R Q W h k lx ly
  rw [← es, ← et] at cS
  rw [← er, ← fr] at cR
  replace es := hide es
  replace et := hide et
  replace er := hide er
  replace fr := hide fr
  replace e1 := hide e1
  replace e2 := hide e2
  replace f1 := hide f1
  replace f2 := hide f2
  clear ls lx ly
  generalize sameSh C D = B1 at *
  generalize decide (X.safe = Y.safe ∧ X.wait = Y.wait) = B2 at *
  generalize decide (R = Q) = B4 at *
  cases B1
  · go_enter Tryz.func15, Tryz.ntmps15
    go_upto_region 1 with fail
    rw [← hgY']
    generalize World.alloc (World.alloc w _) _ = w1 at *
    clear hgY'
    have x0 := BX.cell 0
    have y0 := BY.cell 0
    have x1 := BX.cell 1
    have y1 := BY.cell 1
    have x2 := BX.cell 2
    have y2 := BY.cell 2
    have x3 := BX.cell 3
    have y3 := BY.cell 3
    have x4 := BX.cell 4
    have y4 := BY.cell 4
    have xl := BX.lt
    have yl := BY.lt
    go_wp2_with fail
    go_at_call 26
    refine (cS _ S T).mono ?_
    rintro e w2 ⟨rfl, q1⟩
    clear x0 y0 x1 y1 x2 y2 x3 y3 x4 y4 xl yl
    replace BX := BX.keep q1 BX.lt
    replace BY := BY.keep q1 BY.lt
    have x0 := BX.cell 0
    have y0 := BY.cell 0
    have x1 := BX.cell 1
    have y1 := BY.cell 1
    have x2 := BX.cell 2
    have y2 := BY.cell 2
    have x3 := BX.cell 3
    have y3 := BY.cell 3
    have x4 := BX.cell 4
    have y4 := BY.cell 4
    have xl := BX.lt
    have yl := BY.lt
    go_wp2_with fail
    go_ret
    exact ⟨rfl, belowCall bel q1⟩
  cases B2
  · go_enter Tryz.func15, Tryz.ntmps15
    go_upto_region 1 with fail
    rw [← hgY']
    generalize World.alloc (World.alloc w _) _ = w1 at *
    clear hgY'
    have x0 := BX.cell 0
    have y0 := BY.cell 0
    have x1 := BX.cell 1
    have y1 := BY.cell 1
    have x2 := BX.cell 2
    have y2 := BY.cell 2
    have x3 := BX.cell 3
    have y3 := BY.cell 3
    have x4 := BX.cell 4
    have y4 := BY.cell 4
    have xl := BX.lt
    have yl := BY.lt
    go_wp2_with fail
    go_at_call 26
    refine (cS _ S T).mono ?_
    rintro e w2 ⟨rfl, q1⟩
    clear x0 y0 x1 y1 x2 y2 x3 y3 x4 y4 xl yl
    replace BX := BX.keep q1 BX.lt
    replace BY := BY.keep q1 BY.lt
    have x0 := BX.cell 0
    have y0 := BY.cell 0
    have x1 := BX.cell 1
    have y1 := BY.cell 1
    have x2 := BX.cell 2
    have y2 := BY.cell 2
    have x3 := BX.cell 3
    have y3 := BY.cell 3
    have x4 := BX.cell 4
    have y4 := BY.cell 4
    have xl := BX.lt
    have yl := BY.lt
    go_wp2_with fail
    go_at_call 27
    refine (cD _ (S1.call q1) (S2.call q1) (T1.call q1) (T2.call q1)).mono ?_
    rintro e w3 ⟨rfl, q2⟩
    clear x0 y0 x1 y1 x2 y2 x3 y3 x4 y4 xl yl
    replace BX := BX.keep q2 BX.lt
    replace BY := BY.keep q2 BY.lt
    have x0 := BX.cell 0
    have y0 := BY.cell 0
    have x1 := BX.cell 1
    have y1 := BY.cell 1
    have x2 := BX.cell 2
    have y2 := BY.cell 2
    have x3 := BX.cell 3
    have y3 := BY.cell 3
    have x4 := BX.cell 4
    have y4 := BY.cell 4
    have xl := BX.lt
    have yl := BY.lt
    go_wp2_with fail
    go_ret
    exact ⟨rfl, belowCall (belowCall bel q1) q2⟩
  by_cases hU : U = V
  · subst hU
    go_enter Tryz.func15, Tryz.ntmps15
    go_upto_region 1 with fail
    rw [← hgY']
    generalize World.alloc (World.alloc w _) _ = w1 at *
    clear hgY'
    have x0 := BX.cell 0
    have y0 := BY.cell 0
    have x1 := BX.cell 1
    have y1 := BY.cell 1
    have x2 := BX.cell 2
    have y2 := BY.cell 2
    have x3 := BX.cell 3
    have y3 := BY.cell 3
    have x4 := BX.cell 4
    have y4 := BY.cell 4
    have xl := BX.lt
    have yl := BY.lt
    go_wp2_with fail
    go_at_call 26
    refine (cS _ S T).mono ?_
    rintro e w2 ⟨rfl, q1⟩
    clear x0 y0 x1 y1 x2 y2 x3 y3 x4 y4 xl yl
    replace BX := BX.keep q1 BX.lt
    replace BY := BY.keep q1 BY.lt
    have x0 := BX.cell 0
    have y0 := BY.cell 0
    have x1 := BX.cell 1
    have y1 := BY.cell 1
    have x2 := BX.cell 2
    have y2 := BY.cell 2
    have x3 := BX.cell 3
    have y3 := BY.cell 3
    have x4 := BX.cell 4
    have y4 := BY.cell 4
    have xl := BX.lt
    have yl := BY.lt
    go_wp2_with fail
    go_at_call 27
    refine (cD _ (S1.call q1) (S2.call q1) (T1.call q1) (T2.call q1)).mono ?_
    rintro e w3 ⟨rfl, q2⟩
    clear x0 y0 x1 y1 x2 y2 x3 y3 x4 y4 xl yl
    replace BX := BX.keep q2 BX.lt
    replace BY := BY.keep q2 BY.lt
    have x0 := BX.cell 0
    have y0 := BY.cell 0
    have x1 := BX.cell 1
    have y1 := BY.cell 1
    have x2 := BX.cell 2
    have y2 := BY.cell 2
    have x3 := BX.cell 3
    have y3 := BY.cell 3
    have x4 := BX.cell 4
    have y4 := BY.cell 4
    have xl := BX.lt
    have yl := BY.lt
    go_wp2_with fail
    go_at_call 43
    refine (cR _ ((R1.call q1).call q2).row ((Q1.call q1).call q2).row).mono ?_
    rintro e w4 ⟨rfl, q, rfl⟩
    go_wp2_with fail
    go_ret
    exact ⟨by simp, belowDrewN (belowCall (belowCall bel q1) q2) q⟩
  · go_enter Tryz.func15, Tryz.ntmps15
    go_upto_region 1 with fail
    rw [← hgY']
    generalize World.alloc (World.alloc w _) _ = w1 at *
    clear hgY'
    have x0 := BX.cell 0
    have y0 := BY.cell 0
    have x1 := BX.cell 1
    have y1 := BY.cell 1
    have x2 := BX.cell 2
    have y2 := BY.cell 2
    have x3 := BX.cell 3
    have y3 := BY.cell 3
    have x4 := BX.cell 4
    have y4 := BY.cell 4
    have xl := BX.lt
    have yl := BY.lt
    go_wp2_with fail
    go_at_call 26
    refine (cS _ S T).mono ?_
    rintro e w2 ⟨rfl, q1⟩
    clear x0 y0 x1 y1 x2 y2 x3 y3 x4 y4 xl yl
    replace BX := BX.keep q1 BX.lt
    replace BY := BY.keep q1 BY.lt
    have x0 := BX.cell 0
    have y0 := BY.cell 0
    have x1 := BX.cell 1
    have y1 := BY.cell 1
    have x2 := BX.cell 2
    have y2 := BY.cell 2
    have x3 := BX.cell 3
    have y3 := BY.cell 3
    have x4 := BX.cell 4
    have y4 := BY.cell 4
    have xl := BX.lt
    have yl := BY.lt
    go_wp2_with fail
    go_at_call 27
    refine (cD _ (S1.call q1) (S2.call q1) (T1.call q1) (T2.call q1)).mono ?_
    rintro e w3 ⟨rfl, q2⟩
    clear x0 y0 x1 y1 x2 y2 x3 y3 x4 y4 xl yl
    replace BX := BX.keep q2 BX.lt
    replace BY := BY.keep q2 BY.lt
    have x0 := BX.cell 0
    have y0 := BY.cell 0
    have x1 := BX.cell 1
    have y1 := BY.cell 1
    have x2 := BX.cell 2
    have y2 := BY.cell 2
    have x3 := BX.cell 3
    have y3 := BY.cell 3
    have x4 := BX.cell 4
    have y4 := BY.cell 4
    have xl := BX.lt
    have yl := BY.lt
    go_wp2_with fail
    go_ret
    exact ⟨by simp [hU], belowCall (belowCall bel q1) q2⟩

end Go.Proofs.YtjjfgmcgonkicaaGreatDoor

/-
  Is one of a world's readers open? (WorldStands's closure, slices.ContainsFunc.)
-/
namespace Go.Proofs.YtjjfgmcgonkicaaGreatDoor
open Go.RowKit

def notm (v : Int) : Bool := decide (v ≠ -1)

set_option maxHeartbeats 1000000 in
set_option maxRecDepth 100000 in
theorem notm_any (v : Int) (w : World) :
    Calls Tryz.prog 29 #[.int .i64 v] w fun e w' => e = .returned (.bool (notm v)) ∧ w' = w := by
  unfold notm
  by_cases h1 : v = -1
  · subst h1
    go_enter Tryz.func29, Tryz.ntmps29
    go_wp2_with fail
    go_ret
    exact ⟨rfl, rfl⟩
  · have hd : decide (v ≠ -1) = true := decide_eq_true h1
    rw [hd]
    go_enter Tryz.func29, Tryz.ntmps29
    go_wp2_with fail
    go_ret
    exact ⟨by simp [h1], rfl⟩

set_option maxHeartbeats 1000000 in
set_option maxRecDepth 100000 in
theorem indexS (l : List Int) (ao : Option Addr) (cap n : Nat) (w : World) (S : Sl w ao cap (l.map (Value.int .i64))) (hn : l.length = n) (few : n ≤ 40) :
    Calls Tryz.prog 66 #[.slice ao n cap, .func (.func 29) #[] #[]] w fun e w' =>
      ∃ k : Int, e = .returned (.int .i64 k) ∧ Hid ((l.any (notm) = true → 0 ≤ k) ∧ (l.any (notm) = false → k < 0)) ∧ w' = w := by
  replace hn := hide hn
  go_enter Tryz.func66, Tryz.ntmps66
  go_wp2_with fail
  go_loopw [8] (fun i wr => ∃ (k : Nat), k ≤ n ∧ i = .int .i64 k ∧ Hid (∀ y ∈ l.take k, notm y = false) ∧ wr = w) (fun i _ => n - (intOf i).toNat)
  case atStart => exact ⟨0, by omega, rfl, hide (fun y hy => by simp at hy), rfl⟩
  case round =>
    obtain ⟨k, hk, rfl, H, rfl⟩ := hrel
    by_cases hlt : k < n
    · have hkl : k < l.length := by rw [hn.out]; exact hlt
      obtain ⟨b, off, rfl, hbw, _⟩ := S.row.at (by intro e; rw [List.map_eq_nil_iff] at e; rw [e] at hkl; simp at hkl)
      have e0 := S.int k hkl
      have c := fun W => notm_any (l.getD k 0) W
      have hk8 : k < 40 := by omega
      have hm : l.getD k 0 ∈ l := by rw [List.getD_eq_getElem?_getD, List.getElem?_eq_getElem hkl]; exact List.getElem_mem hkl
      have ht : l.take (k + 1) = l.take k ++ [l.getD k 0] := by rw [List.take_add_one, List.getD_eq_getElem?_getD, List.getElem?_eq_getElem hkl]; rfl
      replace ht := hide ht
      generalize l.getD k 0 = x at *
      clear hkl
      cases hp : notm x with
      | true =>
        rw [hp] at c
        have ha : Hid (l.any (notm) = true) := hide (List.any_eq_true.2 ⟨x, hm, hp⟩)
        clear hp hm ht
        go_wp2_with fail
        go_at_call 29
        refine (c _).mono ?_
        rintro e w2 ⟨rfl, rfl⟩
        go_wp2_with fail
        go_ret
        exact ⟨k, rfl, hide ⟨fun _ => by omega, fun h => by rw [ha.out] at h; cases h⟩, rfl⟩
      | false =>
        rw [hp] at c
        have H2 : ∀ z ∈ l.take (k + 1), notm z = false := by
          intro z hz
          rw [ht.out] at hz
          rcases List.mem_append.1 hz with hz | hz
          · exact H.out z hz
          · rw [List.mem_singleton.1 hz]
            exact hp
        replace H2 := hide H2
        clear hp hm ht
        go_wp2_with fail
        go_at_call 29
        refine (c _).mono ?_
        rintro e w2 ⟨rfl, rfl⟩
        go_wp2_with fail
        go_roundw
        case rel => exact ⟨k + 1, by omega, by go_num, H2, by trivial⟩
        case measure => simp [intOf]; omega
    · obtain rfl : k = n := by omega
      have H' := H.out
      rw [List.take_of_length_le (by rw [hn.out]; exact Nat.le_refl _)] at H'
      have ha : Hid (l.any (notm) = false) := hide (List.any_eq_false.2 (fun y hy => by rw [H' y hy]; decide))
      clear H' H
      go_wp2_with fail
      go_ret
      exact ⟨-1, rfl, hide ⟨fun h => (by rw [ha.out] at h; cases h), fun _ => by decide⟩, rfl⟩

set_option maxHeartbeats 1000000 in
set_option maxRecDepth 100000 in
theorem containsS (l : List Int) (ao : Option Addr) (cap n : Nat) (w : World) (S : Sl w ao cap (l.map (Value.int .i64))) (hn : l.length = n) (few : n ≤ 40) :
    Calls Tryz.prog 28 #[.slice ao n cap, .func (.func 29) #[] #[]] w fun e w' => e = .returned (.bool (l.any (notm))) ∧ w' = w := by
  have c := fun W S => indexS l ao cap n W S hn few
  replace hn := hide hn
  generalize l.any (notm) = b at *
  go_enter Tryz.func28, Tryz.ntmps28
  go_wp2_with fail
  go_at_call 66
  refine (c _ S).mono ?_
  rintro e w2 ⟨k, rfl, h12, rfl⟩
  obtain ⟨h1, h2⟩ := h12.out
  clear h12
  cases b with
  | true =>
    have hk := h1 rfl
    clear h1 h2
    go_wp2_with fail
    go_ret
    exact ⟨rfl, rfl⟩
  | false =>
    have hk : ¬ (0 : Int) ≤ k := by have := h2 rfl; omega
    have hk' : decide ((0 : Int) ≤ k) = false := decide_eq_false hk
    clear h1 h2
    go_wp2_with fail
    go_ret
    exact ⟨rfl, rfl⟩

end Go.Proofs.YtjjfgmcgonkicaaGreatDoor

/-
  The walk of WorldStands.
-/
namespace Go.Proofs.YtjjfgmcgonkicaaGreatDoor
open Go.RowKit
open Go.Lib (byteCells)

theorem st_do1 (x : Wd) (p : Pw) (h : wdE x = 0) (hu : x.up = true) (V : World) (gl : Gl V) (I : IsW V p x) (few : p.n1 + p.n2 ≤ 9223372036854775807) (fewS : p.sn ≤ 140737488355328) :
    Calls Tryz.prog 11 #[p.val true, .agg #[.int .i64 7, .int .i64 0, .int .i64 0, .slice none 0 0]] V (AnsW V ⟨newS, x.d, false, shutR⟩ 0) := by
  have c := do_any x ⟨7, 0, 0, []⟩ p none 0 0 V gl I few fewS (SlW.ofNil ec V) (hide rfl)
  obtain ⟨e1, e2, _⟩ := crash_right h hu
  have eE : doE x ⟨7, 0, 0, []⟩ = 0 := by unfold doE; rw [if_neg (by simp [h]), e1]
  have eW : doW x ⟨7, 0, 0, []⟩ = ⟨newS, x.d, false, shutR⟩ := by unfold doW; rw [if_neg (by simp [h]), e2]
  rw [eE, eW, hu] at c
  exact c

theorem st_do2 (x : Wd) (p : Pw) (h : wdE x = 0) (hu : x.up = true) (V : World) (gl : Gl V) (I : IsW V p ⟨newS, x.d, false, shutR⟩) (few : x.d.safe.length + x.d.wait.length ≤ 9223372036854775807) :
    Calls Tryz.prog 11 #[p.val false, .agg #[.int .i64 8, .int .i64 0, .int .i64 0, .slice none 0 0]] V (AnsW V ⟨x.c, x.d, true, shutR⟩ 0) := by
  obtain ⟨_, _, e0⟩ := crash_right h hu
  have c := do_any ⟨newS, x.d, false, shutR⟩ ⟨8, 0, 0, []⟩ p none 0 0 V gl I (by rw [I.e1, I.e2]; exact few) (by rw [I.es]; simp [newS]) (SlW.ofNil ec V) (hide rfl)
  obtain ⟨e1, e2⟩ := boot_still h hu
  have eE : doE ⟨newS, x.d, false, shutR⟩ ⟨8, 0, 0, []⟩ = 0 := by unfold doE; rw [if_neg (by simp [e0]), e1]
  have eW : doW ⟨newS, x.d, false, shutR⟩ ⟨8, 0, 0, []⟩ = ⟨x.c, x.d, true, shutR⟩ := by unfold doW; rw [if_neg (by simp [e0]), e2]
  rw [eE, eW] at c
  exact c

theorem st_shelf (C : List Rw) (ua sa : Option Addr) (un uG sn sG : Nat) (V : World) (k : IsS V ua uG C) (h : IsS V sa sG C) (e1 : un = C.length) (e2 : sn = C.length) (few : sn ≤ 140737488355328) :
    Calls Tryz.prog 26 #[.agg #[.slice ua un uG], .agg #[.slice sa sn sG]] V fun e w' => e = .returned (.bool true) ∧ Below V.heap.size V w' := by
  have c := shSame_is k h (by omega)
  rw [sameSh_self, ← e2] at c
  rw [e1, ← e2]
  exact c

theorem st_disk (D : Dk) (a1 a2 b1 b2 : Option Addr) (n1 c1 n2 c2 m1 k1 m2 k2 : Nat) (V : World) (s1 : Sl V a1 c1 (byteCells D.safe)) (s2 : Sl V a2 c2 (byteCells D.wait)) (t1 : Sl V b1 k1 (byteCells D.safe)) (t2 : Sl V b2 k2 (byteCells D.wait)) (h1 : n1 = D.safe.length) (h2 : n2 = D.wait.length) (h3 : m1 = D.safe.length) (h4 : m2 = D.wait.length) :
    Calls Tryz.prog 27 #[.agg #[.slice a1 n1 c1, .slice a2 n2 c2], .agg #[.slice b1 m1 k1, .slice b2 m2 k2]] V fun e w' => e = .returned (.bool true) ∧ Below V.heap.size V w' := by
  have c := dsame_any D D a1 a2 b1 b2 c1 c2 k1 k2 n1 n2 m1 m2 V s1 s2 t1 t2 h1 h2 h3 h4
  refine c.mono ?_
  rintro e w' ⟨rfl, b⟩
  exact ⟨by simp, b⟩

theorem st_shut (re : Option Addr) (rx ry : Nat) (V : World) (s : Sl V re ry (shutR.map (Value.int .i64))) (h : rx = shutR.length) :
    Calls Tryz.prog 28 #[.slice re rx ry, .func (.func 29) #[] #[]] V fun e w' => e = .returned (.bool false) ∧ w' = V := by
  have c := containsS shutR re ry rx V s h.symm (by rw [h]; decide)
  rw [show shutR.any notm = false by decide] at c
  exact c

set_option maxHeartbeats 4000000 in
set_option maxRecDepth 100000 in
theorem stands_walk (x : Wd) (p : Pw) (W : World) (hg : Gl W) (I : IsW W p x) (few : p.n1 + p.n2 ≤ 9223372036854775807) (fewS : p.sn ≤ 140737488355328) :
    Calls Tryz.prog 5 #[p.val x.up] W fun e w' => e = .returned (.bool true) ∧ Below W.heap.size W w' := by
  have cC := fun V g i => checkW_any x p V g i few fewS
  have c1 := fun h hu V g i => st_do1 x p h hu V g i few fewS
  have c2 := fun q h hu V g i => st_do2 x q h hu V g i (by rw [← I.e1, ← I.e2]; exact few)
  have I0 := I
  obtain ⟨C, D, U, R⟩ := x
  obtain ⟨sa, sn, sG, a1, n1, c1', a2, n2, c2', ra, rn, rc⟩ := p
  simp only [Pw.val] at *
  have BX := Blk.laid W [.slice sa sn sG, .slice a1 n1 c1', .slice a2 n2 c2', .bool U, .slice ra rn rc] 30 _ rfl
  have bel := newB (Below.refl W.heap.size W) (.cells #[.slice sa sn sG, .slice a1 n1 c1', .slice a2 n2 c2', .bool U, .slice ra rn rc] 30)
  replace I := I.alloc (.cells #[.slice sa sn sG, .slice a1 n1 c1', .slice a2 n2 c2', .bool U, .slice ra rn rc] 30)
  clear I0
  by_cases h : wdE ⟨C, D, U, R⟩ = 0
  · rw [h] at cC
    replace c1 := c1 h
    replace c2 := fun q => c2 q h
    replace h := hide h
    cases U with
    | false =>
      clear c1 c2
      go_enter Tryz.func5, Tryz.ntmps5
      go_upto_region 1 with fail
      generalize World.alloc W _ = w1 at *
      have x0 := BX.cell 0
      have x1 := BX.cell 1
      have x2 := BX.cell 2
      have x3 := BX.cell 3
      have x4 := BX.cell 4
      have xl := BX.lt
      go_wp2_with fail
      go_at_call 13
      refine (watched_any _ (hg.call bel)).mono ?_
      rintro e w2 ⟨rfl, b⟩
      clear x0 x1 x2 x3 x4 xl
      replace BX := BX.keep b BX.lt
      replace I := I.call b
      replace bel := belowCall bel b
      clear b
      have x0 := BX.cell 0
      have x1 := BX.cell 1
      have x2 := BX.cell 2
      have x3 := BX.cell 3
      have x4 := BX.cell 4
      have xl := BX.lt
      go_wp2_with fail
      go_at_call 14
      refine (cC _ (hg.call bel) I).mono ?_
      rintro e w3 ⟨rfl, b⟩
      clear x0 x1 x2 x3 x4 xl
      replace BX := BX.keep b BX.lt
      replace I := I.call b
      replace bel := belowCall bel b
      clear b
      have x0 := BX.cell 0
      have x1 := BX.cell 1
      have x2 := BX.cell 2
      have x3 := BX.cell 3
      have x4 := BX.cell 4
      have xl := BX.lt
      go_wp2_with fail
      go_at_call 13
      refine (watched_any _ (hg.call bel)).mono ?_
      rintro e w4 ⟨rfl, b⟩
      go_wp2_with fail
      go_ret
      exact ⟨rfl, belowCall bel b⟩
    | true =>
      replace c1 := c1 rfl
      replace c2 := fun q => c2 q rfl
      go_enter Tryz.func5, Tryz.ntmps5
      go_upto_region 1 with fail
      generalize World.alloc W _ = w1 at *
      have x0 := BX.cell 0
      have x1 := BX.cell 1
      have x2 := BX.cell 2
      have x3 := BX.cell 3
      have x4 := BX.cell 4
      have xl := BX.lt
      go_wp2_with fail
      go_at_call 13
      refine (watched_any _ (hg.call bel)).mono ?_
      rintro e w2 ⟨rfl, b⟩
      clear x0 x1 x2 x3 x4 xl
      replace BX := BX.keep b BX.lt
      replace I := I.call b
      replace bel := belowCall bel b
      clear b
      have x0 := BX.cell 0
      have x1 := BX.cell 1
      have x2 := BX.cell 2
      have x3 := BX.cell 3
      have x4 := BX.cell 4
      have xl := BX.lt
      go_wp2_with fail
      go_at_call 14
      refine (cC _ (hg.call bel) I).mono ?_
      rintro e w3 ⟨rfl, b⟩
      clear x0 x1 x2 x3 x4 xl
      replace BX := BX.keep b BX.lt
      replace I := I.call b
      replace bel := belowCall bel b
      clear b
      have x0 := BX.cell 0
      have x1 := BX.cell 1
      have x2 := BX.cell 2
      have x3 := BX.cell 3
      have x4 := BX.cell 4
      have xl := BX.lt
      go_wp2_with fail
      go_at_call 11
      refine (c1 _ (hg.call bel) I).mono ?_
      rintro e w4 ⟨⟨ta, tn, tG, b1, m1, k1, b2, m2, k2, rb, rm, rk⟩, rfl, I2, b0⟩
      simp only [Pw.val]
      have b := newB b0 (.cells #[.slice ta tn tG, .slice b1 m1 k1, .slice b2 m2 k2, .bool false, .slice rb rm rk] 30)
      have BY := Blk.laid w4 [.slice ta tn tG, .slice b1 m1 k1, .slice b2 m2 k2, .bool false, .slice rb rm rk] 30 _ rfl
      replace I2 := I2.alloc (.cells #[.slice ta tn tG, .slice b1 m1 k1, .slice b2 m2 k2, .bool false, .slice rb rm rk] 30)
      clear b0 c1
      clear x0 x1 x2 x3 x4 xl
      replace BX := BX.keep b BX.lt
      replace I := I.call b
      replace bel := belowCall bel b
      clear b
      have x0 := BX.cell 0
      have x1 := BX.cell 1
      have x2 := BX.cell 2
      have x3 := BX.cell 3
      have x4 := BX.cell 4
      have xl := BX.lt
      go_upto_region 4 with fail
      generalize w4.heap.size = gY at *
      generalize World.alloc w4 _ = v at *
      have y0 := BY.cell 0
      have y1 := BY.cell 1
      have y2 := BY.cell 2
      have y3 := BY.cell 3
      have y4 := BY.cell 4
      have yl := BY.lt
      go_wp2_with fail
      go_at_call 11
      refine (c2 ⟨ta, tn, tG, b1, m1, k1, b2, m2, k2, rb, rm, rk⟩ _ (hg.call bel) I2).mono ?_
      rintro e w5 ⟨⟨ua, un, uG, d1, o1, l1, d2, o2, l2, re, rx, ry⟩, rfl, I3, b0⟩
      simp only [Pw.val]
      have b := newB b0 (.cells #[.slice ua un uG, .slice d1 o1 l1, .slice d2 o2 l2, .bool true, .slice re rx ry] 30)
      have BZ := Blk.laid w5 [.slice ua un uG, .slice d1 o1 l1, .slice d2 o2 l2, .bool true, .slice re rx ry] 30 _ rfl
      replace I3 := I3.alloc (.cells #[.slice ua un uG, .slice d1 o1 l1, .slice d2 o2 l2, .bool true, .slice re rx ry] 30)
      clear b0 c2 I2
      clear x0 x1 x2 x3 x4 xl y0 y1 y2 y3 y4 yl
      replace BX := BX.keep b BX.lt
      replace BY := BY.keep b BY.lt
      replace I := I.call b
      replace bel := belowCall bel b
      clear b
      have x0 := BX.cell 0
      have x1 := BX.cell 1
      have x2 := BX.cell 2
      have x3 := BX.cell 3
      have x4 := BX.cell 4
      have xl := BX.lt
      have y0 := BY.cell 0
      have y1 := BY.cell 1
      have y2 := BY.cell 2
      have y3 := BY.cell 3
      have y4 := BY.cell 4
      have yl := BY.lt
      go_upto_region 7 with fail
      generalize w5.heap.size = gZ at *
      generalize World.alloc w5 _ = v2 at *
      have z0 := BZ.cell 0
      have z1 := BZ.cell 1
      have z2 := BZ.cell 2
      have z3 := BZ.cell 3
      have z4 := BZ.cell 4
      have zl := BZ.lt
      go_wp2_with fail
      go_at_call 26
      refine (st_shelf C _ _ _ _ _ _ _ I3.s I.s I3.es I.es fewS).mono ?_
      rintro e w6 ⟨rfl, b⟩
      clear x0 x1 x2 x3 x4 xl y0 y1 y2 y3 y4 yl z0 z1 z2 z3 z4 zl
      replace BX := BX.keep b BX.lt
      replace BY := BY.keep b BY.lt
      replace BZ := BZ.keep b BZ.lt
      replace I := I.call b
      replace I3 := I3.call b
      replace bel := belowCall bel b
      clear b
      have x0 := BX.cell 0
      have x1 := BX.cell 1
      have x2 := BX.cell 2
      have x3 := BX.cell 3
      have x4 := BX.cell 4
      have xl := BX.lt
      have y0 := BY.cell 0
      have y1 := BY.cell 1
      have y2 := BY.cell 2
      have y3 := BY.cell 3
      have y4 := BY.cell 4
      have yl := BY.lt
      have z0 := BZ.cell 0
      have z1 := BZ.cell 1
      have z2 := BZ.cell 2
      have z3 := BZ.cell 3
      have z4 := BZ.cell 4
      have zl := BZ.lt
      go_wp2_with fail
      go_at_call 27
      refine (st_disk D _ _ _ _ _ _ _ _ _ _ _ _ _ I3.s1 I3.s2 I.s1 I.s2 I3.e1 I3.e2 I.e1 I.e2).mono ?_
      rintro e w7 ⟨rfl, b⟩
      clear x0 x1 x2 x3 x4 xl y0 y1 y2 y3 y4 yl z0 z1 z2 z3 z4 zl
      replace BX := BX.keep b BX.lt
      replace BY := BY.keep b BY.lt
      replace BZ := BZ.keep b BZ.lt
      replace I := I.call b
      replace I3 := I3.call b
      replace bel := belowCall bel b
      clear b
      have x0 := BX.cell 0
      have x1 := BX.cell 1
      have x2 := BX.cell 2
      have x3 := BX.cell 3
      have x4 := BX.cell 4
      have xl := BX.lt
      have y0 := BY.cell 0
      have y1 := BY.cell 1
      have y2 := BY.cell 2
      have y3 := BY.cell 3
      have y4 := BY.cell 4
      have yl := BY.lt
      have z0 := BZ.cell 0
      have z1 := BZ.cell 1
      have z2 := BZ.cell 2
      have z3 := BZ.cell 3
      have z4 := BZ.cell 4
      have zl := BZ.lt
      go_wp2_with fail
      go_at_call 28
      refine (st_shut _ _ _ _ I3.r I3.er).mono ?_
      rintro e w8 ⟨rfl, rfl⟩
      go_wp2_with fail
      go_ret
      exact ⟨rfl, bel⟩
  · clear c1 c2
    have hd : decide (wdE ⟨C, D, U, R⟩ = 0) = false := decide_eq_false h
    generalize wdE ⟨C, D, U, R⟩ = E at *
    go_enter Tryz.func5, Tryz.ntmps5
    go_upto_region 1 with fail
    generalize World.alloc W _ = w1 at *
    have x0 := BX.cell 0
    have x1 := BX.cell 1
    have x2 := BX.cell 2
    have x3 := BX.cell 3
    have x4 := BX.cell 4
    have xl := BX.lt
    go_wp2_with fail
    go_at_call 13
    refine (watched_any _ (hg.call bel)).mono ?_
    rintro e w2 ⟨rfl, b⟩
    clear x0 x1 x2 x3 x4 xl
    replace BX := BX.keep b BX.lt
    replace I := I.call b
    replace bel := belowCall bel b
    clear b
    have x0 := BX.cell 0
    have x1 := BX.cell 1
    have x2 := BX.cell 2
    have x3 := BX.cell 3
    have x4 := BX.cell 4
    have xl := BX.lt
    go_wp2_with fail
    go_at_call 14
    refine (cC _ (hg.call bel) I).mono ?_
    rintro e w3 ⟨rfl, b⟩
    clear x0 x1 x2 x3 x4 xl
    replace BX := BX.keep b BX.lt
    replace I := I.call b
    replace bel := belowCall bel b
    clear b
    have x0 := BX.cell 0
    have x1 := BX.cell 1
    have x2 := BX.cell 2
    have x3 := BX.cell 3
    have x4 := BX.cell 4
    have xl := BX.lt
    go_wp2_with fail
    go_at_call 13
    refine (watched_any _ (hg.call bel)).mono ?_
    rintro e w4 ⟨rfl, b⟩
    go_wp2_with fail
    go_ret
    exact ⟨rfl, belowCall bel b⟩

end Go.Proofs.YtjjfgmcgonkicaaGreatDoor

/-
  Proved: for any world, WorldStands returns true and leaves its argument as it was: a store that loses its power, and is up again, is as it was, but for its readers. Conditions: the listed variables of Go's library start as the program's text lays them (tied by the card).
-/
namespace Go.Proofs.YtjjfgmcgonkicaaGreatDoor.worldStands
open Go.ChangeShapes Go.WideShapes Go.ChangeAt Go.RowKit Go.ChangeMaps
set_option linter.unusedVariables false

def laidL : List (String × DataW Unit) := Rows.worldStandsRow.laid

set_option maxRecDepth 100000 in
theorem lifted (os : Os) (started : os.Started) (H : Type) (enc : TypeId × Value → H) :
    ReturnsInHanded {} Tryz.checked os 5 .any (fun w args => (Rows.worldStandsSpec.pre enc Tryz.prog Tryz.f5 [] false w args ∧ laidMetH Tryz.prog laidL w) ∧ sizedMet enc Tryz.prog Tryz.f5 (OpenSpec.ofChange Rows.worldStandsSpec) false w args)
      (Rows.worldStandsSpec.post enc Tryz.prog Tryz.f5 false true false false) := by
  refine returns_both (C := Tryz.checked) (X := fun w _ => laidMetH Tryz.prog laidL w) (fun _ _ _ hh h => h.of_heap hh) own started (by kernel_rfl) Tryz.func5
    (ChangeSpec.witness_shaped (enc := enc) (C := Tryz.checked) (os := os) (X := fun w _ => laidMetH Tryz.prog laidL w) false (World.laidAll Tryz.prog os laidL) #[.agg #[.slice none 0 0, .slice none 0 0, .slice none 0 0, .bool false, .slice none 0 0]] 8 (World.laidAll_os _ _ _)
      (World.shaped_of_ZipB (by kernel_rfl) (by kernel_rfl)) (by kernel_rfl) (by kernel_rfl) (by kernel_rfl)
      (by rw [MakeChecks.laidMetH_plain _ _ _ (by kernel_rfl)]; exact laidMet_laidAll _ (by kernel_rfl) (by kernel_rfl))) ?_
  intro W base args ds gs before hval0 hW hsz0 hL hsh
  have hsz : (DataW.weightsEach Tryz.prog (Tryz.f5.params.toList ++ Rows.worldStandsSpec.plain.varTypes Tryz.prog) (ds ++ gs)).all (· ≤ reachBytes) = true := hsz0
  have hval : ∀ (j : Nat) t v, Tryz.f5.params[j]? = some t → args[j]? = some v → Value.okWide Tryz.prog W .any base t v := hval0
  have hW' := hW
  obtain ⟨p, q, hA0, hV, rfl, hfz, hnd⟩ := hW
  have hA : DataW.TrodAll enc Tryz.prog W 0 (fun _ => true) true Tryz.f5.params.toList args.toList ds p := hA0
  rw [Tryz.params5] at hA hval hsz
  obtain ⟨v0, vs0, d0, ds0, p0, q0, hargs, rfl, rfl, h0, r0⟩ := trodAll_cons hA
  obtain ⟨rfl, rfl, rfl⟩ := trodAll_nil r0
  obtain rfl : args = #[v0] := by cases args; simp_all
  obtain ⟨rfl, rfl⟩ := trodVars_none hV
  have k0 := h0
  have lt0 : ∀ x ∈ p0, x.block < W.heap.size := by obtain ⟨m, hm⟩ := k0; exact DataW.trod_lt m _ _ _ hm
  obtain ⟨x, q, rfl, I, few, fewS, _⟩ := open_world (hval 0 30 v0 rfl rfl) h0 (rec_light (j := 0) hsz rfl rfl)
  rw [MakeChecks.laidMetH_plain _ _ _ (by kernel_rfl)] at hL
  have g := glob_of hL hsh
  refine (stands_walk x q W g I few fewS).mono fun e W' ⟨he, bel⟩ => ?_
  subst he
  exact ⟨_, rfl, _, _, _, [], _, [], hW', trodAll_mk1 (shut_bool Tryz.underlying4 _), trodAll_cons_mk (Below.trod laidOut (by kernel_rfl) (of_decide_eq_true (by kernel_rfl)) k0 bel lt0) trodAll_mk0, rfl, bel.frame _, fun h => by cases h⟩

theorem row_holds : Rows.WorldStandsSaid :=
  OpenClaim.holds_of_wide 5 Tryz.f5 rfl rfl rfl rfl rfl rfl rfl ⟨rfl, rfl, rfl, rfl, rfl⟩ rfl rfl rfl rfl rfl (by kernel_rfl) Tryz.func5 (by kernel_rfl)
    (of_decide_eq_true (by kernel_rfl)) (by unfold Func.isWrapper; first | (rw [if_pos (by decide +kernel)]; kernel_rfl) | (rw [if_neg (by decide +kernel)]; exact ⟨rfl, rfl⟩))
    (fun os started H enc _ => lifted os started H enc)
end Go.Proofs.YtjjfgmcgonkicaaGreatDoor.worldStands
