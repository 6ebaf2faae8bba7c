/-
  The laws' 'batch': a record of two points.
-/
import Derived.Deep.Cut
import Derived.Deep.RegionHeld3
import Derived.Deep.CutRange
import Derived.Test.YtabeihkfjlmepaaGreatDoorP03
import Derived.Test.YtabeihkfjlmepaaGreatDoorP33
import Derived.Test.YtabeihkfjlmepaaGreatDoorP01
import Derived.Test.YtabeihkfjlmepaaGreatDoorP18
import Derived.Test.YtabeihkfjlmepaaGreatDoorP02
namespace Go.Proofs.YtabeihkfjlmepaaGreatDoor
open Go.RowKit

def rBatch : Rc := ⟨1, 0, 0, [(1, 10, -5), (2, 3, 4)]⟩

theorem slW_of_blk {w : World} {g : Nat} {l : List Nt} {T : TypeId} (B : Blk w g (l.flatMap ec) T) (h : l.length ≤ 1000) : SlW ec w (some ⟨g, 0, none⟩) l.length l := by
  refine ⟨.inr ⟨g, 0, rfl, B.lt, fun i v hv => ?_⟩, Nat.le_refl _, by omega, fun h => by cases h⟩
  rw [Nat.zero_add]
  exact (B.cell i).trans hv

set_option maxRecDepth 100000 in
theorem batch_any (w : World) : Calls Tryz.prog 38 #[] w fun e w' => ∃ g, e = .returned (.agg #[.int .i64 1, .int .i64 0, .int .i64 0, .slice (some ⟨g, 0, none⟩) 2 2]) ∧ SlW ec w' (some ⟨g, 0, none⟩) 2 [(1, 10, -5), (2, 3, 4)] ∧ Below w.heap.size w w' := by
  go_enter Tryz.func38, Tryz.ntmps38
  go_wp2_with fail
  have BA := Blk.laid w [.int .i64 1, .int .i64 0, .int .i64 0, .slice (some ⟨w.heap.size + 1, 0, none⟩) 2 2] 27 _ rfl
  have bel : Below w.heap.size w (w.alloc (.cells #[.int .i64 1, .int .i64 0, .int .i64 0, .slice (some ⟨w.heap.size + 1, 0, none⟩) 2 2] 27)) := (Below.refl _ _).alloc (Nat.le_refl _) _
  have hsz : (w.alloc (.cells #[.int .i64 1, .int .i64 0, .int .i64 0, .slice (some ⟨w.heap.size + 1, 0, none⟩) 2 2] 27)).heap.size = w.heap.size + 1 := by simp
  generalize w.alloc _ = w1 at *
  have BB := Blk.laid w1 ([(1, 10, -5), (2, 3, 4)].flatMap ec) 68 (w.heap.size + 1) hsz.symm
  have BA2 := BA.keep (newB (Below.refl w1.heap.size w1) (.cells ([(1, 10, -5), (2, 3, 4)].flatMap ec).toArray 68)) BA.lt
  have bel2 := newB bel (.cells ([(1, 10, -5), (2, 3, 4)].flatMap ec).toArray 68)
  have sl := slW_of_blk (l := [(1, 10, -5), (2, 3, 4)]) BB (by decide)
  simp only [ec, List.flatMap_cons, List.flatMap_nil, List.cons_append, List.nil_append, List.append_nil] at BB BA2 bel2 sl
  generalize w1.alloc _ = w2 at *
  have i0 : w2.cell? ⟨w.heap.size, 0, none⟩ = some (.int .i64 1) := BA2.cell 0
  have i1 : w2.cell? ⟨w.heap.size, 1, none⟩ = some (.int .i64 0) := BA2.cell 1
  have i2 : w2.cell? ⟨w.heap.size, 2, none⟩ = some (.int .i64 0) := BA2.cell 2
  have i3 : w2.cell? ⟨w.heap.size, 3, none⟩ = some (.slice (some ⟨w.heap.size + 1, 0, none⟩) 2 2) := BA2.cell 3
  exact bodyPost_ret (v := .agg #[.int .i64 1, .int .i64 0, .int .i64 0, .slice (some ⟨w.heap.size + 1, 0, none⟩) 2 2]) (by simp [results, Tryz.results38, go_sem, i0, i1, i2, i3]) rfl ⟨_, rfl, sl, bel2⟩

end Go.Proofs.YtabeihkfjlmepaaGreatDoor

/-
  The closed fact 'stored': a batch, a seal, a drop.
-/
namespace Go.Proofs.YtabeihkfjlmepaaGreatDoor
open Go.RowKit

theorem recLaid (w : World) (l : List Lrc) (cs : Array Value) (hc : cs.toList = l.flatMap Lrc.cells) (t : TypeId) (n : Nat) (hn : n = w.heap.size) (cap : Nat) (hl : l.length = cap) (hm : cap ≤ 9223372036854775807) : SlW Lrc.cells (w.alloc (.cells cs t)) (some ⟨n, 0, none⟩) cap l := by
  have h := Row.laid w cs.toList t n hn
  rw [Array.toArray_toList, hc] at h
  exact ⟨h, by omega, hm, fun e => by cases e⟩

theorem st_k1 : ∀ a G W, IsS W a G stC → Calls Tryz.prog 22 #[.agg #[.slice a 4 G], .agg #[.int .i64 4, .int .i64 0, .int .i64 11, .slice none 0 0]] W (Mk 0 stD 4 W) := by
  intro a G W h
  have c := next_any stC rDr a none G 0 0 4 4 W h (SlW.ofNil ec W) (hide rfl) (hide st_4.symm) (hide st_d4.symm)
  rw [st_f] at c
  exact c

theorem st_k2 : ∀ a G g W, IsS W a G stC → SlW ec W (some ⟨g, 0, none⟩) 2 [(1, 10, -5), (2, 3, 4)] → Calls Tryz.prog 22 #[.agg #[.slice a 4 G], .agg #[.int .i64 1, .int .i64 0, .int .i64 0, .slice (some ⟨g, 0, none⟩) 2 2]] W (Mk 7 [] 0 W) := by
  intro a G g W h s
  have c := next_any stC rBt a (some ⟨g, 0, none⟩) G 2 2 4 0 W h s (hide rfl) (hide st_4.symm) (hide (by rw [st_g0]; rfl))
  rw [st_g, st_g0] at c
  exact c

theorem st_k3 : ∀ a G W, IsS W a G stC → Calls Tryz.prog 22 #[.agg #[.slice a 4 G], .agg #[.int .i64 0, .int .i64 0, .int .i64 0, .slice none 0 0]] W (Mk 4 [] 0 W) := by
  intro a G W h
  have c := next_any stC rNo a none G 0 0 4 0 W h (SlW.ofNil ec W) (hide rfl) (hide st_4.symm) (hide (by rw [st_h0]; rfl))
  rw [st_h, st_h0] at c
  exact c

theorem st_all {C : List Rw} {s : Int} {m : Nat} (h4 : C.length = 4) (he : allE C s = 0) (hl : (allL C s).length = m) : ∀ a G W, IsS W a G C → Calls Tryz.prog 39 #[.agg #[.slice a 4 G], .int .i64 s] W fun e w' => ∃ a' G', e = .returned (.tuple #[.slice a' m G', .int .i64 0]) ∧ Below W.heap.size W w' := by
  intro a G W h
  have c := all_is s h
  rw [h4, he, hl] at c
  refine c.mono ?_
  rintro e w' ⟨a', G', rfl, _, b⟩
  exact ⟨a', G', rfl, b⟩

/-- The two boxes. -/
structure StB (w W : World) (gS gT : Nat) (a1 a2 : Option Addr) (G1 G2 : Nat) : Prop where
  bs : Blk W gS [.slice a1 4 G1] 46
  is : IsS W a1 G1 stC
  bt : Blk W gT [.slice a2 4 G2] 46
  it : IsS W a2 G2 stD
  bel : Below w.heap.size w W

theorem StB.call {w W W' : World} {gS gT : Nat} {a1 a2 : Option Addr} {G1 G2 : Nat} (h : StB w W gS gT a1 a2 G1 G2) (b : Below W.heap.size W W') : StB w W' gS gT a1 a2 G1 G2 :=
  ⟨h.bs.keep b h.bs.lt, h.is.call b, h.bt.keep b h.bt.lt, h.it.call b, belowCall h.bel b⟩

set_option maxHeartbeats 4000000 in
set_option maxRecDepth 100000 in
theorem stored_any (w : World) : Calls Tryz.prog 20 #[] w fun e w' => e = .returned (.bool true) ∧ Below w.heap.size w w' := by
  have cA1 := st_all st_4 st_i.1 st_i.2
  have cA2 := st_all st_d4 st_j.1 st_j.2
  have cA3 := st_all st_d4 st_k.1 st_k.2
  go_enter Tryz.func20, Tryz.ntmps20
  go_wp2_with fail
  go_at_call 38
  refine (batch_any w).mono ?_
  rintro e w1 ⟨g1, rfl, s1, b1⟩
  have SL : SlRec (w1.alloc (.cells #[.int .i64 1, .int .i64 0, .int .i64 0, .slice (some ⟨g1, 0, none⟩) 2 2, .int .i64 2, .int .i64 1, .int .i64 1, .slice none 0 0] 27)) (some ⟨w1.heap.size, 0, none⟩) 2 [⟨rBt, some ⟨g1, 0, none⟩, 2⟩, ⟨rSt, none, 0⟩] := by
    refine ⟨recLaid w1 [⟨rBt, some ⟨g1, 0, none⟩, 2⟩, ⟨rSt, none, 0⟩] #[.int .i64 1, .int .i64 0, .int .i64 0, .slice (some ⟨g1, 0, none⟩) 2 2, .int .i64 2, .int .i64 1, .int .i64 1, .slice none 0 0] rfl 27 _ rfl 2 rfl (by decide), fun x hx => ?_⟩
    simp only [List.mem_cons, List.not_mem_nil, or_false] at hx
    rcases hx with rfl | rfl
    · exact s1.alloc _
    · exact SlW.ofNil ec _
  have cR := fun W S => replay_any [⟨rBt, some ⟨g1, 0, none⟩, 2⟩, ⟨rSt, none, 0⟩] (some ⟨w1.heap.size, 0, none⟩) 2 2 4 W S (hide rfl) (hide st_4.symm)
  have cR' : ∀ W, SlRec W (some ⟨w1.heap.size, 0, none⟩) 2 [⟨rBt, some ⟨g1, 0, none⟩, 2⟩, ⟨rSt, none, 0⟩] → Calls Tryz.prog 19 #[.slice (some ⟨w1.heap.size, 0, none⟩) 2 2] W (Mk 0 stC 4 W) := by
    intro W S
    have c := cR W S
    have e : replE (List.map (fun x : Lrc => x.r) [⟨rBt, some ⟨g1, 0, none⟩, 2⟩, ⟨rSt, none, 0⟩]) = 0 := st_e
    rw [e] at c
    exact c
  have bel := newB b1 (.cells #[.int .i64 1, .int .i64 0, .int .i64 0, .slice (some ⟨g1, 0, none⟩) 2 2, .int .i64 2, .int .i64 1, .int .i64 1, .slice none 0 0] 27)
  clear cR b1 s1
  go_wp2_with fail
  go_at_call 19
  refine (cR' _ SL).mono ?_
  rintro e w2 ⟨a1, G1, rfl, I1, b2⟩
  have BS := Blk.laid w2 [.slice a1 4 G1] 46 _ rfl
  have bq := newB b2 (.cells #[.slice a1 4 G1] 46)
  replace I1 := I1.alloc (.cells #[.slice a1 4 G1] 46)
  replace bel := belowCall bel bq
  clear cR' SL b2 bq
  go_upto_region 2 with fail
  generalize w2.heap.size = gS at *
  generalize World.alloc w2 _ = v2 at *
  have x0 := BS.cell 0
  have xl := BS.lt
  go_wp2_with fail
  go_at_call 22
  refine (st_k1 _ _ _ I1).mono ?_
  rintro e w3 ⟨a2, G2, rfl, I2, b3⟩
  clear x0 xl
  have bq := newB b3 (.cells #[.slice a2 4 G2] 46)
  have H : StB w (w3.alloc (.cells #[.slice a2 4 G2] 46)) gS w3.heap.size a1 a2 G1 G2 := ⟨BS.keep bq BS.lt, I1.call bq, Blk.laid w3 [.slice a2 4 G2] 46 _ rfl, I2.alloc _, belowCall bel bq⟩
  clear BS I1 I2 bel b3 bq
  go_upto_region 3 with fail
  generalize w3.heap.size = gT at *
  generalize World.alloc w3 _ = v3 at *
  have x0 := H.bs.cell 0
  have xl := H.bs.lt
  have k0 : Below v3.heap.size v3 v3.drew := belowDrew (Below.refl _ _)
  have kB : ∀ W, Below v3.heap.size v3 W → Calls Tryz.prog 38 #[] W fun e w' => ∃ g, e = .returned (.agg #[.int .i64 1, .int .i64 0, .int .i64 0, .slice (some ⟨g, 0, none⟩) 2 2]) ∧ SlW ec w' (some ⟨g, 0, none⟩) 2 [(1, 10, -5), (2, 3, 4)] ∧ w'.cell? ⟨gS, 0, none⟩ = some (.slice a1 4 G1) ∧ gS < w'.heap.size ∧ Below v3.heap.size v3 w' ∧ Below W.heap.size W w' := by
    intro W h
    refine (batch_any W).mono ?_
    rintro e w' ⟨g, rfl, s, b⟩
    have bb := belowCall h b
    exact ⟨g, rfl, s, (H.call bb).bs.cell 0, (H.call bb).bs.lt, bb, b⟩
  have kN : ∀ g W, Below v3.heap.size v3 W → SlW ec W (some ⟨g, 0, none⟩) 2 [(1, 10, -5), (2, 3, 4)] → Calls Tryz.prog 22 #[.agg #[.slice a1 4 G1], .agg #[.int .i64 1, .int .i64 0, .int .i64 0, .slice (some ⟨g, 0, none⟩) 2 2]] W fun e w' => ∃ a' G', e = .returned (.tuple #[.agg #[.slice a' 0 G'], .int .i64 7]) ∧ w'.cell? ⟨gS, 0, none⟩ = some (.slice a1 4 G1) ∧ gS < w'.heap.size ∧ Below v3.heap.size v3 w' ∧ Below W.heap.size W w' := by
    intro g W h s
    refine (st_k2 _ _ g W (H.call h).is s).mono ?_
    rintro e w' ⟨a', G', rfl, _, b⟩
    have bb := belowCall h b
    exact ⟨a', G', rfl, (H.call bb).bs.cell 0, (H.call bb).bs.lt, bb, b⟩
  have nV := Nat.ne_of_lt xl
  have nV' := Nat.ne_of_gt xl
  have Q0 : Blk ((v3.alloc (.cells #[.slice none 0 0] 46)).drew) v3.heap.size [.slice none 0 0] 46 := Blk.laid v3 [.slice none 0 0] 46 _ rfl
  go_cut [5, 6] from 28 to 33 (fun s5 s6 wx => s6 = .int .i64 7 ∧ Below v3.heap.size v3 wx)
  case first =>
    go_region_held3 (fun w' => w'.cell? ⟨gS, 0, none⟩ = some (.slice a1 4 G1)) (go_keep)
      (first
        | (go_at_call 38; refine (kB _ (by first | exact k0 | exact belowDrew (newB (Below.refl _ _) _) | assumption)).mono ?_; rintro e wA ⟨gb, rfl, sA, y0, yl, zA, zV⟩; have nA := Nat.ne_of_lt yl; have nA' := Nat.ne_of_gt yl)
        | (go_at_call 22; refine (kN _ _ (by first | exact zA | exact newB zA _) (by first | exact sA | exact sA.alloc _)).mono ?_; rintro e wB ⟨a', G', rfl, y1, yl2, zB, zW⟩; have nB := Nat.ne_of_lt yl2; have nB' := Nat.ne_of_gt yl2; (first | (have Q := (Blk.laid wA [.slice none 0 0] 46 _ rfl).keep zW (by simp); have q0 := Q.cell 0; have qf := Q.free 0; have ql := Q.lt) | (have Q := (Q0.keep zV Q0.lt).keep zW (Q0.keep zV Q0.lt).lt; have q0 := Q.cell 0; have qf := Q.free 0; have ql := Q.lt) | skip)))
    all_goals (
      go_wp2_with fail
      go_meet
      case rel => exact ⟨rfl, by first | exact zB | exact newB zB _ | exact zB.setCell zA.size _ | exact zB.setCell (Nat.le_refl _) _ | exact (newB zB _).setCell zB.size _⟩)
  case rest =>
    obtain ⟨rfl, hcut⟩ := hcut
    replace H := H.call hcut
    clear hcut kB kN k0 x0 xl nV nV' Q0
    have x0 := H.bs.cell 0
    have xl := H.bs.lt
    go_wp2_with fail
    go_at_call 22
    refine (st_k3 _ _ _ H.is).mono ?_
    rintro e w4 ⟨a4, G4, rfl, _, b4⟩
    clear x0 xl
    replace H := H.call (newB b4 (.cells #[.slice a4 0 G4] 46))
    clear b4
    go_upto_region 5 with fail
    generalize w4.heap.size = g4 at *
    generalize World.alloc w4 _ = v4 at *
    have x0 := H.bs.cell 0
    have xl := H.bs.lt
    go_wp2_with fail
    go_at_call 39
    refine (cA1 _ _ _ H.is).mono ?_
    rintro e w5 ⟨a5, G5, rfl, b5⟩
    clear x0 xl
    replace H := H.call b5
    have x0 := H.bt.cell 0
    have xl := H.bt.lt
    go_wp2_with fail
    go_at_call 39
    refine (cA2 _ _ _ H.it).mono ?_
    rintro e w6 ⟨a6, G6, rfl, b6⟩
    clear x0 xl
    replace H := H.call b6
    have x0 := H.bt.cell 0
    have xl := H.bt.lt
    go_wp2_with fail
    go_at_call 39
    refine (cA3 _ _ _ H.it).mono ?_
    rintro e w7 ⟨a7, G7, rfl, b7⟩
    clear x0 xl
    replace H := H.call b7
    go_wp2_with fail
    go_ret
    exact ⟨rfl, H.bel⟩

end Go.Proofs.YtabeihkfjlmepaaGreatDoor

/-
  slices.Equal, at bools: it returns whether the two lists are the same; it only reads.
-/
namespace Go.Proofs.YtabeihkfjlmepaaGreatDoor
open Go.RowKit

set_option maxHeartbeats 1000000 in
set_option maxRecDepth 100000 in
theorem equalBool (a1 a2 : Option Addr) (c1 c2 : Nat) (l m : List Bool) (w : World) (r1 : Row w a1 (l.map Value.bool)) (r2 : Row w a2 (m.map Value.bool)) (hl : l.length ≤ 4611686018427387904) (hm : m.length ≤ 4611686018427387904) :
    Calls Tryz.prog 102 #[.slice a1 l.length c1, .slice a2 m.length c2] w fun e w' => e = .returned (.bool (decide (l = m))) ∧ ∃ q, w' = w.drewN q := by
  by_cases hnm : l.length = m.length
  · generalize hn : l.length = n at *
    have hm' := hnm.symm
    rw [hm'] at hm ⊢
    by_cases h0 : n = 0
    · subst h0
      obtain rfl := List.eq_nil_of_length_eq_zero hn
      obtain rfl := List.eq_nil_of_length_eq_zero hm'
      clear hn hm' hnm hl hm r1 r2
      go_enter Tryz.func102, Tryz.ntmps102
      go_wp2
      refine wp_loop_rounds 1 ?_
      rw [rounds_succ]
      go_wp2
      go_ret
      exact ⟨rfl, 0, rfl⟩
    obtain ⟨b1, o1, rfl, -, k1⟩ := r1.at (by intro h; simp at h; subst h; simp at hn; omega)
    obtain ⟨b2, o2, rfl, -, k2⟩ := r2.at (by intro h; simp at h; subst h; simp at hm'; omega)
    have g1 := fun k hk => boolAt k1 k hk
    have g2 := fun k hk => boolAt k2 k hk
    clear k1 k2 r1 r2
    have HL : Hid (l.length = n) := hn
    have HM : Hid (m.length = n) := hm'
    clear hn hm' hnm
    go_enter Tryz.func102, Tryz.ntmps102
    go_wp2
    go_loopg [13] n (fun g s13 wr => ∃ k q : Nat, k ≤ n ∧ n - k ≤ g ∧ s13 = .int .i64 k ∧ wr = w.drewN q ∧ Hid (∀ j, j < k → l.getD j false = m.getD j false))
    case atStart => exact ⟨0, 0, Nat.zero_le _, by omega, rfl, rfl, fun j hj => absurd hj (Nat.not_lt_zero _)⟩
    case round =>
      obtain ⟨k, q, hk, hg, rfl, rfl, A⟩ := hrel
      by_cases hlt : k < n
      · have e1 := g1 k (by rw [HL.out]; exact hlt)
        have e2 := g2 k (by rw [HM.out]; exact hlt)
        clear g1 g2
        generalize hx : l.getD k false = x at e1
        generalize hy : m.getD k false = y at e2
        have B : Hid (l.getD k false = x ∧ m.getD k false = y) := ⟨hx, hy⟩
        clear hx hy
        cases hxy : (x == y) with
        | true =>
          obtain rfl : x = y := by simpa using hxy
          clear hxy
          go_wp2_with fail
          go_region
          all_goals go_wp2
          all_goals go_roundg (n - (k + 1))
          case measure => omega
          case rel =>
            refine ⟨k + 1, q + 1, by omega, by omega, by go_num, rfl, (show Hid _ from fun j hj => ?_)⟩
            by_cases e : j = k
            · subst e
              rw [B.out.1, B.out.2]
            · exact A.out j (by omega)
        | false =>
          go_wp2_with fail
          go_region
          all_goals go_wp2
          all_goals go_ret
          refine ⟨?_, q + 1, rfl⟩
          have hne : l ≠ m := listNe (d := false) (k := k) (by rw [B.out.1, B.out.2]; simpa using hxy)
          simp [hne]
      · have : k = n := by omega
        subst this
        clear g1 g2
        go_wp2
        go_ret
        refine ⟨?_, q, rfl⟩
        have he : l = m := listEq (d := false) (HL.out.trans HM.out.symm) (fun j hj => A.out j (by rw [← HL.out]; exact hj))
        simp [he]
  · have hnm' : ¬ (l.length : Int) = (m.length : Int) := by omega
    have hne : l ≠ m := fun e => hnm (by rw [e])
    clear r1 r2
    have H : Hid (l ≠ m) := hne
    clear hne
    generalize l.length = x at *
    generalize m.length = y at *
    go_enter Tryz.func102, Tryz.ntmps102
    go_wp2
    go_ret
    refine ⟨?_, 0, rfl⟩
    simp [H.out]

end Go.Proofs.YtabeihkfjlmepaaGreatDoor

/-
  block.Same: are all fields of two blocks alike?
-/
namespace Go.Proofs.YtabeihkfjlmepaaGreatDoor
open Go.RowKit

set_option maxHeartbeats 400000 in
set_option maxRecDepth 100000 in
theorem same_any (a b : Bk) (ao bo : Option Addr) (ca cb : Nat) (w : World) (ha : Sl w ao ca (a.bits.map Value.bool)) (hb : Sl w bo cb (b.bits.map Value.bool)) (la : a.bits.length ≤ 140737488355328) (lb : b.bits.length ≤ 140737488355328) :
    Calls Tryz.prog 79 #[bkV a ao ca, bkV b bo cb] w fun e w' => e = .returned (.bool (sameB a b)) ∧ Below w.heap.size w w' := by
  obtain ⟨an, af, aT, X⟩ := a
  obtain ⟨bn, bf, bT, Y⟩ := b
  unfold bkV sameB
  simp only at *
  have c1 := fun W h k => equalBool ao bo ca cb X Y W h k (by omega) (by omega)
  generalize decide (X = Y) = D at *
  clear la lb
  have sa := fun o1 o2 => (ha.alloc o1).alloc o2
  have sb := fun o1 o2 => (hb.alloc o1).alloc o2
  by_cases h1 : an = bn
  · subst h1
    by_cases h2 : af = bf
    · subst h2
      by_cases h3 : aT = bT
      · subst h3
        go_enter Tryz.func79, Tryz.ntmps79
        go_wp2_with fail
        go_at_call 102
        refine (c1 _ (sa _ _).row (sb _ _).row).mono ?_
        rintro e w1 ⟨rfl, q, rfl⟩
        go_wp2_with fail
        go_ret
        exact ⟨by simp, belowDrewN (below2 w _ _) q⟩
      · go_enter Tryz.func79, Tryz.ntmps79
        go_wp2_with fail
        go_ret
        exact ⟨by simp [h3], below2 w _ _⟩
    · go_enter Tryz.func79, Tryz.ntmps79
      go_wp2_with fail
      go_ret
      exact ⟨by simp [h2], below2 w _ _⟩
  · go_enter Tryz.func79, Tryz.ntmps79
    go_wp2_with fail
    go_ret
    exact ⟨by simp [h1], below2 w _ _⟩

end Go.Proofs.YtabeihkfjlmepaaGreatDoor

/-
  slices.Equal, at points: it returns whether the two lists are the same; it only reads.
-/
namespace Go.Proofs.YtabeihkfjlmepaaGreatDoor
open Go.RowKit

theorem hide' {p : Prop} (h : p) : Hid p := h

set_option maxHeartbeats 1000000 in
set_option maxRecDepth 100000 in
theorem equalPt (a1 a2 : Option Addr) (c1 c2 : Nat) (l m : List Pt) (w : World) (r1 : SlP w a1 c1 l) (r2 : SlP w a2 c2 m) (hl : l.length ≤ 4611686018427387904) (hm : m.length ≤ 4611686018427387904) :
    Calls Tryz.prog 80 #[.slice a1 l.length c1, .slice a2 m.length c2] w fun e w' => e = .returned (.bool (decide (l = m))) ∧ ∃ q, w' = w.drewN q := by
  by_cases hnm : l.length = m.length
  · generalize hn : l.length = n at *
    have hm' := hnm.symm
    rw [hm'] at hm ⊢
    by_cases h0 : n = 0
    · subst h0
      obtain rfl := List.eq_nil_of_length_eq_zero hn
      obtain rfl := List.eq_nil_of_length_eq_zero hm'
      clear hn hm' hnm hl hm r1 r2
      go_enter Tryz.func80, Tryz.ntmps80
      go_wp2
      refine wp_loop_rounds 1 ?_
      rw [rounds_succ]
      go_wp2
      go_ret
      exact ⟨rfl, 0, rfl⟩
    obtain ⟨b1, o1, rfl, -⟩ := r1.where (by intro h; subst h; simp at hn; omega)
    obtain ⟨b2, o2, rfl, -⟩ := r2.where (by intro h; subst h; simp at hm'; omega)
    have g1 := fun k hk => r1.pt k hk
    have g2 := fun k hk => r2.pt k hk
    clear r1 r2
    have HL : Hid (l.length = n) := hn
    have HM : Hid (m.length = n) := hm'
    clear hn hm' hnm
    go_enter Tryz.func80, Tryz.ntmps80
    go_wp2
    go_loopg [13] n (fun g s13 wr => ∃ k q : Nat, k ≤ n ∧ n - k ≤ g ∧ s13 = .int .i64 k ∧ wr = w.drewN q ∧ Hid (∀ j : Nat, j < k → l[j]? = m[j]?))
    case atStart => exact ⟨0, 0, Nat.zero_le _, by omega, rfl, rfl, fun j hj => absurd hj (Nat.not_lt_zero _)⟩
    case round =>
      obtain ⟨k, q, hk, hg, rfl, rfl, A⟩ := hrel
      by_cases hlt : k < n
      · obtain ⟨x, y, e1, e2, hx, -⟩ := g1 k (by rw [HL.out]; exact hlt)
        obtain ⟨x', y', e3, e4, hy, -⟩ := g2 k (by rw [HM.out]; exact hlt)
        clear g1 g2
        have B : Hid (l[k]? = some (x, y) ∧ m[k]? = some (x', y')) := ⟨hx, hy⟩
        clear hx hy
        by_cases hxy : x = x' ∧ y = y'
        · obtain ⟨rfl, rfl⟩ := hxy
          go_wp2_with fail
          go_region
          all_goals go_wp2
          all_goals go_roundg (n - (k + 1))
          case measure => omega
          case rel =>
            refine ⟨k + 1, q + 1, by omega, by omega, by go_num, rfl, (show Hid _ from fun j hj => ?_)⟩
            by_cases e : j = k
            · subst e
              rw [B.out.1, B.out.2]
            · exact A.out j (by omega)
        · have hne : l ≠ m := fun h => hxy (by have h2 := B.out.2; rw [← h, B.out.1] at h2; simpa using h2)
          have HN := hide' hne
          clear hne
          by_cases hx : x = x'
          · subst hx
            have hy : ¬ y = y' := fun h => hxy ⟨rfl, h⟩
            clear hxy
            go_wp2_with fail
            go_region
            all_goals go_wp2
            all_goals go_ret
            refine ⟨?_, q + 1, rfl⟩
            simp [HN.out]
          · clear hxy
            go_wp2_with fail
            go_region
            all_goals go_wp2
            all_goals go_ret
            refine ⟨?_, q + 1, rfl⟩
            simp [HN.out]
      · have : k = n := by omega
        subst this
        clear g1 g2
        go_wp2
        go_ret
        refine ⟨?_, q, rfl⟩
        have he : l = m := by
          apply List.ext_getElem?
          intro i
          by_cases hi : i < k
          · exact A.out i hi
          · rw [List.getElem?_eq_none (by rw [HL.out]; omega), List.getElem?_eq_none (by rw [HM.out]; omega)]
        simp [he]
  · have hnm' : ¬ (l.length : Int) = (m.length : Int) := by omega
    have hne : l ≠ m := fun e => hnm (by rw [e])
    clear r1 r2
    have H : Hid (l ≠ m) := hne
    clear hne
    generalize l.length = x at *
    generalize m.length = y at *
    go_enter Tryz.func80, Tryz.ntmps80
    go_wp2
    go_ret
    refine ⟨?_, 0, rfl⟩
    simp [H.out]

end Go.Proofs.YtabeihkfjlmepaaGreatDoor
