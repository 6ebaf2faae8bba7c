/-
  NoteSays: the walk.
-/
import Derived.Test.YthoclnjfbigdiaaDoorNNoted
import Derived.Test.YthoclnjfbigdiaaDoorRText
import Derived.Test.YthoclnjfbigdiaaDoorRRead
namespace Go.Proofs.YthoclnjfbigdiaaDoor.noteSays
open Go.RowKit
set_option linter.unusedVariables false

theorem own_slW {w : World} {base n : Nat} {a : Option Addr} {G : Nat} {l : List Nt} (o : w.ownsRow base 59 3 (.slice a n G) n (l.flatMap ec)) : SlW ec w a G l := by
  obtain ⟨a5, G5, e5, s5, _, _⟩ := SlW.ofOwn ec_three (by decide) o
  simp only [Value.slice.injEq, true_and] at e5
  obtain ⟨rfl, rfl⟩ := e5
  exact s5

set_option maxHeartbeats 4000000 in
set_option maxRecDepth 100000 in
theorem walk (w : World) (r q : Rc) (a1 a2 : Option Addr) (c1 c2 n1 n2 : Nat) (S1 : SlW ec w a1 c1 r.e) (S2 : SlW ec w a2 c2 q.e) (hn1 : n1 = r.e.length) (hn2 : n2 = q.e.length) (s : ByteArray) (hs : s.size ≤ 9223372036854775807) (hg : Gl w) :
    Calls Tryd.prog 3 #[.agg #[.int .i64 r.k, .int .i64 r.s, .int .i64 r.n, .slice a1 n1 c1], .agg #[.int .i64 q.k, .int .i64 q.s, .int .i64 q.n, .slice a2 n2 c2], .string s] w fun e w' => e = .returned (.bool true) ∧ Below w.heap.size w w' := by
  have cP := fun W g h => print_is r a1 c1 n1 W g h hn1
  have cT := fun W g h => rtext_is r a1 c1 n1 W g h hn1
  have cC := fun W h => check_is r a1 c1 n1 W h hn1
  have cS := fun W h1 h2 => same_is r q a1 a2 c1 c2 n1 n2 W h1 h2 hn1 hn2
  have cR := fun W h1 h2 => rsame_is r q a1 a2 c1 c2 n1 n2 W h1 h2 hn1 hn2
  have cU := fun W g => parse_is s W g hs
  have B1 := (Blk.laid w [.int .i64 r.k, .int .i64 r.s, .int .i64 r.n, .slice a1 n1 c1] 24 _ rfl).keep (newB (Below.refl _ _) (.cells #[.int .i64 q.k, .int .i64 q.s, .int .i64 q.n, .slice a2 n2 c2] 24)) (by simp)
  have B2 := Blk.laid (w.alloc (.cells #[.int .i64 r.k, .int .i64 r.s, .int .i64 r.n, .slice a1 n1 c1] 24)) [.int .i64 q.k, .int .i64 q.s, .int .i64 q.n, .slice a2 n2 c2] 24 (w.heap.size + 1) (by simp)
  have bel := newB (newB (Below.refl w.heap.size w) (.cells #[.int .i64 r.k, .int .i64 r.s, .int .i64 r.n, .slice a1 n1 c1] 24)) (.cells #[.int .i64 q.k, .int .i64 q.s, .int .i64 q.n, .slice a2 n2 c2] 24)
  replace S1 := S1.keep bel (Nat.le_refl _)
  replace S2 := S2.keep bel (Nat.le_refl _)
  have g := hg.call bel
  obtain ⟨K, s1, m1, l1'⟩ := r
  obtain ⟨K2, s2, m2, l2'⟩ := q
  simp only at *
  generalize hw2 : (w.alloc (.cells #[.int .i64 K, .int .i64 s1, .int .i64 m1, .slice a1 n1 c1] 24)).alloc (.cells #[.int .i64 K2, .int .i64 s2, .int .i64 m2, .slice a2 n2 c2] 24) = w2 at *
  generalize recE ⟨K, s1, m1, l1'⟩ = E at *
  generalize (⟨(recT ⟨K, s1, m1, l1'⟩).toArray⟩ : ByteArray) = TX at *
  generalize decide (K = K2 ∧ s1 = s2 ∧ m1 = m2 ∧ l1' = l2') = D at *
  have x0 := B1.cell 0
  have x1 := B1.cell 1
  have x2 := B1.cell 2
  have x3 := B1.cell 3
  have y0 := B2.cell 0
  have y1 := B2.cell 1
  have y2 := B2.cell 2
  have y3 := B2.cell 3
  have l1 := B1.lt
  have l2 := B2.lt
  replace hn1 := hide hn1
  replace hn2 := hide hn2
  obtain ⟨gA, hgA⟩ : ∃ gA, gA = w.heap.size := ⟨_, rfl⟩
  obtain ⟨gB, hgB⟩ : ∃ gB, gB = w.heap.size + 1 := ⟨_, rfl⟩
  go_enter Tryd.func3, Tryd.ntmps3
  go_wp2_with fail
  go_at_call 6
  refine (cP _ g S1).mono ?_
  rintro e w3 ⟨rfl, b3⟩
  clear x0 x1 x2 x3 y0 y1 y2 y3 l1 l2 hw2
  replace B1 := B1.keep b3 B1.lt
  replace B2 := B2.keep b3 B2.lt
  replace S1 := S1.call b3
  replace S2 := S2.call b3
  replace g := g.call b3
  replace bel := belowCall bel b3
  have x0 := B1.cell 0
  have x1 := B1.cell 1
  have x2 := B1.cell 2
  have x3 := B1.cell 3
  have l1 := B1.lt
  go_wp2_with fail
  go_at_call 7
  refine (cU _ g).mono ?_
  rintro e w4 ⟨a7, G7, rfl, o7, b4⟩
  clear x0 x1 x2 x3 l1
  replace B1 := B1.keep b4 B1.lt
  replace B2 := B2.keep b4 B2.lt
  replace S1 := S1.call b4
  replace S2 := S2.call b4
  replace g := g.call b4
  replace bel := belowCall bel b4
  have S7 := own_slW o7
  generalize hPR : parseR s = PR at *
  obtain ⟨K7, s7, m7, l7⟩ := PR
  simp only at *
  obtain ⟨n7, hn7⟩ : ∃ n7, n7 = l7.length := ⟨_, rfl⟩
  rw [← hn7]
  have B7 := Blk.laid w4 [.int .i64 K7, .int .i64 s7, .int .i64 m7, .slice a7 n7 G7] 24 _ rfl
  have bq := newB (Below.refl w4.heap.size w4) (.cells #[.int .i64 K7, .int .i64 s7, .int .i64 m7, .slice a7 n7 G7] 24)
  replace S7 := S7.call bq
  replace B1 := B1.keep bq B1.lt
  replace B2 := B2.keep bq B2.lt
  replace S1 := S1.call bq
  replace S2 := S2.call bq
  replace g := g.call bq
  replace bel := belowCall bel bq
  clear o7 b3 b4 bq cU
  replace hn7 := hide hn7
  replace hPR := hide hPR
  go_upto_region 3 with fail
  generalize w4.heap.size = gQ at *
  generalize w4.alloc _ = w5 at *
  have x0 := B1.cell 0
  have x1 := B1.cell 1
  have x2 := B1.cell 2
  have x3 := B1.cell 3
  have l1 := B1.lt
  go_wp2_with fail
  go_at_call 8
  refine (cT _ g S1).mono ?_
  rintro e w6 ⟨rfl, b6⟩
  clear x0 x1 x2 x3 l1
  replace B1 := B1.keep b6 B1.lt
  replace B2 := B2.keep b6 B2.lt
  replace B7 := B7.keep b6 B7.lt
  replace S1 := S1.call b6
  replace S2 := S2.call b6
  replace S7 := S7.call b6
  replace g := g.call b6
  replace bel := belowCall bel b6
  have x0 : w6.cell? ⟨w.heap.size, 0, none⟩ = some (.int .i64 K) := B1.cell 0
  have x1 : w6.cell? ⟨w.heap.size, 1, none⟩ = some (.int .i64 s1) := B1.cell 1
  have x2 : w6.cell? ⟨w.heap.size, 2, none⟩ = some (.int .i64 m1) := B1.cell 2
  have x3 : w6.cell? ⟨w.heap.size, 3, none⟩ = some (.slice a1 n1 c1) := B1.cell 3
  have y0 : w6.cell? ⟨w.heap.size + 1, 0, none⟩ = some (.int .i64 K2) := B2.cell 0
  have y1 : w6.cell? ⟨w.heap.size + 1, 1, none⟩ = some (.int .i64 s2) := B2.cell 1
  have y2 : w6.cell? ⟨w.heap.size + 1, 2, none⟩ = some (.int .i64 m2) := B2.cell 2
  have y3 : w6.cell? ⟨w.heap.size + 1, 3, none⟩ = some (.slice a2 n2 c2) := B2.cell 3
  have l1 := B1.lt
  have l2 := B2.lt
  have cells : ∀ W, Below w6.heap.size w6 W → W.cell? ⟨w.heap.size, 0, none⟩ = some (.int .i64 K) ∧ W.cell? ⟨w.heap.size, 1, none⟩ = some (.int .i64 s1) ∧ W.cell? ⟨w.heap.size, 2, none⟩ = some (.int .i64 m1) ∧ W.cell? ⟨w.heap.size, 3, none⟩ = some (.slice a1 n1 c1) ∧ W.cell? ⟨w.heap.size + 1, 0, none⟩ = some (.int .i64 K2) ∧ W.cell? ⟨w.heap.size + 1, 1, none⟩ = some (.int .i64 s2) ∧ W.cell? ⟨w.heap.size + 1, 2, none⟩ = some (.int .i64 m2) ∧ W.cell? ⟨w.heap.size + 1, 3, none⟩ = some (.slice a2 n2 c2) ∧ Below w6.heap.size w6 W := fun W h =>
    ⟨(B1.keep h B1.lt).cell 0, (B1.keep h B1.lt).cell 1, (B1.keep h B1.lt).cell 2, (B1.keep h B1.lt).cell 3, (B2.keep h B2.lt).cell 0, (B2.keep h B2.lt).cell 1, (B2.keep h B2.lt).cell 2, (B2.keep h B2.lt).cell 3, h⟩
  have kN : ∀ W, Below w6.heap.size w6 W → Calls Tryd.prog 9 #[] W fun e w' => e = .returned (.bool true) ∧ w'.cell? ⟨w.heap.size, 0, none⟩ = some (.int .i64 K) ∧ w'.cell? ⟨w.heap.size, 1, none⟩ = some (.int .i64 s1) ∧ w'.cell? ⟨w.heap.size, 2, none⟩ = some (.int .i64 m1) ∧ w'.cell? ⟨w.heap.size, 3, none⟩ = some (.slice a1 n1 c1) ∧ w'.cell? ⟨w.heap.size + 1, 0, none⟩ = some (.int .i64 K2) ∧ w'.cell? ⟨w.heap.size + 1, 1, none⟩ = some (.int .i64 s2) ∧ w'.cell? ⟨w.heap.size + 1, 2, none⟩ = some (.int .i64 m2) ∧ w'.cell? ⟨w.heap.size + 1, 3, none⟩ = some (.slice a2 n2 c2) ∧ Below w6.heap.size w6 w' := by
    intro W h
    refine (noted_any W (g.call h)).mono ?_
    rintro e w' ⟨rfl, b⟩
    exact ⟨rfl, cells _ (belowCall h b)⟩
  have kC : ∀ W, Below w6.heap.size w6 W → Calls Tryd.prog 10 #[.agg #[.int .i64 K, .int .i64 s1, .int .i64 m1, .slice a1 n1 c1]] W fun e w' => e = .returned (.int .i64 E) ∧ w'.cell? ⟨w.heap.size, 0, none⟩ = some (.int .i64 K) ∧ w'.cell? ⟨w.heap.size, 1, none⟩ = some (.int .i64 s1) ∧ w'.cell? ⟨w.heap.size, 2, none⟩ = some (.int .i64 m1) ∧ w'.cell? ⟨w.heap.size, 3, none⟩ = some (.slice a1 n1 c1) ∧ w'.cell? ⟨w.heap.size + 1, 0, none⟩ = some (.int .i64 K2) ∧ w'.cell? ⟨w.heap.size + 1, 1, none⟩ = some (.int .i64 s2) ∧ w'.cell? ⟨w.heap.size + 1, 2, none⟩ = some (.int .i64 m2) ∧ w'.cell? ⟨w.heap.size + 1, 3, none⟩ = some (.slice a2 n2 c2) ∧ Below w6.heap.size w6 w' := by
    intro W h
    refine (cC W (S1.call h)).mono ?_
    rintro e w' ⟨rfl, b⟩
    exact ⟨rfl, cells _ (belowCall h b)⟩
  have kS : ∀ W, Below w6.heap.size w6 W → Calls Tryd.prog 11 #[.agg #[.int .i64 K, .int .i64 s1, .int .i64 m1, .slice a1 n1 c1], .agg #[.int .i64 K2, .int .i64 s2, .int .i64 m2, .slice a2 n2 c2]] W fun e w' => e = .returned (.bool D) ∧ w'.cell? ⟨w.heap.size, 0, none⟩ = some (.int .i64 K) ∧ w'.cell? ⟨w.heap.size, 1, none⟩ = some (.int .i64 s1) ∧ w'.cell? ⟨w.heap.size, 2, none⟩ = some (.int .i64 m1) ∧ w'.cell? ⟨w.heap.size, 3, none⟩ = some (.slice a1 n1 c1) ∧ w'.cell? ⟨w.heap.size + 1, 0, none⟩ = some (.int .i64 K2) ∧ w'.cell? ⟨w.heap.size + 1, 1, none⟩ = some (.int .i64 s2) ∧ w'.cell? ⟨w.heap.size + 1, 2, none⟩ = some (.int .i64 m2) ∧ w'.cell? ⟨w.heap.size + 1, 3, none⟩ = some (.slice a2 n2 c2) ∧ Below w6.heap.size w6 w' := by
    intro W h
    refine (cS W (S1.call h) (S2.call h)).mono ?_
    rintro e w' ⟨rfl, b⟩
    exact ⟨rfl, cells _ (belowCall h b)⟩
  have kR : ∀ W, Below w6.heap.size w6 W → Calls Tryd.prog 12 #[.agg #[.int .i64 K, .int .i64 s1, .int .i64 m1, .slice a1 n1 c1], .agg #[.int .i64 K2, .int .i64 s2, .int .i64 m2, .slice a2 n2 c2]] W fun e w' => e = .returned (.bool D) ∧ w'.cell? ⟨w.heap.size, 0, none⟩ = some (.int .i64 K) ∧ w'.cell? ⟨w.heap.size, 1, none⟩ = some (.int .i64 s1) ∧ w'.cell? ⟨w.heap.size, 2, none⟩ = some (.int .i64 m1) ∧ w'.cell? ⟨w.heap.size, 3, none⟩ = some (.slice a1 n1 c1) ∧ w'.cell? ⟨w.heap.size + 1, 0, none⟩ = some (.int .i64 K2) ∧ w'.cell? ⟨w.heap.size + 1, 1, none⟩ = some (.int .i64 s2) ∧ w'.cell? ⟨w.heap.size + 1, 2, none⟩ = some (.int .i64 m2) ∧ w'.cell? ⟨w.heap.size + 1, 3, none⟩ = some (.slice a2 n2 c2) ∧ Below w6.heap.size w6 w' := by
    intro W h
    refine (cR W (S1.call h) (S2.call h)).mono ?_
    rintro e w' ⟨rfl, b⟩
    exact ⟨rfl, cells _ (belowCall h b)⟩
  have k0 : Below w6.heap.size w6 w6.drew := belowDrew (Below.refl _ _)
  clear cells cP cT cC cS cR b6
  go_upto_region 4 with fail
  go_cut [56] from 30 to 55 (fun s56 wx => s56 = .bool false ∧ Below w6.heap.size w6 wx)
  case first =>
    go_region_held3 (fun w' => w'.cell? ⟨w.heap.size, 0, none⟩ = some (.int .i64 K) ∧ w'.cell? ⟨w.heap.size, 1, none⟩ = some (.int .i64 s1) ∧ w'.cell? ⟨w.heap.size, 2, none⟩ = some (.int .i64 m1) ∧ w'.cell? ⟨w.heap.size, 3, none⟩ = some (.slice a1 n1 c1) ∧ w'.cell? ⟨w.heap.size + 1, 0, none⟩ = some (.int .i64 K2) ∧ w'.cell? ⟨w.heap.size + 1, 1, none⟩ = some (.int .i64 s2) ∧ w'.cell? ⟨w.heap.size + 1, 2, none⟩ = some (.int .i64 m2) ∧ w'.cell? ⟨w.heap.size + 1, 3, none⟩ = some (.slice a2 n2 c2) ∧ Below w6.heap.size w6 w') (simp [*])
      (first
        | (go_at_call 9; refine (kN _ (by assumption)).mono ?_; rintro e wA ⟨rfl, z0, z1, z2, z3, z4, z5, z6, z7, zA⟩)
        | (go_at_call 10; refine (kC _ zA).mono ?_; rintro e wB ⟨rfl, p0, p1, p2, p3, p4, p5, p6, p7, zB⟩)
        | (go_at_call 11; refine (kS _ zB).mono ?_; rintro e wC ⟨rfl, r0, r1, r2, r3, r4, r5, r6, r7, zC⟩)
        | (go_at_call 12; refine (kR _ zC).mono ?_; rintro e wD ⟨rfl, t0, t1, t2, t3, t4, t5, t6, t7, zD⟩))
    all_goals (
      go_wp2_with fail
      go_meet
      case rel => exact ⟨rfl, zD⟩)
  case rest =>
    obtain ⟨rfl, hcut⟩ := hcut
    replace B7 := B7.keep hcut B7.lt
    replace S7 := S7.call hcut
    replace g := g.call hcut
    replace bel := belowCall bel hcut
    clear hcut kN kC kS kR k0 x0 x1 x2 x3 y0 y1 y2 y3 l1 l2 B1 B2 S1 S2
    by_cases hb : 60000 < s.size
    · have hb' : (60000 : Int) < s.size := by omega
      have hPE : parseE s = 2 := if_pos hb
      have e7 : (⟨K7, s7, m7, l7⟩ : Rc) = rec0 := hPR.out.symm.trans (if_pos hb)
      unfold rec0 at e7
      simp only [Rc.mk.injEq] at e7
      obtain ⟨rfl, rfl, rfl, rfl⟩ := e7
      obtain rfl : n7 = 0 := hn7.out
      have cZ := fun W h => rsame_is rec0 rec0 a7 none G7 0 0 0 W h (SlW.ofNil ec W) rfl rfl
      simp only [and_self, decide_true, rec0] at cZ
      have z0 := B7.cell 0
      have z1 := B7.cell 1
      have z2 := B7.cell 2
      have z3 := B7.cell 3
      have l7 := B7.lt
      rw [hPE]
      clear hPE hPR
      go_wp2_with fail
      go_at_call 12
      refine (cZ _ S7).mono ?_
      rintro e w9 ⟨rfl, b9⟩
      go_wp2_with fail
      go_ret
      exact ⟨rfl, belowCall bel b9⟩
    · have hb' : ¬ (60000 : Int) < s.size := by omega
      have cX := rread_is s wc g (by omega)
      rw [hPR.out] at cX
      simp only at cX
      rw [← hn7.out] at cX
      generalize parseE s = PE at *
      clear hPR
      go_wp2_with fail
      go_at_call 13
      refine cX.mono ?_
      rintro e w8 ⟨a8, G8, rfl, o8, b8⟩
      have S8 := own_slW o8
      have B8 := Blk.laid w8 [.int .i64 K7, .int .i64 s7, .int .i64 m7, .slice a8 n7 G8] 24 _ rfl
      have bq := newB b8 (.cells #[.int .i64 K7, .int .i64 s7, .int .i64 m7, .slice a8 n7 G8] 24)
      replace S8 := S8.alloc (.cells #[.int .i64 K7, .int .i64 s7, .int .i64 m7, .slice a8 n7 G8] 24)
      replace B7 := B7.keep bq B7.lt
      replace S7 := S7.call bq
      replace bel := belowCall bel bq
      clear o8 b8 bq cX
      go_upto_region 9 with fail
      generalize w8.heap.size = g8 at *
      generalize w8.alloc _ = w9 at *
      have cZ := fun W h1 h2 => rsame_is ⟨K7, s7, m7, l7⟩ ⟨K7, s7, m7, l7⟩ a7 a8 G7 G8 n7 n7 W h1 h2 hn7.out hn7.out
      simp only [and_self, decide_true] at cZ
      have z0 := B7.cell 0
      have z1 := B7.cell 1
      have z2 := B7.cell 2
      have z3 := B7.cell 3
      have l7' := B7.lt
      have y0 := B8.cell 0
      have y1 := B8.cell 1
      have y2 := B8.cell 2
      have y3 := B8.cell 3
      have l8 := B8.lt
      go_wp2_with fail
      go_at_call 12
      refine (cZ _ S7 S8).mono ?_
      rintro e w10 ⟨rfl, b10⟩
      go_wp2_with fail
      go_ret
      exact ⟨rfl, belowCall bel b10⟩

end Go.Proofs.YthoclnjfbigdiaaDoor.noteSays
