/-
  world.tear: the power goes in the midst of a batch.
-/
import Derived.Test.YtcjdpilmhlfmfaaGreatDoorP38
import Derived.Test.YtcjdpilmhlfmfaaGreatDoorP35
namespace Go.Proofs.YtcjdpilmhlfmfaaGreatDoor
open Go.RowKit
open Go.Lib (byteCells)

theorem take_min (n : Int) (l : List UInt8) (k : Nat) (hk : min (max n 0) (l.length : Int) = k) : l.take n.toNat = l.take k := by
  by_cases h : n.toNat ≤ l.length
  · have : n.toNat = k := by omega
    rw [this]
  · rw [List.take_of_length_le (by omega), List.take_of_length_le (by omega)]

set_option maxHeartbeats 8000000 in
set_option maxRecDepth 100000 in
theorem tear_any {Q : Nat → Prop} (y : Hp) (hk : y.k = 9) (g h : Nat) (p : Pw) (ys : List Int) (x : Wd) (W : World) (B : WdB Q W g h p ys x) (hu : x.up = true) (hg : Gl W) (ea : Option Addr) (en eC : Nat) (s3 : SlW ec W ea eC (recOf y).e) (h3 : Hid (en = (recOf y).e.length)) :
    Calls Tryz.prog 106 #[.pointer (some ⟨g, 0, none⟩), .agg #[.int .i64 (recOf y).k, .int .i64 (recOf y).s, .int .i64 (recOf y).n, .slice ea en eC], .int .i64 y.n] W (Did Q g h W (hapE x y) (if hapE x y = 0 then hapW x y else x)) := by
  have hE := hide (hap_ahead (.inr hk) hu)
  have hM := hide (fun e : hapE x y = 0 => (hap_tear hk e).1)
  obtain ⟨Z, hZ⟩ : ∃ Z, Z = (if hapE x y = 0 then hapW x y else x) := ⟨_, rfl⟩
  rw [← hZ]
  obtain ⟨HE, hHE⟩ : ∃ HE, HE = hapE x y := ⟨_, rfl⟩
  rw [← hHE]
  replace hZ := hide hZ
  replace hHE := hide hHE
  obtain ⟨Yn, hYn⟩ : ∃ Yn, Yn = y.n := ⟨_, rfl⟩
  rw [← hYn]
  replace hYn := hide hYn
  have hk9 := hide hk
  obtain ⟨r, hr⟩ : ∃ r, r = recOf y := ⟨_, rfl⟩
  rw [← hr] at s3 h3 ⊢
  replace hE := hE.out
  replace hM := hM.out
  rw [← hr] at hE hM
  rw [if_pos hk9.out] at hE
  replace hE := hide hE
  replace hM := hide hM
  clear hk
  have cA := fun V gl I s => ahead_any x r p ea en eC V gl I B.right s h3
  obtain ⟨C, D, up, rd⟩ := x
  simp only at hu
  subst hu
  obtain ⟨sa, sn, sG, a1, n1, c1, a2, n2, c2, ra, rn, rc⟩ := p
  simp only [Pw.val] at cA
  have BQ := Blk.laid W [.int .i64 r.k, .int .i64 r.s, .int .i64 r.n, .slice ea en eC] 66 _ rfl
  have bel := newB (Below.refl W.heap.size W) (.cells #[.int .i64 r.k, .int .i64 r.s, .int .i64 r.n, .slice ea en eC] 66)
  replace B := B.call bel
  replace s3 := s3.call bel
  have gl := hg.call bel
  obtain ⟨K, S, N, L⟩ := r
  replace hr := hide hr
  go_enter Tryz.func106, Tryz.ntmps106
  go_upto_region 1 with fail
  generalize hv : World.alloc W _ = v at *
  have x0 : v.cell? ⟨g, 0, none⟩ = some (.slice sa sn sG) := B.blk.cell 0
  have x1 : v.cell? ⟨g, 1, none⟩ = some (.slice a1 n1 c1) := B.blk.cell 1
  have x2 : v.cell? ⟨g, 2, none⟩ = some (.slice a2 n2 c2) := B.blk.cell 2
  have x3 : v.cell? ⟨g, 3, none⟩ = some (.bool true) := B.blk.cell 3
  have x4 : v.cell? ⟨g, 4, none⟩ = some (.slice ra rn rc) := B.blk.cell 4
  have z0 : v.cell? ⟨W.heap.size, 0, none⟩ = some (.int .i64 K) := BQ.cell 0
  have z1 : v.cell? ⟨W.heap.size, 1, none⟩ = some (.int .i64 S) := BQ.cell 1
  have z2 : v.cell? ⟨W.heap.size, 2, none⟩ = some (.int .i64 N) := BQ.cell 2
  have z3 : v.cell? ⟨W.heap.size, 3, none⟩ = some (.slice ea en eC) := BQ.cell 3
  have cells : ∀ V, Below v.heap.size v V → V.cell? ⟨g, 0, none⟩ = some (.slice sa sn sG) ∧ V.cell? ⟨g, 1, none⟩ = some (.slice a1 n1 c1) ∧ V.cell? ⟨g, 2, none⟩ = some (.slice a2 n2 c2) ∧ V.cell? ⟨g, 3, none⟩ = some (.bool true) ∧ V.cell? ⟨g, 4, none⟩ = some (.slice ra rn rc) ∧ V.cell? ⟨W.heap.size, 0, none⟩ = some (.int .i64 K) ∧ V.cell? ⟨W.heap.size, 1, none⟩ = some (.int .i64 S) ∧ V.cell? ⟨W.heap.size, 2, none⟩ = some (.int .i64 N) ∧ V.cell? ⟨W.heap.size, 3, none⟩ = some (.slice ea en eC) := fun V hV =>
    ⟨(B.call hV).blk.cell 0, (B.call hV).blk.cell 1, (B.call hV).blk.cell 2, (B.call hV).blk.cell 3, (B.call hV).blk.cell 4, (BQ.keep hV BQ.lt).cell 0, (BQ.keep hV BQ.lt).cell 1, (BQ.keep hV BQ.lt).cell 2, (BQ.keep hV BQ.lt).cell 3⟩
  have kA : ∀ V, Below v.heap.size v V → Calls Tryz.prog 137 #[.agg #[.slice sa sn sG, .slice a1 n1 c1, .slice a2 n2 c2, .bool true, .slice ra rn rc], .agg #[.int .i64 K, .int .i64 S, .int .i64 N, .slice ea en eC]] V fun e w' => ∃ (a' : Option Addr) (n' G' : Nat) (b1 : Option Addr) (m1 k1 : Nat) (b2 : Option Addr) (m2 k2 : Nat), e = .returned (.tuple #[.agg #[.slice a' n' G'], .agg #[.slice b1 m1 k1, .slice b2 m2 k2], .int .i64 (aheadE ⟨C, D, true, rd⟩ ⟨K, S, N, L⟩)]) ∧
      w'.cell? ⟨g, 0, none⟩ = some (.slice sa sn sG) ∧ w'.cell? ⟨g, 1, none⟩ = some (.slice a1 n1 c1) ∧ w'.cell? ⟨g, 2, none⟩ = some (.slice a2 n2 c2) ∧ w'.cell? ⟨g, 3, none⟩ = some (.bool true) ∧ w'.cell? ⟨g, 4, none⟩ = some (.slice ra rn rc) ∧ w'.cell? ⟨W.heap.size, 0, none⟩ = some (.int .i64 K) ∧ w'.cell? ⟨W.heap.size, 1, none⟩ = some (.int .i64 S) ∧ w'.cell? ⟨W.heap.size, 2, none⟩ = some (.int .i64 N) ∧ w'.cell? ⟨W.heap.size, 3, none⟩ = some (.slice ea en eC) ∧
      Hid (AhIs V.heap.size ⟨C, D, true, rd⟩ ⟨K, S, N, L⟩ a' n' G' b1 m1 k1 b2 m2 k2 w') ∧ Below V.heap.size V w' ∧ Below v.heap.size v w' := by
    intro V hV
    refine (cA V (gl.call hV) (B.call hV).is (s3.call hV)).mono ?_
    rintro e w' ⟨a', n', G', b1, m1, k1, b2, m2, k2, rfl, hA, b⟩
    obtain ⟨q0, q1, q2, q3, q4, q5, q6, q7, q8⟩ := cells w' (belowCall hV b)
    exact ⟨a', n', G', b1, m1, k1, b2, m2, k2, rfl, q0, q1, q2, q3, q4, q5, q6, q7, q8, hA, b, belowCall hV b⟩
  have k0 : Below v.heap.size v v.drew := belowDrew (Below.refl _ _)
  generalize hEE : aheadE ⟨C, D, true, rd⟩ ⟨K, S, N, L⟩ = EA at *
  have lg : g < v.heap.size := B.blk.lt
  have lq : W.heap.size < v.heap.size := BQ.lt
  have nn0 : ¬ g = v.heap.size := by omega
  have nn0' : ¬ v.heap.size = g := by omega
  have nn1 : ¬ W.heap.size = v.heap.size := by omega
  have nn1' : ¬ v.heap.size = W.heap.size := by omega
  have nn2 : ¬ g = v.heap.size + 1 := by omega
  have nn2' : ¬ v.heap.size + 1 = g := by omega
  have nn3 : ¬ W.heap.size = v.heap.size + 1 := by omega
  have nn3' : ¬ v.heap.size + 1 = W.heap.size := by omega
  have Q2 : Blk (v.alloc (.cells #[.slice none 0 0] 24)).drew v.heap.size [.slice none 0 0] 24 := Blk.laid v [.slice none 0 0] _ _ rfl
  have Q3 : Blk (v.alloc (.cells #[.slice none 0 0, .slice none 0 0] 27)).drew v.heap.size [.slice none 0 0, .slice none 0 0] 27 := Blk.laid v [.slice none 0 0, .slice none 0 0] _ _ rfl
  have Q4 : Blk ((v.alloc (.cells #[.slice none 0 0] 24)).alloc (.cells #[.slice none 0 0, .slice none 0 0] 27)).drew v.heap.size [.slice none 0 0] 24 := (Blk.laid v [.slice none 0 0] _ _ rfl).alc (.cells #[.slice none 0 0, .slice none 0 0] 27)
  have Q4' : Blk ((v.alloc (.cells #[.slice none 0 0] 24)).alloc (.cells #[.slice none 0 0, .slice none 0 0] 27)).drew (v.heap.size + 1) [.slice none 0 0, .slice none 0 0] 27 := Blk.laid (v.alloc (.cells #[.slice none 0 0] 24)) [.slice none 0 0, .slice none 0 0] _ _ (by simp)
  have Q5 : Blk ((v.alloc (.cells #[.slice none 0 0, .slice none 0 0] 27)).alloc (.cells #[.slice none 0 0] 24)).drew v.heap.size [.slice none 0 0, .slice none 0 0] 27 := (Blk.laid v [.slice none 0 0, .slice none 0 0] _ _ rfl).alc (.cells #[.slice none 0 0] 24)
  have Q5' : Blk ((v.alloc (.cells #[.slice none 0 0, .slice none 0 0] 27)).alloc (.cells #[.slice none 0 0] 24)).drew (v.heap.size + 1) [.slice none 0 0] 24 := Blk.laid (v.alloc (.cells #[.slice none 0 0, .slice none 0 0] 27)) [.slice none 0 0] _ _ (by simp)
  replace hEE := hide hEE
  replace hv := hide hv
  replace B := hide B
  replace bel := hide bel
  replace s3 := hide s3
  clear cells cA BQ
  replace gl := hide gl
  go_cut [7, 8, 9] from 10 to 18 (fun s5 s6 s7 wx => Two v.heap.size v ⟨C, D, true, rd⟩ ⟨K, S, N, L⟩ EA s5 s6 s7 wx)
  case first =>
    go_region_held3 (fun w' => w'.cell? ⟨g, 0, none⟩ = some (.slice sa sn sG) ∧ w'.cell? ⟨g, 1, none⟩ = some (.slice a1 n1 c1) ∧ w'.cell? ⟨g, 2, none⟩ = some (.slice a2 n2 c2) ∧ w'.cell? ⟨g, 3, none⟩ = some (.bool true) ∧ w'.cell? ⟨g, 4, none⟩ = some (.slice ra rn rc) ∧ w'.cell? ⟨W.heap.size, 0, none⟩ = some (.int .i64 K) ∧ w'.cell? ⟨W.heap.size, 1, none⟩ = some (.int .i64 S) ∧ w'.cell? ⟨W.heap.size, 2, none⟩ = some (.int .i64 N) ∧ w'.cell? ⟨W.heap.size, 3, none⟩ = some (.slice ea en eC)) (go_keep)
      (first
        | (go_at_call 137; refine (kA _ (by first | exact k0 | exact belowDrew (newB (Below.refl _ _) _) | exact belowDrew (newB (newB (Below.refl _ _) _) _))).mono ?_; rintro e w4 ⟨a', n', G', b1, m1, k1, b2, m2, k2, rfl, q0, q1, q2, q3, q4, q5, q6, q7, q8, hA, b4, zA⟩; have gz := zA.size; have o0 : ¬ g = w4.heap.size := by {omega}; have o0' : ¬ w4.heap.size = g := by {omega}; have o1 : ¬ W.heap.size = w4.heap.size := by {omega}; have o1' : ¬ w4.heap.size = W.heap.size := by {omega}; have o2 : ¬ g = w4.heap.size + 1 := by {omega}; have o2' : ¬ w4.heap.size + 1 = g := by {omega}; have o3 : ¬ W.heap.size = w4.heap.size + 1 := by {omega}; have o3' : ¬ w4.heap.size + 1 = W.heap.size := by {omega}; (first | (have R1 := Q2.keep b4 Q2.lt; have c0 := R1.cell 0; have cf0 := R1.free 0; have cl := R1.lt; have u1 : ¬ v.heap.size = w4.heap.size := by {omega}; have u1' : ¬ w4.heap.size = v.heap.size := by {omega}) | (have R1 := Q3.keep b4 Q3.lt; have c0 := R1.cell 0; have cf0 := R1.free 0; have cl := R1.lt; have c1 := R1.cell 1; have cf1 := R1.free 1; have u1 : ¬ v.heap.size = w4.heap.size := by {omega}; have u1' : ¬ w4.heap.size = v.heap.size := by {omega}) | (have R1 := Q4.keep b4 Q4.lt; have R2 := Q4'.keep b4 Q4'.lt; have c0 := R1.cell 0; have cf0 := R1.free 0; have cl := R1.lt; have d0 := R2.cell 0; have df0 := R2.free 0; have dl := R2.lt; have d1 := R2.cell 1; have df1 := R2.free 1; have u1 : ¬ v.heap.size = v.heap.size + 1 := by {omega}; have u1' : ¬ v.heap.size + 1 = v.heap.size := by {omega}) | (have R1 := Q5.keep b4 Q5.lt; have R2 := Q5'.keep b4 Q5'.lt; have c0 := R1.cell 0; have cf0 := R1.free 0; have cl := R1.lt; have c1 := R1.cell 1; have cf1 := R1.free 1; have d0 := R2.cell 0; have df0 := R2.free 0; have dl := R2.lt; have u1 : ¬ v.heap.size = v.heap.size + 1 := by {omega}; have u1' : ¬ v.heap.size + 1 = v.heap.size := by {omega}) | skip)))
    all_goals (
      go_wp2_with fail
      go_meet
      case rel =>
        have hA2 := hA.out.down (base' := v.heap.size) (by first | exact Nat.le_refl _ | exact (belowDrew (newB (Below.refl v.heap.size v) _)).size | exact (belowDrew (newB (newB (Below.refl v.heap.size v) _) _)).size)
        first
          | exact two1 hA2 zA zA.size
          | exact two2 hA2 zA zA.size
          | exact two3 hA2 zA zA.size R1 (Nat.le_refl _)
          | exact two5 hA2 zA zA.size R1 (Nat.le_refl _)
          | exact two4 hA2 zA R1 R2 (Nat.le_refl _) (Nat.le_succ _) u1
          | exact two4 hA2 zA R2 R1 (Nat.le_succ _) (Nat.le_refl _) u1')
  case rest =>
    obtain ⟨bS, bD, a', n', G', b1, m1, k1, b2, m2, k2, rfl, rfl, rfl, BS, BD, hA, lS, lD, hcut⟩ := hcut
    have B0 := hide B.out
    have bel0 := hide bel.out
    have hlt : Hid (h < v.heap.size) := hide B.out.rb.lt
    replace B := B.out.call hcut
    replace bel := belowCall bel.out hcut
    replace gl := gl.out.call hcut
    clear x0 x1 x2 x3 x4 z0 z1 z2 z3 kA k0 Q2 Q3 Q4 Q4' Q5 Q5' nn0 nn0' nn1 nn1' nn2 nn2' nn3 nn3' s3
    have hE2 := hHE.out.trans hE.out
    have hE1 := hE2
    clear hE2
    by_cases hz : EA = 0
    · obtain ⟨rfl, IN, q1, q2, T1, T2⟩ := hA.out (hEE.out.trans hz)
      obtain ⟨hNx, hDp⟩ := ahead_next (hEE.out.trans hz)
      rw [if_neg (fun e => e hz)] at hE1
      subst hz
      simp only at q1 q2 T1 T2 IN hNx hDp
      have dOK := (dput_ok hDp).2.2.2
      have dSf : (dputD D ⟨K, S, N, L⟩).safe = D.safe := by rw [(dput_ok hDp).2.2.1]
      have fewD := few_of dOK
      generalize hDP : dputD D ⟨K, S, N, L⟩ = DP at *
      obtain ⟨M, hMx⟩ : ∃ M : Int, M = max Yn 0 := ⟨_, rfl⟩
      obtain ⟨k, hkk⟩ : ∃ k : Nat, min M (m2 : Int) = k := ⟨(min M (m2 : Int)).toNat, by omega⟩
      have hmax : ∀ (ts : Array TypeId) (t : TypeId) (V : World), (Builtin.max_ ts t #[.int .i64 Yn, .int .i64 0]).run Tryz.prog V = .ok (.int .i64 M) V := by
        intro ts t V
        rw [Lib.run_max_ints, hMx]
      have hmin : ∀ (ts : Array TypeId) (t : TypeId) (V : World), (Builtin.min_ ts t #[.int .i64 M, .int .i64 (m2 : Int)]).run Tryz.prog V = .ok (.int .i64 (k : Int)) V := by
        intro ts t V
        rw [Lib.run_min_ints, hkk]
      have hcE : crashE DP k = 0 := by
        unfold crashE
        rw [if_neg (by simp [dOK]), if_neg (by omega)]
      have hcD : crashD DP k = ⟨DP.safe, DP.wait.take k⟩ := by
        unfold crashD
        rw [if_pos hcE, Int.toNat_natCast]
      have htk : DP.wait.take Yn.toNat = DP.wait.take k := take_min Yn DP.wait k (by rw [← q2, ← hMx]; exact hkk)
      have cS := fun V gl s t => crash_any DP k b1 b2 k1 k2 m1 m2 V gl s t q1 q2 (by rw [q1, q2]; exact Nat.le_trans fewD (by decide))
      rw [hcE, hcD] at cS
      have hd0 := dk_less dOK k
      have hHE0 : HE = 0 := hE1
      have hm := hM.out (hHE.out.symm.trans hHE0)
      have hm2 : hapW ⟨C, D, true, rd⟩ y = ⟨newS, ⟨DP.safe, DP.wait.take k⟩, false, shutR⟩ := by
        rw [hm, dSf, ← htk, hYn.out]
      replace hm := hm2
      clear hm2
      replace hm := hide hm
      replace hHE0 := hide hHE0
      replace q1 := hide q1
      replace q2 := hide q2
      replace hd0 := hide hd0
      replace hMx := hide hMx
      replace hkk := hide hkk
      clear hA hNx hDp fewD hE hEE hE1 hM dOK dSf hcE hcD htk hDP
      have d0 := BD.cell 0
      have d1 := BD.cell 1
      have dl := BD.lt
      go_wp2_with fail
      go_at_call 138
      refine (cS _ gl T1 T2).mono ?_
      rintro e w5 ⟨r1, r2, i1, i2, j1, j2, rfl, hi1, hi2, t1, t2, b5⟩
      replace hi1 := hide hi1
      replace hi2 := hide hi2
      clear d0 d1 dl cS T1 T2 q1 q2 gl IN hmin hmax
      replace BD := BD.keep b5 BD.lt
      replace hcut := hcut.trans (b5.mono hcut.size)
      clear b5 B BS bel
      generalize DP.wait.take k = WT at *
      generalize DP.safe = SF at *
      have d0 := BD.cell 0
      have d1 := BD.cell 1
      have f0 := BD.free 0
      have f1 := BD.free 1
      have dl := BD.lt
      have bS2 : Below v.heap.size v ((w5.setCell ⟨bD, 0, none⟩ (.slice r1 i1 j1)).setCell ⟨bD, 1, none⟩ (.slice r2 i2 j2)) := below2s hcut lD _ _
      have B9 := (B0.out.call bS2).blk
      have grD := grownSet (grownSet (grownRefl w5 (some bD)) 0 (.slice r1 i1 j1)) 1 (.slice r2 i2 j2)
      have T1 := slU_off t1 BD (by simp) grD
      have T2 := slU_off t2 BD (by simp) grD
      have D9 := put2 BD (.slice r1 i1 j1) (.slice r2 i2 j2)
      have belW : Hid (Below W.heap.size W ((w5.setCell ⟨bD, 0, none⟩ (.slice r1 i1 j1)).setCell ⟨bD, 1, none⟩ (.slice r2 i2 j2))) := hide (bel0.out.trans (bS2.mono bel0.out.size))
      replace bS2 := hide bS2
      clear grD t1 t2 BD hcut
      go_upto_region 7 with fail
      clear d0 d1 f0 f1 dl
      generalize World.setCell (World.setCell w5 _ _) _ _ = w9 at *
      have d0 := D9.cell 0
      have d1 := D9.cell 1
      have dl := D9.lt
      have x1 : w9.cell? ⟨g, 1, none⟩ = some (.slice a1 n1 c1) := B9.cell 1
      have x2 : w9.cell? ⟨g, 2, none⟩ = some (.slice a2 n2 c2) := B9.cell 2
      have g1 := B9.free 1
      have g2 := B9.free 2
      have gl9 := B9.lt
      have BB := (B9.set 1 (.slice r1 i1 j1)).set 2 (.slice r2 i2 j2)
      have gr := grownSet (grownSet (grownRefl w9 (some g)) 1 (.slice r1 i1 j1)) 2 (.slice r2 i2 j2)
      have U1 := slU_off T1 B9 (by simp [Pw.cells]) gr
      have U2 := slU_off T2 B9 (by simp [Pw.cells]) gr
      have gb := hide ((Gb2.below (g := g) (h := h) belW.out).trans (Gb2.box gr) (.inl rfl))
      have cL := loseAll_any Q g ⟨sa, sn, sG, r1, i1, j1, r2, i2, j2, ra, rn, rc⟩ true ⟨SF, WT⟩ ((w9.setCell ⟨g, 1, none⟩ (.slice r1 i1 j1)).setCell ⟨g, 2, none⟩ (.slice r2 i2 j2)) BB hi1.out hi2.out U1 U2 hd0.out
      clear T1 T2 D9 BB gr U1 U2 B9 hi1 hi2 bS2 belW
      replace hlt := hlt.out
      have lW0 : Hid (W.heap.size ≤ w9.heap.size) := hide (by have := gb.out.size; simpa using this)
      go_wp2_with fail
      go_at_call 104
      refine cL.mono ?_
      rintro e w10 ⟨rfl, h', p', ys', WB, grow, hh⟩
      replace WB := hide WB
      have gb2 := hide (gb.out.trans (Gb2.box (h := h) grow) (.inl rfl))
      have hh2 : Hid (W.heap.size ≤ h') := hide (by have := lW0.out; simp at hh; omega)
      clear grow hh cL
      go_wp2_with fail
      go_ret
      rw [hZ.out, if_pos (hHE.out.symm.trans hHE0.out), hm.out, hHE0.out]
      exact ⟨rfl, h', p', ys', WB.out, gb2.out, .inr hh2.out⟩
    · rw [if_pos hz] at hE1
      have hz' : decide (EA = 0) = false := decide_eq_false hz
      have hHE0 : Hid (HE = EA) := hide hE1
      replace B := hide B
      replace bel := hide bel
      clear hE hE1 hM hA BS BD
      go_wp2_with fail
      go_ret
      rw [hZ.out, if_neg (fun e => hz (hHE0.out.symm.trans (hHE.out.trans e))), hHE0.out]
      exact ⟨rfl, h, _, ys, B.out, Gb2.below bel.out, .inl rfl⟩

end Go.Proofs.YtcjdpilmhlfmfaaGreatDoor

/-
  world.openReader, world.boot.
-/
namespace Go.Proofs.YtcjdpilmhlfmfaaGreatDoor
open Go.RowKit
open Go.Lib (byteCells)

set_option maxHeartbeats 4000000 in
set_option maxRecDepth 100000 in
theorem openReader_any {Q : Nat → Prop} (n : Int) (g h : Nat) (p : Pw) (ys : List Int) (x : Wd) (W : World) (B : WdB Q W g h p ys x) (hg : Gl W) (hr : isRd n = true → wdE ⟨x.c, x.d, x.up, x.rd.set n.toNat ((recL x.d).length : Int)⟩ = 0) :
    Calls Tryz.prog 102 #[.pointer (some ⟨g, 0, none⟩), .int .i64 n] W (Did Q g h W (if isRd n = true then 0 else 5) (if isRd n = true then ⟨x.c, x.d, x.up, x.rd.set n.toNat ((recL x.d).length : Int)⟩ else x)) := by
  obtain ⟨k1, _, _⟩ := few_right B.is B.right
  have cR := fun V gl s t => recover_any x.d p.a1 p.a2 p.c1 p.c2 p.n1 p.n2 V gl s t B.is.e1 B.is.e2 (by omega)
  rw [(wd_right B.right).1] at cR
  obtain ⟨RL, hRL⟩ : ∃ RL : Int, RL = ((recL x.d).length : Int) := ⟨_, rfl⟩
  rw [← hRL] at hr ⊢
  have cS := fun V (Bv : WdB Q V g h p ys x) => setReader_any n RL g h p ys x V Bv hr
  generalize (if isRd n = true then (0 : Int) else 5) = E at *
  generalize (if isRd n = true then (⟨x.c, x.d, x.up, x.rd.set n.toNat RL⟩ : Wd) else x) = Z at *
  have x1 : W.cell? ⟨g, 1, none⟩ = some (.slice p.a1 p.n1 p.c1) := B.blk.cell 1
  have x2 : W.cell? ⟨g, 2, none⟩ = some (.slice p.a2 p.n2 p.c2) := B.blk.cell 2
  have xl := B.blk.lt
  have S1 := B.is.s1
  have S2 := B.is.s2
  replace B := hide B
  replace hRL := hide hRL
  clear hr k1
  go_enter Tryz.func102, Tryz.ntmps102
  go_wp2_with fail
  go_at_call 27
  refine ((cR _ hg S1 S2).mono fun _ _ h => h.laid).mono ?_
  rintro e w2 ⟨r1, i1, j1, r2, i2, j2, a3, n3, G3, l3, rfl, DR, LR, hn3, hl3, b2⟩
  have hnn : Hid ((n3 : Int) = RL) := hide (by rw [hRL.out, ← hl3.out, List.length_map, hn3.out])
  have B2 := hide (B.out.call b2)
  have gb := hide (Gb2.below (g := g) (h := h) b2)
  have hsz := hide b2.size
  clear DR LR hn3 hl3 x1 x2 xl S1 S2 cR b2 B
  go_upto_region 4 with fail
  generalize World.alloc w2 _ = w3 at *
  obtain ⟨N3, hN3⟩ : ∃ N : Int, N = n3 := ⟨_, rfl⟩
  have hN : N3 = RL := hN3.trans hnn.out
  have cS2 := cS w3 B2.out
  rw [← hnn.out] at cS2
  clear hN hN3 N3 cS
  go_wp2_with fail
  go_at_call 103
  refine cS2.mono ?_
  rintro e w4 ⟨rfl, h', p', ys', WB, gr, hh⟩
  have gb2 := hide (gb.out.trans gr (.inl rfl))
  have hh2 : Hid (h' = h ∨ W.heap.size ≤ h') := hide (hh.imp id (fun e => Nat.le_trans hsz.out e))
  replace WB := hide WB
  clear gr hh
  go_wp2_with fail
  go_ret
  exact ⟨rfl, h', p', ys', WB.out, gb2.out, hh2.out⟩

theorem hap_boot' {x : Wd} {y : Hp} (hr : wdE x = 0) (hk : y.k = 8) (hu : x.up = false) : hapE x y = replE (recL x.d) ∧ (hapE x y = 0 → hapW x y = ⟨replL (recL x.d), recD x.d, true, x.rd⟩ ∧ wdE ⟨replL (recL x.d), recD x.d, true, x.rd⟩ = 0) := by
  refine ⟨?_, fun h => ?_⟩
  · unfold hapE
    rw [if_neg (fun h => h ⟨by omega, by omega⟩), if_neg (fun h => h (by rw [hu]; exact (decide_eq_false (by omega)).symm)), if_neg (by omega), if_neg (by omega), if_pos hk]
  · obtain ⟨_, _, e, r, _⟩ := hap_boot hr hk h
    exact ⟨e, by rw [← e]; exact r⟩

set_option maxHeartbeats 4000000 in
set_option maxRecDepth 100000 in
theorem boot_any {Q : Nat → Prop} (y : Hp) (hk : y.k = 8) (g h : Nat) (p : Pw) (ys : List Int) (x : Wd) (W : World) (B : WdB Q W g h p ys x) (hQ : ∀ q, Q q → q < W.heap.size) (hu : x.up = false) (hg : Gl W) :
    Calls Tryz.prog 105 #[.pointer (some ⟨g, 0, none⟩)] W (Did Q g h W (hapE x y) (if hapE x y = 0 then hapW x y else x)) := by
  obtain ⟨hE, hM⟩ := hap_boot' B.right hk hu
  obtain ⟨Z, hZ⟩ : ∃ Z, Z = (if hapE x y = 0 then hapW x y else x) := ⟨_, rfl⟩
  rw [← hZ]
  obtain ⟨HE, hHE⟩ : ∃ HE, HE = hapE x y := ⟨_, rfl⟩
  rw [← hHE]
  replace hZ := hide hZ
  replace hHE := hide hHE
  replace hE := hide hE
  replace hM := hide hM
  replace hQ := hide hQ
  obtain ⟨k1, k2, _⟩ := few_right B.is B.right
  have cR := fun V gl s t => recover_any x.d p.a1 p.a2 p.c1 p.c2 p.n1 p.n2 V gl s t B.is.e1 B.is.e2 (by omega)
  rw [(wd_right B.right).1] at cR
  clear k1 k2 hk
  obtain ⟨C, D, up, rd⟩ := x
  simp only at hu
  subst hu
  obtain ⟨sa, sn, sG, a1, n1, c1, a2, n2, c2, ra, rn, rc⟩ := p
  have x1 : W.cell? ⟨g, 1, none⟩ = some (.slice a1 n1 c1) := B.blk.cell 1
  have x2 : W.cell? ⟨g, 2, none⟩ = some (.slice a2 n2 c2) := B.blk.cell 2
  have xl := B.blk.lt
  have S1 : Sl W a1 c1 (byteCells D.safe) := B.is.s1
  have S2 : Sl W a2 c2 (byteCells D.wait) := B.is.s2
  simp only at cR
  have B0 := hide B
  replace B := hide B
  go_enter Tryz.func105, Tryz.ntmps105
  go_wp2_with fail
  go_at_call 27
  refine ((cR _ hg S1 S2).mono fun _ _ h => h.laid).mono ?_
  rintro e w2 ⟨r1, i1, j1, r2, i2, j2, a3, n3, G3, l3, rfl, DR, LR, hn3, hl3, b2⟩
  replace B := hide (B.out.call b2)
  clear x1 x2 xl S1 S2 cR
  obtain ⟨dn, hdn⟩ : ∃ d, Hid (d = (replL (l3.map (·.r))).length) := ⟨_, hide rfl⟩
  have cP := fun V s => replay_own l3 a3 n3 G3 dn V s hn3 hdn
  rw [hl3.out] at cP hdn
  have bel := hide b2
  clear b2 hn3 hl3
  go_upto_region 4 with fail
  generalize w2.heap.size = gD at *
  generalize World.alloc w2 _ = w3 at *
  go_wp2_with fail
  go_at_call 37
  refine ((cP _ LR).mono fun _ _ h => laidX h).mono ?_
  rintro e w4 ⟨aS, GS, rfl, BS, IN, b4, hsz4⟩
  clear cP LR
  have hlt : Hid (h < w3.heap.size) := hide B.out.rb.lt
  have hsz3 : Hid (W.heap.size ≤ w3.heap.size) := hide bel.out.size
  replace B := hide (B.out.call b4)
  replace DR := DR.call b4
  have belW := hide (belowCall bel.out b4)
  clear bel b4
  by_cases hz : replE (recL D) = 0
  · obtain rfl : dn = 4 := by rw [hdn.out]; exact right_len (repl_right hz)
    have h4 := hide (right_len (repl_right hz))
    have hHE0 : HE = 0 := hHE.out.trans (hE.out.trans hz)
    obtain ⟨hm, hrt⟩ := hM.out (hE.out.trans hz)
    rw [hz]
    replace hm := hide hm
    replace hrt := hide hrt
    replace hHE0 := hide hHE0
    clear hz hM hE
    go_upto_region 7 with fail
    generalize w4.heap.size = gS at *
    generalize World.alloc w4 _ = w5 at *
    obtain ⟨PB, hq1, hq2, T1, T2⟩ := DR
    have B5 := B.out
    have nn1 : ¬ g = gD := by
      intro e
      subst e
      exact absurd (blkType B5.blk PB) (by decide)
    have nn2 : ¬ gD = g := fun e => nn1 e.symm
    have nn3 : ¬ g = gS := by
      intro e
      subst e
      exact absurd (blkType B5.blk BS) (by decide)
    have nn4 : ¬ gS = g := fun e => nn3 e.symm
    have s0 : w5.cell? ⟨gS, 0, none⟩ = some (.slice aS 4 GS) := BS.cell 0
    have sl := BS.lt
    have d0 : w5.cell? ⟨gD, 0, none⟩ = some (.slice r1 i1 j1) := PB.cell 0
    have d1 : w5.cell? ⟨gD, 1, none⟩ = some (.slice r2 i2 j2) := PB.cell 1
    have dl := PB.lt
    have x0 : w5.cell? ⟨g, 0, none⟩ = some (.slice sa sn sG) := B5.blk.cell 0
    have x1 : w5.cell? ⟨g, 1, none⟩ = some (.slice a1 n1 c1) := B5.blk.cell 1
    have x2 : w5.cell? ⟨g, 2, none⟩ = some (.slice a2 n2 c2) := B5.blk.cell 2
    have x3 : w5.cell? ⟨g, 3, none⟩ = some (.bool false) := B5.blk.cell 3
    have g0 := B5.blk.free 0
    have g1 := B5.blk.free 1
    have g2 := B5.blk.free 2
    have g3 := B5.blk.free 3
    have gl9 := B5.blk.lt
    have gr := grownSet (grownSet (grownSet (grownSet (grownRefl w5 (some g)) 0 (.slice aS 4 GS)) 1 (.slice r1 i1 j1)) 2 (.slice r2 i2 j2)) 3 (.bool true)
    have BB := (((B5.blk.set 0 (.slice aS 4 GS)).set 1 (.slice r1 i1 j1)).set 2 (.slice r2 i2 j2)).set 3 (.bool true)
    have WB := hide (WdB.wrote (Q := Q) (h := h) (p := ⟨aS, 4, GS, r1, i1, j1, r2, i2, j2, ra, rn, rc⟩) (ys := ys) (x := ⟨replL (recL D), recD D, true, rd⟩) B5.blk gr BB
      ⟨h4.out.symm, hq1, hq2, B5.is.er, IN.is, T1, T2, B5.is.r⟩ (IN.off (fun q hq => hq.elim (fun e => by rw [e]; exact hlt.out) (fun e => Nat.lt_of_lt_of_le (hQ.out q e) hsz3.out))) hrt.out B5.ra B5.rb B5.ry B5.rm)
    have gb := hide ((Gb2.below (g := g) (h := h) belW.out).trans (Gb2.box gr) (.inl rfl))
    clear gr BB B5 BS PB hq1 hq2 T1 T2 IN B hrt
    go_region
    all_goals (
      go_wp2_with fail
      go_ret
      rw [hZ.out, if_pos (hHE.out.symm.trans hHE0.out), hm.out, hHE0.out]
      exact ⟨rfl, h, _, ys, WB.out.call (belowDrew (Below.refl _ _)), gb.out.call (belowDrew (Below.refl _ _)), .inl rfl⟩)
  · have hz' : decide (replE (recL D) = 0) = false := decide_eq_false hz
    have hHE0 : Hid (HE = replE (recL D)) := hide (hHE.out.trans hE.out)
    clear hM hE BS DR IN
    generalize replE (recL D) = E at *
    go_upto_region 6 with fail
    generalize World.alloc w4 _ = w5 at *
    go_wp2_with fail
    go_ret
    rw [hZ.out, if_neg (fun e => hz (hHE0.out.symm.trans (hHE.out.trans e))), hHE0.out]
    exact ⟨rfl, h, _, ys, B.out, Gb2.below belW.out, .inl rfl⟩

end Go.Proofs.YtcjdpilmhlfmfaaGreatDoor

/-
  world.happen: what a happening makes of a right world in a box.
-/
namespace Go.Proofs.YtcjdpilmhlfmfaaGreatDoor
open Go.RowKit
open Go.Lib (byteCells)

theorem hap_k5 {x : Wd} {y : Hp} (hr : wdE x = 0) (hu : x.up = true) (hk : y.k = 5 ∨ y.k = 6) :
    hapE x y = (if isRd y.n = true then 0 else 5) ∧ (if hapE x y = 0 then hapW x y else x) = (if isRd y.n = true then ⟨x.c, x.d, x.up, x.rd.set y.n.toNat (if y.k = 5 then ((recL x.d).length : Int) else -1)⟩ else x) ∧ (isRd y.n = true → wdE ⟨x.c, x.d, x.up, x.rd.set y.n.toNat (if y.k = 5 then ((recL x.d).length : Int) else -1)⟩ = 0) := by
  have e : hapE x y = if isRd y.n = true then 0 else 5 := by
    unfold hapE
    rw [if_neg (fun h => h ⟨by omega, by omega⟩), if_neg (fun h => h (by rw [hu]; exact (decide_eq_true (by omega)).symm)), if_pos hk]
    unfold isRd
    by_cases h : 0 ≤ y.n ∧ y.n ≤ 2
    · rw [if_pos h, if_pos (decide_eq_true h)]
    · rw [if_neg h, if_neg (by simp [h])]
  refine ⟨e, ?_, fun h => ?_⟩
  · rw [e]
    by_cases h : isRd y.n = true
    · rw [if_pos h, if_pos rfl, if_pos h]
      obtain ⟨_, _, _, w, _⟩ := hap_reader hr hk (by rw [e, if_pos h])
      rw [w, hu]
    · rw [if_neg h, if_neg (by decide), if_neg h]
  · obtain ⟨_, _, _, w, r⟩ := hap_reader hr hk (by rw [e, if_pos h])
    rw [w] at r
    rw [hu]
    exact r

theorem hap_k7 {x : Wd} {y : Hp} (hu : x.up = true) (hk : y.k = 7) : hapE x y = 0 ∧ hapW x y = ⟨newS, x.d, false, shutR⟩ := by
  have e : hapE x y = 0 := by
    unfold hapE
    rw [if_neg (fun h => h ⟨by omega, by omega⟩), if_neg (fun h => h (by rw [hu]; exact (decide_eq_true (by omega)).symm)), if_neg (by omega), if_pos hk]
  refine ⟨e, ?_⟩
  unfold hapW
  rw [if_neg (by simp [e]), if_neg (by omega), if_neg (by omega), if_pos hk]

theorem hap_none {x : Wd} {y : Hp} (hk : y.k < 1 ∨ 9 < y.k) : hapE x y = 4 := by
  unfold hapE
  rw [if_pos (by omega)]

theorem hap_late {x : Wd} {y : Hp} (hk : 1 ≤ y.k ∧ y.k ≤ 9) (h : x.up = decide (y.k = 8)) : hapE x y = 7 := by
  unfold hapE
  rw [if_neg (fun q => q hk), if_pos (by rw [h]; by_cases e : y.k = 8 <;> simp [e])]

theorem Did.pre {Q : Nat → Prop} {g h : Nat} {W W1 : World} {E : Int} {Z : Wd} {e : Ending} {w' : World} (bel : Below W.heap.size W W1) (d : Did Q g h W1 E Z e w') : Did Q g h W E Z e w' := by
  obtain ⟨he, h', p', ys', WB, gr, hh⟩ := d
  exact ⟨he, h', p', ys', WB, (Gb2.below bel).trans gr (.inl rfl), hh.imp id (fun q => Nat.le_trans bel.size q)⟩

set_option maxHeartbeats 8000000 in
set_option maxRecDepth 100000 in
theorem happen_any {Q : Nat → Prop} (y : Hp) (g h : Nat) (p : Pw) (ys : List Int) (x : Wd) (W : World) (B : WdB Q W g h p ys x) (hQ : ∀ q, Q q → q < W.heap.size) (hg : Gl W) (ea : Option Addr) (en eC : Nat) (s3 : SlW ec W ea eC y.e) (h3 : Hid (en = y.e.length)) :
    Calls Tryz.prog 61 #[.pointer (some ⟨g, 0, none⟩), .agg #[.int .i64 y.k, .int .i64 y.s, .int .i64 y.n, .slice ea en eC]] W (Did Q g h W (hapE x y) (if hapE x y = 0 then hapW x y else x)) := by
  have BY := Blk.laid W [.int .i64 y.k, .int .i64 y.s, .int .i64 y.n, .slice ea en eC] 69 _ rfl
  have bel := newB (Below.refl W.heap.size W) (.cells #[.int .i64 y.k, .int .i64 y.s, .int .i64 y.n, .slice ea en eC] 69)
  replace hQ := hide hQ
  have hgW0 : W.heap.size ≠ g := by have := B.blk.lt; omega
  have hhW0 : W.heap.size ≠ h := by have := B.rb.lt; omega
  replace B := B.call bel
  replace s3 := s3.call bel
  have gl := hg.call bel
  obtain ⟨Z, hZ⟩ : ∃ Z, Z = (if hapE x y = 0 then hapW x y else x) := ⟨_, rfl⟩
  rw [← hZ]
  obtain ⟨HE, hHE⟩ : ∃ HE, HE = hapE x y := ⟨_, rfl⟩
  rw [← hHE]
  have keep0 : HE ≠ 0 → Z = x := fun q => by rw [hZ, if_neg (by rw [← hHE]; exact q)]
  have hup3 : (W.alloc (.cells #[.int .i64 y.k, .int .i64 y.s, .int .i64 y.n, .slice ea en eC] 69)).cell? ⟨g, 3, none⟩ = some (.bool x.up) := B.blk.cell 3
  have gbl := B.blk.lt
  by_cases h1 : y.k < 1 ∨ 9 < y.k
  · have e4 := hHE.trans (hap_none (x := x) h1)
    have eZ := hide (keep0 (by rw [e4]; decide))
    have hWB := hide (show Did Q g h W 4 x (.returned (.int .i64 4)) (W.alloc (.cells #[.int .i64 y.k, .int .i64 y.s, .int .i64 y.n, .slice ea en eC] 69)) from ⟨rfl, h, p, ys, B, Gb2.below bel, .inl rfl⟩)
    subst e4
    clear hHE hZ keep0 B s3 gl
    obtain ⟨K, S, N, L⟩ := y
    simp only at *
    by_cases ha : K < 1
    · clear h1
      go_enter Tryz.func61, Tryz.ntmps61
      go_wp2_with fail
      go_ret
      rw [eZ.out]
      exact hWB.out
    · have hb : 9 < K := by omega
      clear h1
      go_enter Tryz.func61, Tryz.ntmps61
      go_wp2_with fail
      go_ret
      rw [eZ.out]
      exact hWB.out
  · have ha : ¬ y.k < 1 := by omega
    have hb : ¬ 9 < y.k := by omega
    by_cases hl : x.up = decide (y.k = 8)
    · have e7 := hHE.trans (hap_late (x := x) (y := y) (by omega) hl)
      have eZ := hide (keep0 (by rw [e7]; decide))
      have hWB := hide (show Did Q g h W 7 x (.returned (.int .i64 7)) ((W.alloc (.cells #[.int .i64 y.k, .int .i64 y.s, .int .i64 y.n, .slice ea en eC] 69)).drew) from ⟨rfl, h, p, ys, B.call (belowDrew (Below.refl _ _)), Gb2.below (belowDrew bel), .inl rfl⟩)
      subst e7
      rw [hl] at hup3
      clear hHE hZ keep0 B s3 gl hl h1
      obtain ⟨K, S, N, L⟩ := y
      simp only at *
      by_cases h8 : K = 8
      · subst h8
        rw [decide_eq_true rfl] at hup3
        go_enter Tryz.func61, Tryz.ntmps61
        go_upto_region 3 with fail
        generalize World.alloc W _ = v at *
        have y0 : v.cell? ⟨W.heap.size, 0, none⟩ = some (.int .i64 8) := BY.cell 0
        have yl := BY.lt
        go_wp2_with fail
        go_region
        all_goals (
          go_wp2_with fail
          go_ret
          rw [eZ.out]
          exact hWB.out)
      · have h8' : (K == 8) = false := by simpa using h8
        have h8d : decide (K = 8) = false := decide_eq_false h8
        rw [h8d] at hup3
        go_enter Tryz.func61, Tryz.ntmps61
        go_upto_region 3 with fail
        generalize World.alloc W _ = v at *
        have y0 : v.cell? ⟨W.heap.size, 0, none⟩ = some (.int .i64 K) := BY.cell 0
        have yl := BY.lt
        go_wp2_with fail
        go_region
        all_goals (
          go_wp2_with fail
          go_ret
          rw [eZ.out]
          exact hWB.out)
    · obtain ⟨K, S, N, L⟩ := y
      simp only at *
      by_cases h8 : K = 8
      · subst h8
        have hu : x.up = false := by cases hx : x.up with | false => rfl | true => exact absurd (hx.trans (decide_eq_true rfl).symm) hl
        rw [hu] at hup3
        clear hl
        go_enter Tryz.func61, Tryz.ntmps61
        go_upto_region 3 with fail
        generalize World.alloc W _ = v at *
        have y0 : v.cell? ⟨W.heap.size, 0, none⟩ = some (.int .i64 8) := BY.cell 0
        have y1 : v.cell? ⟨W.heap.size, 1, none⟩ = some (.int .i64 S) := BY.cell 1
        have y2 : v.cell? ⟨W.heap.size, 2, none⟩ = some (.int .i64 N) := BY.cell 2
        have y3 : v.cell? ⟨W.heap.size, 3, none⟩ = some (.slice ea en eC) := BY.cell 3
        have yl := BY.lt
        have Bd := B.call (belowDrew (Below.refl v.heap.size v))
        have gld := gl.call (belowDrew (Below.refl v.heap.size v))
        have beld := belowDrew bel
        have s3d := s3.call (belowDrew (Below.refl v.heap.size v))
        have cC : Calls Tryz.prog 105 #[.pointer (some ⟨g, 0, none⟩)] v.drew (Did Q g h v.drew HE Z) := by
          rw [hHE, hZ]
          exact boot_any ⟨8, S, N, L⟩ rfl g h p ys x v.drew Bd (fun q e => Nat.lt_of_lt_of_le (hQ.out q e) beld.size) hu gld
        replace hZ := hide hZ
        replace hHE := hide hHE
        clear keep0 B s3 gl bel
        go_wp2_with fail
        go_region
        all_goals (
          go_wp2_with fail
          go_at_call 105
          refine cC.mono ?_
          rintro e w4 hD
          have hD2 := hD.pre beld
          clear hD
          obtain ⟨rfl, hD3⟩ := hD2
          replace hD3 := hide hD3
          clear cC
          go_wp2_with fail
          go_ret
          exact ⟨rfl, hD3.out⟩)
      · have hu : x.up = true := by cases hx : x.up with | true => rfl | false => exact absurd (hx.trans (decide_eq_false h8).symm) hl
        have h8' : (K == 8) = false := by simpa using h8
        have h8d : decide (K = 8) = false := decide_eq_false h8
        rw [hu] at hup3
        clear hl
        by_cases h5 : K = 5
        · subst h5
          obtain ⟨q1, q2, q3⟩ := hap_k5 (y := ⟨5, S, N, L⟩) B.right hu (.inl rfl)
          rw [if_pos rfl] at q2 q3
          go_enter Tryz.func61, Tryz.ntmps61
          go_upto_region 3 with fail
          generalize World.alloc W _ = v at *
          have y0 : v.cell? ⟨W.heap.size, 0, none⟩ = some (.int .i64 5) := BY.cell 0
          have y1 : v.cell? ⟨W.heap.size, 1, none⟩ = some (.int .i64 S) := BY.cell 1
          have y2 : v.cell? ⟨W.heap.size, 2, none⟩ = some (.int .i64 N) := BY.cell 2
          have y3 : v.cell? ⟨W.heap.size, 3, none⟩ = some (.slice ea en eC) := BY.cell 3
          have yl := BY.lt
          have Bd := B.call (belowDrew (Below.refl v.heap.size v))
          have gld := gl.call (belowDrew (Below.refl v.heap.size v))
          have beld := belowDrew bel
          have s3d := s3.call (belowDrew (Below.refl v.heap.size v))
          have cC : Calls Tryz.prog 102 #[.pointer (some ⟨g, 0, none⟩), .int .i64 N] v.drew (Did Q g h v.drew HE Z) := by
            rw [hHE, hZ, q2, q1]
            exact openReader_any N g h p ys x v.drew Bd gld q3
          clear q1 q2 q3
          replace hZ := hide hZ
          replace hHE := hide hHE
          clear keep0 B s3 gl bel
          go_wp2_with fail
          go_region
          all_goals (
            go_wp2_with fail
            go_at_call 102
            refine cC.mono ?_
            rintro e w4 hD
            have hD2 := hD.pre beld
            clear hD
            obtain ⟨rfl, hD3⟩ := hD2
            replace hD3 := hide hD3
            clear cC
            go_wp2_with fail
            go_ret
            exact ⟨rfl, hD3.out⟩)
        by_cases h6 : K = 6
        · subst h6
          obtain ⟨q1, q2, q3⟩ := hap_k5 (y := ⟨6, S, N, L⟩) B.right hu (.inr rfl)
          rw [if_neg (show ¬ (⟨6, S, N, L⟩ : Hp).k = 5 by show ¬ (6 : Int) = 5; decide)] at q2 q3
          go_enter Tryz.func61, Tryz.ntmps61
          go_upto_region 3 with fail
          generalize World.alloc W _ = v at *
          have y0 : v.cell? ⟨W.heap.size, 0, none⟩ = some (.int .i64 6) := BY.cell 0
          have y1 : v.cell? ⟨W.heap.size, 1, none⟩ = some (.int .i64 S) := BY.cell 1
          have y2 : v.cell? ⟨W.heap.size, 2, none⟩ = some (.int .i64 N) := BY.cell 2
          have y3 : v.cell? ⟨W.heap.size, 3, none⟩ = some (.slice ea en eC) := BY.cell 3
          have yl := BY.lt
          have Bd := B.call (belowDrew (Below.refl v.heap.size v))
          have gld := gl.call (belowDrew (Below.refl v.heap.size v))
          have beld := belowDrew bel
          have s3d := s3.call (belowDrew (Below.refl v.heap.size v))
          have cC : Calls Tryz.prog 103 #[.pointer (some ⟨g, 0, none⟩), .int .i64 N, .int .i64 (-1)] v.drew (Did Q g h v.drew HE Z) := by
            rw [hHE, hZ, q2, q1]
            exact setReader_any N (-1) g h p ys x v.drew Bd q3
          clear q1 q2 q3
          replace hZ := hide hZ
          replace hHE := hide hHE
          clear keep0 B s3 gl bel
          go_wp2_with fail
          go_region
          all_goals (
            go_wp2_with fail
            go_at_call 103
            refine cC.mono ?_
            rintro e w4 hD
            have hD2 := hD.pre beld
            clear hD
            obtain ⟨rfl, hD3⟩ := hD2
            replace hD3 := hide hD3
            clear cC
            go_wp2_with fail
            go_ret
            exact ⟨rfl, hD3.out⟩)
        by_cases h7 : K = 7
        · subst h7
          obtain ⟨q1, q2⟩ := hap_k7 (y := ⟨7, S, N, L⟩) hu rfl
          have eH : HE = 0 := hHE.trans q1
          have eZ := hide (show Z = ⟨newS, x.d, false, shutR⟩ by rw [hZ, if_pos q1, q2])
          go_enter Tryz.func61, Tryz.ntmps61
          go_upto_region 3 with fail
          generalize World.alloc W _ = v at *
          have y0 : v.cell? ⟨W.heap.size, 0, none⟩ = some (.int .i64 7) := BY.cell 0
          have y1 : v.cell? ⟨W.heap.size, 1, none⟩ = some (.int .i64 S) := BY.cell 1
          have y2 : v.cell? ⟨W.heap.size, 2, none⟩ = some (.int .i64 N) := BY.cell 2
          have y3 : v.cell? ⟨W.heap.size, 3, none⟩ = some (.slice ea en eC) := BY.cell 3
          have yl := BY.lt
          have Bd := B.call (belowDrew (Below.refl v.heap.size v))
          have gld := gl.call (belowDrew (Below.refl v.heap.size v))
          have beld := belowDrew bel
          have s3d := s3.call (belowDrew (Below.refl v.heap.size v))
          have cC := loseAll_any Q g p x.up x.d v.drew Bd.blk Bd.is.e1 Bd.is.e2 Bd.is.s1 Bd.is.s2 (wd_right Bd.right).1
          subst eH
          clear hZ hHE keep0 B s3 gl bel q1 q2
          go_wp2_with fail
          go_region
          all_goals (
            go_wp2_with fail
            go_at_call 104
            refine cC.mono ?_
            rintro e w4 ⟨rfl, h', p', ys', WB, gr, hh⟩
            have hD3 := hide (Did.pre beld (show Did Q g h v.drew 0 ⟨newS, x.d, false, shutR⟩ (.returned (.int .i64 0)) w4 from ⟨rfl, h', p', ys', WB, Gb2.box gr, .inr hh⟩))
            clear cC WB gr hh
            go_wp2_with fail
            go_ret
            rw [eZ.out]
            exact hD3.out)
        have n5 : (K == 5) = false := by simpa using h5
        have n6 : (K == 6) = false := by simpa using h6
        have n7 : (K == 7) = false := by simpa using h7
        have d5 : decide (K = 5) = false := decide_eq_false h5
        have d6 : decide (K = 6) = false := decide_eq_false h6
        have d7 : decide (K = 7) = false := decide_eq_false h7
        by_cases h9 : K = 9
        · subst h9
          go_enter Tryz.func61, Tryz.ntmps61
          go_upto_region 3 with fail
          generalize World.alloc W _ = v at *
          have y0 : v.cell? ⟨W.heap.size, 0, none⟩ = some (.int .i64 9) := BY.cell 0
          have y1 : v.cell? ⟨W.heap.size, 1, none⟩ = some (.int .i64 S) := BY.cell 1
          have y2 : v.cell? ⟨W.heap.size, 2, none⟩ = some (.int .i64 N) := BY.cell 2
          have y3 : v.cell? ⟨W.heap.size, 3, none⟩ = some (.slice ea en eC) := BY.cell 3
          have yl := BY.lt
          have Bd := B.call (belowDrew (Below.refl v.heap.size v))
          have gld := gl.call (belowDrew (Below.refl v.heap.size v))
          have beld := belowDrew bel
          have s3d := s3.call (belowDrew (Below.refl v.heap.size v))
          have cR := fun V s => recordOf_any ⟨9, S, N, L⟩ ea en eC V s h3
          unfold AnsRec at cR
          have cells : ∀ V, Gb2 g h v.drew V → V.cell? ⟨W.heap.size, 0, none⟩ = some (.int .i64 9) ∧ V.cell? ⟨W.heap.size, 1, none⟩ = some (.int .i64 S) ∧ V.cell? ⟨W.heap.size, 2, none⟩ = some (.int .i64 N) ∧ V.cell? ⟨W.heap.size, 3, none⟩ = some (.slice ea en eC) := fun V hV =>
            have q := Blk.gb2 (W := v.drew) (BY.keep (belowDrew (Below.refl v.heap.size v)) BY.lt) hV hgW0 hhW0
            ⟨q.cell 0, q.cell 1, q.cell 2, q.cell 3⟩
          have kR : ∀ V, Below v.drew.heap.size v.drew V → Calls Tryz.prog 107 #[.agg #[.int .i64 9, .int .i64 S, .int .i64 N, .slice ea en eC]] V fun e w' => ∃ (a : Option Addr) (n c : Nat), e = .returned (.agg #[.int .i64 (recOf ⟨9, S, N, L⟩).k, .int .i64 (recOf ⟨9, S, N, L⟩).s, .int .i64 (recOf ⟨9, S, N, L⟩).n, .slice a n c]) ∧
              w'.cell? ⟨W.heap.size, 0, none⟩ = some (.int .i64 9) ∧ w'.cell? ⟨W.heap.size, 1, none⟩ = some (.int .i64 S) ∧ w'.cell? ⟨W.heap.size, 2, none⟩ = some (.int .i64 N) ∧ w'.cell? ⟨W.heap.size, 3, none⟩ = some (.slice ea en eC) ∧
              Hid (n = (recOf ⟨9, S, N, L⟩).e.length) ∧ SlW ec w' a c (recOf ⟨9, S, N, L⟩).e ∧ Below v.drew.heap.size v.drew w' := by
            intro V hV
            refine (cR V (s3d.call hV)).mono ?_
            rintro e w' ⟨a, n, c, rfl, hn, s, b⟩
            obtain ⟨c0, c1, c2, c3⟩ := cells w' (Gb2.below (belowCall hV b))
            exact ⟨a, n, c, rfl, c0, c1, c2, c3, hn, s, belowCall hV b⟩
          have kT : ∀ V (a : Option Addr) (n c : Nat), Below v.drew.heap.size v.drew V → SlW ec V a c (recOf ⟨9, S, N, L⟩).e → Hid (n = (recOf ⟨9, S, N, L⟩).e.length) → Calls Tryz.prog 106 #[.pointer (some ⟨g, 0, none⟩), .agg #[.int .i64 (recOf ⟨9, S, N, L⟩).k, .int .i64 (recOf ⟨9, S, N, L⟩).s, .int .i64 (recOf ⟨9, S, N, L⟩).n, .slice a n c], .int .i64 N] V fun e w' => e = .returned (.int .i64 HE) ∧
              w'.cell? ⟨W.heap.size, 0, none⟩ = some (.int .i64 9) ∧ w'.cell? ⟨W.heap.size, 1, none⟩ = some (.int .i64 S) ∧ w'.cell? ⟨W.heap.size, 2, none⟩ = some (.int .i64 N) ∧ w'.cell? ⟨W.heap.size, 3, none⟩ = some (.slice ea en eC) ∧
              Hid (Did Q g h v.drew HE Z (.returned (.int .i64 HE)) w') := by
            intro V a n c hV s hn
            have t := tear_any ⟨9, S, N, L⟩ rfl g h p ys x V (Bd.call hV) hu (gld.call hV) a n c s hn
            rw [← hZ, ← hHE] at t
            refine t.mono ?_
            rintro e w' hD
            have hD2 := Did.pre hV hD
            obtain ⟨rfl, h', p', ys', WB, gr, hh⟩ := hD2
            obtain ⟨c0, c1, c2, c3⟩ := cells w' gr
            exact ⟨rfl, c0, c1, c2, c3, hide ⟨rfl, h', p', ys', WB, gr, hh⟩⟩
          have k0 : Below v.drew.heap.size v.drew v.drew.drew := belowDrew (Below.refl _ _)
          generalize recOf ⟨9, S, N, L⟩ = R at *
          replace hZ := hide hZ
          replace hHE := hide hHE
          replace cells := hide cells
          clear keep0 B s3 gl bel cR Bd s3d gld
          go_wp2_with fail
          go_region
          all_goals (
            go_wp2_with fail
            go_region_held3 (fun w' => w'.cell? ⟨W.heap.size, 0, none⟩ = some (.int .i64 9) ∧ w'.cell? ⟨W.heap.size, 1, none⟩ = some (.int .i64 S) ∧ w'.cell? ⟨W.heap.size, 2, none⟩ = some (.int .i64 N) ∧ w'.cell? ⟨W.heap.size, 3, none⟩ = some (.slice ea en eC)) (go_keep)
              (first
                | (go_at_call 106; refine (kT _ _ _ _ zA sA hA).mono ?_; rintro e wB ⟨rfl, r0, r1, r2, r3, hD⟩)
                | (go_at_call 107; refine (kR _ k0).mono ?_; rintro e wA ⟨a, n, c, rfl, q0, q1, q2, q3, hA, sA, zA⟩))
            all_goals (
              have hD3 := hide (Did.pre beld hD.out)
              clear hD
              go_wp2_with fail
              go_ret
              exact hD3.out))
        · have n9 : (K == 9) = false := by simpa using h9
          have d9 : decide (K = 9) = false := decide_eq_false h9
          go_enter Tryz.func61, Tryz.ntmps61
          go_upto_region 3 with fail
          generalize World.alloc W _ = v at *
          have y0 : v.cell? ⟨W.heap.size, 0, none⟩ = some (.int .i64 K) := BY.cell 0
          have y1 : v.cell? ⟨W.heap.size, 1, none⟩ = some (.int .i64 S) := BY.cell 1
          have y2 : v.cell? ⟨W.heap.size, 2, none⟩ = some (.int .i64 N) := BY.cell 2
          have y3 : v.cell? ⟨W.heap.size, 3, none⟩ = some (.slice ea en eC) := BY.cell 3
          have yl := BY.lt
          have Bd := B.call (belowDrew (Below.refl v.heap.size v))
          have gld := gl.call (belowDrew (Below.refl v.heap.size v))
          have beld := belowDrew bel
          have s3d := s3.call (belowDrew (Below.refl v.heap.size v))
          have cR := fun V s => recordOf_any ⟨K, S, N, L⟩ ea en eC V s h3
          unfold AnsRec at cR
          have cW : ∀ V (a : Option Addr) (n c : Nat), Below v.drew.heap.size v.drew V → SlW ec V a c (recOf ⟨K, S, N, L⟩).e → Hid (n = (recOf ⟨K, S, N, L⟩).e.length) → Calls Tryz.prog 108 #[.pointer (some ⟨g, 0, none⟩), .agg #[.int .i64 (recOf ⟨K, S, N, L⟩).k, .int .i64 (recOf ⟨K, S, N, L⟩).s, .int .i64 (recOf ⟨K, S, N, L⟩).n, .slice a n c]] V (Did Q g h V HE Z) := by
            intro V a n c hV s hn
            rw [hHE, hZ]
            exact wwrite_any ⟨K, S, N, L⟩ (by show 1 ≤ K ∧ K ≤ 4; omega) g h p ys x V (Bd.call hV) (fun q e => Nat.lt_of_lt_of_le (hQ.out q e) (Nat.le_trans beld.size hV.size)) hu (gld.call hV) a n c s hn
          generalize recOf ⟨K, S, N, L⟩ = R at *
          replace hZ := hide hZ
          replace hHE := hide hHE
          clear keep0 B s3 gl bel h1 Bd gld
          go_wp2_with fail
          go_region
          all_goals (
            go_wp2_with fail
            go_at_call 107
            refine (cR _ s3d).mono ?_
            rintro e w4 ⟨a, n, c, rfl, hn, sR, b4⟩
            clear cR
            go_wp2_with fail
            go_at_call 108
            refine (cW _ a n c b4 sR hn).mono ?_
            rintro e w5 hD
            have hD2 := Did.pre (belowCall beld b4) hD
            clear hD
            obtain ⟨rfl, hD3⟩ := hD2
            replace hD3 := hide hD3
            clear cW sR b4
            go_wp2_with fail
            go_ret
            exact ⟨rfl, hD3.out⟩)

end Go.Proofs.YtcjdpilmhlfmfaaGreatDoor

/-
  world.Run: one happening after the other.
-/
namespace Go.Proofs.YtcjdpilmhlfmfaaGreatDoor
open Go.RowKit
open Go.Lib (byteCells)

def hpOf (r : Rc) : Hp := ⟨r.k, r.s, r.n, r.e⟩

theorem runW_snoc (w : Wd) (a : List Hp) (y : Hp) : runW w (a ++ [y]) = (if hapE (runW w a).1 y = 0 then hapW (runW w a).1 y else (runW w a).1, (runW w a).2 ++ [hapE (runW w a).1 y]) := by
  rw [runW_append, runW_cons]
  generalize runW w a = R
  by_cases h : hapE R.1 y = 0
  · rw [if_pos h, if_pos h, h]
    rfl
  · rw [if_neg h, if_neg h]
    rfl

/-- A world that was answered, and what was said of each happening. -/
def AnsRun (W : World) (x : Wd) (said : List Int) (E : Int) (e : Ending) (w' : World) : Prop :=
  ∃ (p : Pw) (ss : Option Addr) (sn sG : Nat), e = .returned (.tuple #[p.val x.up, .slice ss sn sG, .int .i64 E]) ∧ IsW w' p x ∧ Hid (sn = said.length) ∧ Sl w' ss sG (said.map (Value.int .i64)) ∧ Below W.heap.size W w'

theorem infoErr : (Tryz.prog.info? 31).map (fun i => (i.zero, i.size, i.bytes)) = some (some (.int .i64 0), 1, 8) := by kernel_rfl

theorem set_zero (s : List Int) (k n : Nat) (hs : s.length = k) (hk : k < n) (v : Int) : ((s ++ List.replicate (n - k) 0).map (Value.int .i64)).set k (.int .i64 v) = ((s ++ [v]) ++ List.replicate (n - (k + 1)) 0).map (Value.int .i64) := by
  rw [← List.map_set, List.set_append_right _ _ (by omega), hs, Nat.sub_self]
  obtain ⟨m, hm⟩ : ∃ m, n - k = m + 1 := ⟨n - k - 1, by omega⟩
  rw [hm, List.replicate_succ, List.set_cons_zero, show n - (k + 1) = m by omega]
  simp

theorem madeZ {w' : World} {g n : Nat} {cs : List Value} {t : TypeId} (h : w'.ownsRow g t 1 (.slice (some ⟨g, 0, none⟩) n n) n cs) : Blk w' g cs t := by
  have hl := h.1
  rcases h.2 with ⟨h', _⟩ | ⟨g', cap', cur, h', _, hg, _, _, hs, htake⟩
  · simp at h'
  · simp only [Value.slice.injEq, Option.some.injEq, Addr.mk.injEq, and_true, true_and] at h'
    obtain ⟨rfl, rfl⟩ := h'
    have e : cur.toList = cs := by
      rw [← htake, List.take_of_length_le (by simp [hs])]
    unfold Blk
    rw [← e]
    simpa using hg

theorem madeI (n : Nat) : (madeCells #[Value.int .i64 0] n).toList = (List.replicate n (0 : Int)).map (Value.int .i64) := by
  rw [List.map_replicate]
  apply List.eq_replicate_iff.2
  constructor
  · simp [madeCells]
  · intro v hv
    simp [madeCells] at hv
    obtain ⟨i, _, rfl⟩ := hv
    simp [Nat.mod_one]

set_option maxHeartbeats 8000000 in
set_option maxRecDepth 100000 in
theorem run_ok (x : Wd) (l : List Lrc) (p : Pw) (la : Option Addr) (ln lc : Nat) (w : World) (hg : Gl w) (I : IsW w p x) (h : wdE x = 0) (SL : SlRec w la lc l) (hln : Hid (ln = l.length)) :
    Calls Tryz.prog 42 #[p.val x.up, .slice la ln lc] w (if 100 < l.length then AnsRun w wd0 [] 2 else AnsRun w (runW x (l.map (fun r => hpOf r.r))).1 (runW x (l.map (fun r => hpOf r.r))).2 0) := by
  have c := fun W g i => copyOf_ok x p W g i h
  unfold AnsC at c
  have hlc : ln ≤ lc := by rw [hln.out]; exact SL.row.le
  have hlm : lc ≤ 9223372036854775807 := SL.row.max
  obtain ⟨U, hU⟩ : ∃ U, U = x.up := ⟨_, rfl⟩
  rw [← hU] at c ⊢
  replace hU := hide hU
  obtain ⟨sa, sn, sG, a1, n1, c1, a2, n2, c2, ra, rn, rc⟩ := p
  simp only [Pw.val] at *
  have BX := (Blk.laid w [.slice sa sn sG, .slice a1 n1 c1, .slice a2 n2 c2, .bool U, .slice ra rn rc] 30 _ rfl).alc (.cells #[.slice none 0 0, .slice none 0 0, .slice none 0 0, .bool false, .slice none 0 0] 30)
  have BR := Blk.laid (w.alloc (.cells #[.slice sa sn sG, .slice a1 n1 c1, .slice a2 n2 c2, .bool U, .slice ra rn rc] 30)) [.slice none 0 0, .slice none 0 0, .slice none 0 0, .bool false, .slice none 0 0] 30 (w.heap.size + 1) (by simp)
  have bel := newB (newB (Below.refl w.heap.size w) (.cells #[.slice sa sn sG, .slice a1 n1 c1, .slice a2 n2 c2, .bool U, .slice ra rn rc] 30)) (.cells #[.slice none 0 0, .slice none 0 0, .slice none 0 0, .bool false, .slice none 0 0] 30)
  replace I := hide (I.keep bel (Nat.le_refl _))
  have gl := hg.call bel
  obtain ⟨gR, hgR'⟩ : ∃ gR, gR = w.heap.size + 1 := ⟨_, rfl⟩
  rw [← hgR'] at BR
  have hgR : w.heap.size ≤ gR := by omega
  by_cases h100 : 100 < l.length
  · rw [if_pos h100]
    have hm : (100 : Int) < ln := by rw [hln.out]; omega
    go_enter Tryz.func42, Tryz.ntmps42
    go_upto_region 1 with fail
    rw [← hgR']
    generalize World.alloc (World.alloc w _) _ = w1 at *
    clear hgR'
    have x0 := BX.cell 0
    have x1 := BX.cell 1
    have x2 := BX.cell 2
    have x3 := BX.cell 3
    have x4 := BX.cell 4
    have xl := BX.lt
    go_wp2_with fail
    go_at_call 60
    refine (c _ gl I.out).mono ?_
    rintro e w2 ⟨h', ⟨sb, sm, sH, b1, m1, k1, b2, m2, k2, rb, rm, rk⟩, ys, he, V, hh, bb⟩
    simp only at he
    subst he
    clear c x0 x1 x2 x3 x4 xl BX I
    have bq := newB bb (.cells #[.slice sb sm sH, .slice b1 m1 k1, .slice b2 m2 k2, .bool U, .slice rb rm rk] 30)
    replace BR := BR.keep bq BR.lt
    replace bel := belowCall bel bq
    clear bq bb V hh
    go_upto_region 5 with fail
    generalize World.alloc w2 _ = w3 at *
    have r0 := BR.cell 0
    have r1 := BR.cell 1
    have r2 := BR.cell 2
    have r3 := BR.cell 3
    have r4 := BR.cell 4
    have f0 := BR.free 0
    have f1 := BR.free 1
    have f2 := BR.free 2
    have f3 := BR.free 3
    have f4 := BR.free 4
    have rl := BR.lt
    replace BR := hide BR
    replace bel := hide bel
    go_wp2_with fail
    have B9 := put5r BR.out (.slice none 0 0) (.slice none 0 0) (.slice none 0 0) (.bool false) (.slice none 0 0)
    have bel9 := below5r bel.out hgR (.slice none 0 0) (.slice none 0 0) (.slice none 0 0) (.bool false) (.slice none 0 0)
    have i0 := B9.cell 0
    have i1 := B9.cell 1
    have i2 := B9.cell 2
    have i3 := B9.cell 3
    have i4 := B9.cell 4
    exact bodyPost_ret (v := .tuple #[.agg #[.slice none 0 0, .slice none 0 0, .slice none 0 0, .bool false, .slice none 0 0], .slice none 0 0, .int .i64 2]) (by simp [results, Tryz.results42, go_sem, i0, i1, i2, i3, i4]) rfl ⟨pw0, none, 0, 0, rfl, IsW.nil _, hide rfl, Sl.ofNil _, bel9⟩
  · rw [if_neg h100]
    have hm : ¬ (100 : Int) < ln := by rw [hln.out]; omega
    have hm2 : ln ≤ 100 := by rw [hln.out]; omega
    obtain ⟨L, hL⟩ : ∃ L, L = l.map (fun r => hpOf r.r) := ⟨_, rfl⟩
    rw [← hL]
    replace hL := hide hL
    obtain ⟨RX, hRX⟩ : ∃ RX, RX = runW x L := ⟨_, rfl⟩
    rw [← hRX]
    replace hRX := hide hRX
    obtain ⟨ie, hi, hz0, hz1, hz2⟩ := info_parts infoErr
    clear h100
    go_enter Tryz.func42, Tryz.ntmps42
    go_upto_region 1 with fail
    rw [← hgR']
    generalize World.alloc (World.alloc w _) _ = w1 at *
    clear hgR'
    have x0 := BX.cell 0
    have x1 := BX.cell 1
    have x2 := BX.cell 2
    have x3 := BX.cell 3
    have x4 := BX.cell 4
    have xl := BX.lt
    go_wp2_with fail
    go_at_call 60
    refine (c _ gl I.out).mono ?_
    rintro e w2 ⟨h', ⟨sb, sm, sH, b1, m1, k1, b2, m2, k2, rb, rm, rk⟩, ys, he, V, hh, bb⟩
    simp only at he
    subst he
    clear c x0 x1 x2 x3 x4 xl BX I
    have lR1 := BR.lt
    have lbb := bb.size
    have WB := V.box
    simp only [Pw.cells, ← hU.out] at WB
    have bq := newB bb (.cells #[.slice sb sm sH, .slice b1 m1 k1, .slice b2 m2 k2, .bool U, .slice rb rm rk] 30)
    replace BR := BR.keep bq BR.lt
    have lg : gR < w2.heap.size := Nat.lt_of_lt_of_le lR1 lbb
    replace bel := belowCall bel bq
    have lh : w.heap.size ≤ h' := Nat.le_trans (Nat.le_of_lt (Nat.lt_of_le_of_lt hgR lR1)) hh
    have nhR : gR ≠ h' := by omega
    clear bq bb V hh lR1 lbb gl
    go_upto_region 6 with fail
    generalize w2.heap.size = g at *
    generalize World.alloc w2 _ = w3 at *
    have lW3 := bel.size
    go_wp2_with (at_make; refine wpList_make_full _ rfl (.tmp 26) (.tmp 26) 81 rfl w3.heap.size 31 ie (.int .i64 0) 1 Tryz.underlying81 hi hz0 hz1 _ _ _ _ ln rfl rfl rfl rfl (by rw [hz2]; omega) (by unfold maxLen; omega) (Nat.le_refl _) ?_)
    intro w4 own grow
    have b4 : Below w3.heap.size w3 w4 := (Below.refl _ _).grown grow (Nat.le_refl _) (fun k h => by cases h)
    rw [madeI] at own
    have BS0 := madeZ own
    obtain ⟨gS, hgS⟩ : ∃ gS, gS = w3.heap.size := ⟨_, rfl⟩
    rw [← hgS] at BS0 ⊢
    have lgS : g < gS := by rw [hgS]; exact WB.blk.lt
    have lhS : h' < gS := by rw [hgS]; exact WB.rb.lt
    have lRS : gR < gS := by rw [hgS]; exact BR.lt
    have WB0 := hide ((WB.more (Q' := fun q => q = gS) (fun q hq => .inr (by rw [hq, hgS]; exact Nat.le_refl _))).call b4)
    replace BR := hide (BR.keep b4 BR.lt)
    have bel0 := belowCall bel b4
    have H0 : Hid (([] : List Int).length = 0 ∧ runW x (L.take 0) = (x, [])) := hide ⟨rfl, rfl⟩
    replace BS0 := hide (show Blk w4 gS ((([] : List Int) ++ List.replicate (ln - 0) 0).map (Value.int .i64)) 31 from BS0)
    have hgl := hide hg
    clear own grow b4 WB bel hgS hg
    go_wp2_with fail
    go_loopw [30] (fun i wr => ∃ (k : Nat) (h2 : Nat) (p2 : Pw) (ys2 : List Int) (x2 : Wd) (s : List Int), k ≤ ln ∧ i = .int .i64 k ∧ Hid (WdB (fun q => q = gS) wr g h2 p2 ys2 x2) ∧ Hid (Blk wr gS ((s ++ List.replicate (ln - k) 0).map (Value.int .i64)) 31) ∧ Hid (s.length = k ∧ runW x (L.take k) = (x2, s)) ∧ Hid (Blk wr gR [.slice none 0 0, .slice none 0 0, .slice none 0 0, .bool false, .slice none 0 0] 30) ∧ Hid (w.heap.size ≤ h2 ∧ gS ≠ h2 ∧ gR ≠ h2) ∧ Below w.heap.size w wr) (fun i _ => ln - (intOf i).toNat)
    case atStart => exact ⟨0, h', _, ys, x, [], Nat.zero_le _, rfl, WB0, BS0, H0, BR, hide ⟨lh, by omega, by omega⟩, bel0⟩
    case round =>
      clear WB0 BS0 H0 BR bel0
      obtain ⟨k, h2, p2, ys2, x2, s, hk, rfl, WB, BS, H, BR, hne, bel⟩ := hrel
      by_cases hlt : k < ln
      · have hkl : k < l.length := by rw [← hln.out]; exact hlt
        obtain ⟨q, hq⟩ : ∃ q, l[k]? = some q := ⟨_, List.getElem?_eq_getElem hkl⟩
        obtain ⟨lb, lo, rfl, hlb⟩ := SL.row.where Lrc.four (by decide) (by intro h; subst h; simp at hkl)
        have S' := SL.keep bel (Nat.le_refl _)
        have d0 := S'.row.cell Lrc.four k 0 q _ hq rfl
        have d1 := S'.row.cell Lrc.four k 1 q _ hq rfl
        have d2 := S'.row.cell Lrc.four k 2 q _ hq rfl
        have d3 := S'.row.cell Lrc.four k 3 q _ hq rfl
        simp only [Nat.add_zero] at d0
        have llb := Nat.lt_of_lt_of_le hlb bel.size
        have hent := S'.ent q (List.mem_of_getElem? hq)
        have hLk : L[k]? = some (hpOf q.r) := by rw [hL.out, List.getElem?_map, hq]; rfl
        have hsn := runW_snoc x (L.take k) (hpOf q.r)
        have htk : L.take (k + 1) = L.take k ++ [hpOf q.r] := by rw [List.take_add_one, hLk]; rfl
        rw [← htk, H.out.2] at hsn
        simp only at hsn
        obtain ⟨HE, hHE⟩ : ∃ HE, HE = hapE x2 (hpOf q.r) := ⟨_, rfl⟩
        obtain ⟨Z, hZ⟩ : ∃ Z, Z = (if hapE x2 (hpOf q.r) = 0 then hapW x2 (hpOf q.r) else x2) := ⟨_, rfl⟩
        rw [← hZ, ← hHE] at hsn
        have cH := fun V B hQ gl t => happen_any (Q := fun q => q = gS) (hpOf q.r) g h2 p2 ys2 x2 V B hQ gl q.a q.r.e.length q.c t (hide rfl)
        rw [← hZ, ← hHE] at cH
        unfold hpOf at cH
        simp only at cH
        have bc := newB (Below.refl wr.heap.size wr) (.cells #[.int .i64 q.r.k, .int .i64 q.r.s, .int .i64 q.r.n, .slice q.a q.r.e.length q.c] 69)
        have BC := Blk.laid wr [.int .i64 q.r.k, .int .i64 q.r.s, .int .i64 q.r.n, .slice q.a q.r.e.length q.c] 69 _ rfl
        have gl1 := (hgl.out.call bel).call bc
        have hent1 := hent.call bc
        replace WB := hide (WB.out.call bc)
        replace BS := hide (BS.out.keep bc BS.out.lt)
        replace BR := hide (BR.out.keep bc BR.out.lt)
        replace bel := belowCall bel bc
        replace hsn := hide hsn
        replace hq := hide hq
        clear S' hkl hent hLk htk hHE hZ bc
        go_upto_region 10 with fail
        generalize wr.heap.size = gC at *
        generalize World.alloc wr _ = v at *
        have y0 := BC.cell 0
        have y1 := BC.cell 1
        have y2 := BC.cell 2
        have y3 := BC.cell 3
        have yl := BC.lt
        have cH2 := cH v WB.out (fun q hq => by rw [hq]; exact BS.out.lt) gl1 hent1
        clear d0 d1 d2 d3 llb cH
        go_wp2_with fail
        go_at_call 61
        refine cH2.mono ?_
        rintro e w5 ⟨rfl, h3, p3, ys3, WB3, gr, hh3⟩
        have BSv := BS.out
        have lSv := BSv.lt
        have hne3 : Hid (w.heap.size ≤ h3 ∧ gS ≠ h3 ∧ gR ≠ h3) := hide (by
          have := hne.out
          have := bel.size
          have := BR.out.lt
          rcases hh3 with rfl | hh3
          · exact hne.out
          · exact ⟨by omega, by omega, by omega⟩)
        have BS3 := BSv.gb2 gr (by omega) hne.out.2.1
        have BR3 := hide (BR.out.gb2 gr (by omega) hne.out.2.2)
        have bel3 : Below w.heap.size w w5 := bel.trans (gr.from (by omega) hne.out.1 bel.size)
        have hset := set_zero s k ln H.out.1 hlt HE
        have WB4 := hide (WB3.said (i := k) (v := HE) rfl BS3 (by decide) (by decide))
        have BS4 := BS3.set k (.int .i64 HE)
        rw [hset] at BS4
        replace BS4 := hide BS4
        have BR4 := hide (BR3.out.other (g' := gS) k (.int .i64 HE) (by omega))
        have bel4 := hide (bel3.setCell (p := ⟨gS, k, none⟩) (by show w.heap.size ≤ gS; omega) (.int .i64 HE))
        obtain ⟨z, hz⟩ : ∃ z : Int, w5.cell? ⟨gS, k, none⟩ = some (.int .i64 z) := ⟨0, by
          rw [BS3.cell, List.getElem?_map, List.getElem?_append_right (by rw [H.out.1]; exact Nat.le_refl _), H.out.1, Nat.sub_self, List.getElem?_replicate, if_pos (by omega)]
          rfl⟩
        have hzf := BS3.free k
        have hzl := BS3.lt
        have H4 : Hid ((s ++ [HE]).length = k + 1 ∧ runW x (L.take (k + 1)) = (Z, s ++ [HE])) := hide ⟨by rw [List.length_append, H.out.1]; rfl, hsn.out⟩
        clear y0 y1 y2 y3 yl cH2 hset BS3 bel3 BR3 WB3 gr hh3 BSv lSv hsn H hne WB BS BR gl1 hent1 bel BC
        go_wp2_with fail
        go_roundw
        case rel => exact ⟨k + 1, h3, p3, ys3, Z, s ++ [HE], Nat.succ_le_of_lt hlt, by go_num, WB4, BS4, H4, BR4, hne3, bel4.out⟩
        case measure =>
          have := Nat.sub_lt_sub_left hlt (Nat.lt_succ_self k)
          simpa [intOf] using this
      · obtain rfl : k = ln := Nat.le_antisymm hk (Nat.le_of_not_lt hlt)
        have hR : RX = (x2, s) := by
          rw [hRX.out, ← H.out.2, List.take_of_length_le (by rw [hL.out, List.length_map, ← hln.out]; exact Nat.le_refl _)]
        have BS2 := BS.out
        rw [Nat.sub_self, List.replicate_zero, List.append_nil] at BS2
        have hsl : Hid (k = s.length) := hide H.out.1.symm
        subst hR
        obtain ⟨sa', sn', sG', d1, o1, e1, d2, o2, e2, ra', rn', rc'⟩ := p2
        have WB2 := WB.out
        have WBb := WB2.blk
        simp only [Pw.cells] at WBb
        obtain ⟨ZU, hZU⟩ : ∃ U, U = x2.up := ⟨_, rfl⟩
        rw [← hZU] at WBb
        have BRo := BR.out
        have r0 := BRo.cell 0
        have r1 := BRo.cell 1
        have r2 := BRo.cell 2
        have r3 := BRo.cell 3
        have r4 := BRo.cell 4
        have f0 := BRo.free 0
        have f1 := BRo.free 1
        have f2 := BRo.free 2
        have f3 := BRo.free 3
        have f4 := BRo.free 4
        have rl := BRo.lt
        have g0 := WBb.cell 0
        have g1 := WBb.cell 1
        have g2 := WBb.cell 2
        have g3 := WBb.cell 3
        have g4 := WBb.cell 4
        have gl := WBb.lt
        have nn1 : ¬ g = gR := by omega
        have nn2 : ¬ gR = g := by omega
        have lRSh := hide lRS
        have lgSh := hide lgS
        replace WB2 := hide WB2
        replace BS2 := hide BS2
        replace hZU := hide hZU
        replace bel := hide bel
        clear WBb BRo lRS lgS lhS lh nhR hm hm2 WB BS H hne lg lW3
        go_wp2_with fail
        have B9 := put5r BR.out (.slice sa' sn' sG') (.slice d1 o1 e1) (.slice d2 o2 e2) (.bool ZU) (.slice ra' rn' rc')
        have bel9 := below5r bel.out hgR (.slice sa' sn' sG') (.slice d1 o1 e1) (.slice d2 o2 e2) (.bool ZU) (.slice ra' rn' rc')
        have grR := grownSet (grownSet (grownSet (grownSet (grownSet (grownRefl wr (some gR)) 0 (.slice sa' sn' sG')) 1 (.slice d1 o1 e1)) 2 (.slice d2 o2 e2)) 3 (.bool ZU)) 4 (.slice ra' rn' rc')
        have W9 := (WdB.wrote (Q := fun q => q = gS) (W' := ((((wr.setCell ⟨gR, 0, none⟩ (.slice sa' sn' sG')).setCell ⟨gR, 1, none⟩ (.slice d1 o1 e1)).setCell ⟨gR, 2, none⟩ (.slice d2 o2 e2)).setCell ⟨gR, 3, none⟩ (.bool ZU)).setCell ⟨gR, 4, none⟩ (.slice ra' rn' rc')) BR.out grR (by rw [← hZU.out]; exact B9) WB2.out.is WB2.out.so WB2.out.right WB2.out.ra WB2.out.rb WB2.out.ry WB2.out.rm).is
        have S9 := BS2.out.grown grR (fun j e => by obtain rfl := Option.some.inj e; have := lRSh.out; omega)
        have i0 := B9.cell 0
        have i1 := B9.cell 1
        have i2 := B9.cell 2
        have i3 := B9.cell 3
        have i4 := B9.cell 4
        exact bodyPost_ret (v := .tuple #[.agg #[.slice sa' sn' sG', .slice d1 o1 e1, .slice d2 o2 e2, .bool ZU, .slice ra' rn' rc'], .slice (some ⟨gS, 0, none⟩) k k, .int .i64 0]) (by simp [results, Tryz.results42, go_sem, i0, i1, i2, i3, i4]) rfl
          ⟨⟨sa', sn', sG', d1, o1, e1, d2, o2, e2, ra', rn', rc'⟩, _, _, _, by rw [← hZU.out]; rfl, W9, hsl, ⟨S9.row 0 _ (fun j u hu => by rw [Nat.zero_add]; exact hu), by rw [List.length_map, ← hsl.out]; exact Nat.le_refl _, by omega, fun e => by cases e⟩, bel9⟩

end Go.Proofs.YtcjdpilmhlfmfaaGreatDoor

/-
  How an argument that is a happening, by value, or a slice of such is opened: it has the cells of a record.
-/
namespace Go.Proofs.YtcjdpilmhlfmfaaGreatDoor
open Go.RowKit Go.ChangeShapes Go.WideShapes Go.ChangeAt Go.Joins

set_option maxRecDepth 100000 in
theorem cellsHap : Tryz.prog.cellsOf 69 = 4 := by kernel_rfl

set_option maxRecDepth 100000 in
theorem open_lrh {H : Type} {enc : TypeId × Value → H} {W : World} (cs : List Value) (x : DataW H × List MemPlace) (m : Nat) (hl : cs.length = 4) (h : DataW.trod enc Tryz.prog W 0 (fun _ => true) true m 69 cs = some x) (hw : Light 69 x.1) :
    ∃ y : Lrc, cs = y.cells ∧ SlW ec W y.a y.c y.r.e := by
  obtain ⟨c0, c1, c2, c3, rfl⟩ := four_of hl
  obtain ⟨y0, y1, y2, y3, n, rfl, _, h0, h1, h2, h3⟩ := trod_struct4 Tryz.underlying69 h
  simp only [cellsInt, cellsEs, List.drop_zero, List.drop_succ_cons, List.take_succ_cons, List.take_zero] at h0 h1 h2 h3
  obtain ⟨a0, e0, rfl, w0⟩ := DataW.trod_int Tryz.underlying3 h0
  obtain ⟨a1, e1, rfl, w1⟩ := DataW.trod_int Tryz.underlying3 h1
  obtain ⟨a2, e2, rfl, w2⟩ := DataW.trod_int Tryz.underlying3 h2
  obtain ⟨ao, k, cap, e3⟩ := slice_form Tryz.underlying64 h3
  simp at e0 e1 e2 e3
  subst e0 e1 e2 e3
  have hw3 : Light 64 y3.1 := by
    intro n hn
    refine hw n ?_
    simp [DataW.weights, DataW.weightsEach, Tryz.underlying69, hn]
  obtain ⟨l, hl, s, _, _⟩ := open_wide (ao := ao) (n := k) (cap := cap) ec (fun _ => True) Tryz.underlying64 (by kernel_rfl) (by decide) ec_three (fun cs x m => open_nt cs x m) (by simpa [Value.cells] using h3) hw3
  subst hl
  exact ⟨⟨⟨a0, a1, a2, l⟩, ao, cap⟩, rfl, s⟩

set_option maxRecDepth 100000 in
theorem open_haps {H : Type} {enc : TypeId × Value → H} {W : World} {ao : Option Addr} {n cap : Nat} {d : DataW H} {ps : List MemPlace}
    (h : DataW.Trod enc Tryz.prog W 0 (fun _ => true) true 52 (.slice ao n cap) d ps) (hw : Light 52 d) :
    ∃ l : List Lrc, l.length = n ∧ SlRec W ao cap l ∧ cap * 48 ≤ 140737488351232 := by
  obtain ⟨fuel, hf⟩ := h
  obtain ⟨l, hl, s, g, r⟩ := open_wide (ao := ao) (n := n) (cap := cap) Lrc.cells (fun y => SlW ec W y.a y.c y.r.e) Tryz.underlying52 cellsHap (by decide) Lrc.four (fun cs x m => open_lrh cs x m) (by simpa [Value.cells] using hf) hw
  rw [show Tryz.prog.bytesOf 69 = 48 by kernel_rfl] at r
  exact ⟨l, hl, ⟨s, g⟩, r⟩

end Go.Proofs.YtcjdpilmhlfmfaaGreatDoor
