/-
  QueryParts, under way: the way where it is right.
-/
import Derived.Test.YtnpikbpngohimaaRows
import Derived.Deep.RegionHeld3
import Derived.Test.YtnpikbpngohimaaHAsked
import Derived.Test.YtnpikbpngohimaaP35
import Derived.Test.YtnpikbpngohimaaP31
import Derived.Test.YtnpikbpngohimaaP36
import Derived.Test.YtnpikbpngohimaaP06
namespace Go.Proofs.Ytnpikbpngohimaa.queryParts
open Go.ChangeShapes Go.WideShapes Go.ChangeAt Go.RowKit
set_option linter.unusedVariables false


theorem bus_own {w : World} {base n : Nat} {a : Option Addr} {G : Nat} {l : List Bu} (o : w.ownsRow base 63 5 (.slice a n G) n (l.flatMap bc)) : SlW bc w a G l := by
  obtain ⟨a3, G3, e3, s3, _, _⟩ := SlW.ofOwn bc_five (by decide) o
  simp only [Value.slice.injEq, true_and] at e3
  obtain ⟨rfl, rfl⟩ := e3
  exact s3

theorem equalPt_same (a1 a2 : Option Addr) (c1 c2 n m : Nat) (l : List Pt) (w : World) (r1 : SlP w a1 c1 l) (r2 : SlP w a2 c2 l) (hn : n = l.length) (hm : m = l.length) (hl : l.length ≤ 4611686018427387904) :
    Calls Try.prog 27 #[.slice a1 n c1, .slice a2 m c2] w fun e w' => e = .returned (.bool true) ∧ Below w.heap.size w w' := by
  subst hn
  subst hm
  refine (equalPt a1 a2 c1 c2 l l w r1 r2 hl hl).mono ?_
  rintro e w' ⟨rfl, q, rfl⟩
  exact ⟨by simp, belowDrewN (Below.refl _ _) q⟩

theorem cut_two {f t w : Int} (h1 : 0 ≤ f) (h2 : f ≤ t) (h3 : t ≤ 100001) (h4 : 1 ≤ w) (h5 : w ≤ 100001) : cutE f t w = 0 ∨ cutE f t w = 2 := by
  unfold cutE
  rw [if_pos ⟨h1, h2, h3, h4, h5⟩]
  split
  · exact .inr rfl
  · exact .inl rfl

set_option maxHeartbeats 4000000 in
set_option maxRecDepth 100000 in
theorem walkG (w : World) (a0 : Option Addr) (cap0 cn : Nat) (C : List Rw) (hcn : Hid (cn = C.length)) (S0 : IsS w a0 cap0 C) (s f m t wd : Int) (k : Nat) (ek : s % 4 = k) (hE : allE C k = 0) :
    Calls Try.prog 7 #[.agg #[.slice a0 cn cap0], .int .i64 s, .int .i64 f, .int .i64 m, .int .i64 t, .int .i64 wd] w fun e w' => e = .returned (.bool true) ∧ Below w.heap.size w w' := by
  have hR := allL_rises C k
  have h40 := allL_len C k
  have c1 : ∀ f t W, IsS W a0 cap0 C → Calls Try.prog 29 #[.agg #[.slice a0 cn cap0], .int .i64 k, .int .i64 f, .int .i64 t] W fun e w' => ∃ n a' G', e = .returned (.tuple #[.slice a' n G', .int .i64 0]) ∧ Hid (n = (rngL (allL C k) f t).length) ∧ SlP w' a' G' (rngL (allL C k) f t) ∧ Below W.heap.size W w' := by
    intro f t W h
    refine (range_is (k : Int) f t h hcn.out).mono ?_
    rintro e w' ⟨a', G', rfl, o', b'⟩
    exact ⟨_, a', G', by rw [hE], hide rfl, pts_own o', b'⟩
  have cB : ∀ f t wd W, IsS W a0 cap0 C → Calls Try.prog 30 #[.agg #[.slice a0 cn cap0], .int .i64 k, .int .i64 f, .int .i64 t, .int .i64 wd] W fun e w' => ∃ n a' G', e = .returned (.tuple #[.slice a' n G', .int .i64 (cutE f t wd)]) ∧ (cutE f t wd = 0 → Hid (n = (runs (startOf f wd) (rngL (allL C k) f t)).length) ∧ SlW bc w' a' G' (runs (startOf f wd) (rngL (allL C k) f t))) ∧ Below W.heap.size W w' := by
    intro f t wd W h
    refine (buckets_is (k : Int) f t wd h hcn.out).mono ?_
    rintro e w' ⟨a', G', rfl, o', b'⟩
    have eE : bucE C k f t wd = cutE f t wd := by unfold bucE; rw [if_pos hE]
    rw [eE]
    refine ⟨_, a', G', rfl, fun hc => ?_, b'⟩
    have eL : bucL C k f t wd = runs (startOf f wd) (rngL (allL C k) f t) := by unfold bucL; rw [eE, if_pos hc]
    rw [eL] at o' ⊢
    exact ⟨hide rfl, bus_own o'⟩
  clear hE
  generalize allL C k = A at *
  have hR' := hide hR
  have h40' := hide h40
  clear hR h40
  have k1 := fun W => at_any s 4 W (by decide) (by decide)
  rw [ek] at k1
  have k2 := fun W => at_any wd 100001 W (by decide) (by decide)
  have k3 := fun W => at_any f 100002 W (by decide) (by decide)
  have k4 := fun W => at_any m 100002 W (by decide) (by decide)
  have k5 := fun W => at_any t 100002 W (by decide) (by decide)
  have v2 : 0 ≤ wd % 100001 ∧ wd % 100001 < 100001 := by omega
  have v3 : 0 ≤ f % 100002 ∧ f % 100002 < 100002 := by omega
  have v4 : 0 ≤ m % 100002 ∧ m % 100002 < 100002 := by omega
  have v5 : 0 ≤ t % 100002 ∧ t % 100002 < 100002 := by omega
  generalize wd % 100001 = w1d at *
  generalize f % 100002 = f1 at *
  generalize m % 100002 = m1 at *
  generalize t % 100002 = t1 at *
  obtain ⟨wi, hwi⟩ : ∃ wi, wi = 1 + w1d := ⟨_, rfl⟩
  have u2 : IntKind.i64.wrap (1 + w1d) = wi := by rw [IntKind.wrap_i64]; omega
  have hw1 : 1 ≤ wi := by omega
  have hw2 : wi ≤ 100001 := by omega
  clear v2
  replace hwi := hide hwi
  obtain ⟨ww, hww⟩ : ∃ ww, ww = 2 * wi := ⟨_, rfl⟩
  have u3 : IntKind.i64.wrap (2 * wi) = ww := by rw [IntKind.wrap_i64]; omega
  have hww1 : ww ≤ 200002 := by omega
  have hww2 : 2 ≤ ww := by omega
  replace hww := hide hww

  have B0 := Blk.laid w [.slice a0 cn cap0] 24 _ rfl
  have bel : Below w.heap.size w (w.alloc (.cells #[.slice a0 cn cap0] 24)) := (Below.refl _ _).alloc (Nat.le_refl _) _
  have S1 := S0.alloc (.cells #[.slice a0 cn cap0] 24)
  go_enter Try.func7, Try.ntmps7
  go_wp2_with fail
  generalize w.alloc _ = w1 at *
  go_at_call 28
  refine (k1 _).mono ?_
  rintro e wx ⟨rfl, rfl⟩
  go_wp2_with fail
  go_at_call 28
  refine (k2 _).mono ?_
  rintro e wx ⟨rfl, rfl⟩
  go_wp2_with fail
  go_at_call 28
  refine (k3 _).mono ?_
  rintro e wx ⟨rfl, rfl⟩
  go_wp2_with fail
  go_at_call 28
  refine (k4 _).mono ?_
  rintro e wx ⟨rfl, rfl⟩
  go_wp2_with fail
  go_at_call 28
  refine (k5 _).mono ?_
  rintro e wx ⟨rfl, rfl⟩
  have BL := Blk.laid w1 [.int .i64 f1, .int .i64 m1, .int .i64 t1] 3 _ rfl
  have bn := belowNew bel (.cells #[.int .i64 f1, .int .i64 m1, .int .i64 t1] 3)
  have l1 : w.heap.size ≤ w1.heap.size := bel.size
  replace S1 := S1.alloc (.cells #[.int .i64 f1, .int .i64 m1, .int .i64 t1] 3)
  have ne0 : w.heap.size ≠ w1.heap.size := Nat.ne_of_lt B0.lt
  replace B0 := B0.alc (.cells #[.int .i64 f1, .int .i64 m1, .int .i64 t1] 3)
  go_wp2_with fail
  generalize w1.heap.size = g1 at *
  generalize w1.alloc _ = w2 at *
  go_at_call 36
  refine (sort_any _ _ _ _ _ BL).mono ?_
  rintro e w3 ⟨x, y, z, rfl, BS, hxy, hyz, hx, hy, hz, gS⟩
  have q0 : w3.cell? ⟨g1, 0, none⟩ = some (.int .i64 x) := BS.cell 0
  have q1 : w3.cell? ⟨g1, 1, none⟩ = some (.int .i64 y) := BS.cell 1
  have q2 : w3.cell? ⟨g1, 2, none⟩ = some (.int .i64 z) := BS.cell 2
  replace B0 : Blk w3 w.heap.size [.slice a0 cn cap0] 24 := B0.grown gS (fun k hk => by cases hk; exact Ne.symm ne0)
  replace bel : Below w.heap.size w w3 := bn.grown gS bn.size (fun k hk => by cases hk; exact l1)
  clear S1 gS bn BL
  have x0 : 0 ≤ x := by omega
  have z1 : z ≤ 100001 := by omega
  clear hx hy hz
  go_wp2_with fail
  go_region_held3 (fun w' => w'.cell? ⟨g1, 0, none⟩ = some (.int .i64 x) ∧ w'.cell? ⟨g1, 1, none⟩ = some (.int .i64 y) ∧ w'.cell? ⟨g1, 2, none⟩ = some (.int .i64 z)) (go_keep) (fail)
  replace B0 := B0.drewS
  replace bel := belowDrew bel
  clear q0 q1 q2 BS
  generalize w3.drew = w4 at *
  have S1 := S0.keep bel (Nat.le_refl _)
  have d0 : w4.cell? ⟨w.heap.size, 0, none⟩ = some (.slice a0 cn cap0) := B0.cell 0
  have l0 := B0.lt
  go_wp2_with fail
  go_at_call 29
  refine (c1 _ _ _ S1).mono ?_
  rintro e w5 ⟨n5, a5, G5, rfl, hn5, P5, b5⟩
  replace B0 := B0.keep b5 B0.lt
  replace bel := belowCall bel b5
  replace S1 := S1.call b5
  clear b5 d0 l0
  have d0 : w5.cell? ⟨w.heap.size, 0, none⟩ = some (.slice a0 cn cap0) := B0.cell 0
  have l0 := B0.lt
  go_wp2_with fail
  go_at_call 29
  refine (c1 _ _ _ S1).mono ?_
  rintro e w6 ⟨n6, a6, G6, rfl, hn6, P6, b6⟩
  replace B0 := B0.keep b6 B0.lt
  replace bel := belowCall bel b6
  replace S1 := S1.call b6
  replace P5 := P5.call b6
  clear b6 d0 l0
  have d0 : w6.cell? ⟨w.heap.size, 0, none⟩ = some (.slice a0 cn cap0) := B0.cell 0
  have l0 := B0.lt
  go_wp2_with fail
  go_at_call 29
  refine (c1 _ _ _ S1).mono ?_
  rintro e w7 ⟨n7, a7, G7, rfl, hn7, P7, b7⟩
  replace B0 := B0.keep b7 B0.lt
  replace bel := belowCall bel b7
  replace S1 := S1.call b7
  replace P5 := P5.call b7
  replace P6 := P6.call b7
  clear b7 d0 l0
  go_wp2_with fail
  go_at_call 32
  refine (asked_any _).mono ?_
  rintro e w8 ⟨rfl, b8⟩
  replace B0 := B0.keep b8 B0.lt
  replace bel := belowCall bel b8
  replace S1 := S1.call b8
  replace P5 := P5.call b8
  replace P6 := P6.call b8
  replace P7 := P7.call b8
  clear b8

  have cE := fun ao G W (h1 : SlP W ao G (rngL A x y ++ rngL A y z)) (h2 : SlP W a7 G7 (rngL A x z)) => equalPt_same ao a7 G G7 (n5 + n6) n7 (rngL A x z) W (by rw [← rng_two x y z hxy hyz A hR'.out]; exact h1) h2 (by rw [← rng_two x y z hxy hyz A hR'.out, List.length_append, hn5.out, hn6.out]) hn7.out (by have := rng_len A x z; have := h40'.out; omega)
  have few56 : n5 + n6 ≤ 80 := by have := rng_len A x y; have := rng_len A y z; have := h40'.out; rw [hn5.out, hn6.out]; omega
  have BC := Blk.laid w8 [.slice a5 n5 G5, .slice a6 n6 G6] 26 _ rfl
  go_wp2_with fail
  go_at_call 37
  refine (concatPt _ a5 a6 G5 G6 n5 n6 (rngL A x y) (rngL A y z) _ hn5.out hn6.out (BC.cell 0) (BC.cell 1) (P5.alloc _) (P6.alloc _) (by omega) BC.lt).mono ?_
  rintro e w9 ⟨a9, G9, rfl, s9, b9⟩
  have b9' := belowCall (belowNew (Below.refl w8.heap.size w8) (.cells #[.slice a5 n5 G5, .slice a6 n6 G6] 26)) b9
  replace B0 := B0.keep b9' B0.lt
  replace bel := belowCall bel b9'
  replace S1 := S1.call b9'
  replace P7 := P7.call b9'
  clear BC b9 b9' P5 P6
  go_wp2_with fail
  go_at_call 27
  refine (cE _ _ _ s9 P7).mono ?_
  rintro e w10 ⟨rfl, b10⟩
  replace B0 := B0.keep b10 B0.lt
  replace bel := belowCall bel b10
  replace S1 := S1.call b10
  replace P7 := P7.call b10
  clear b10 cE s9 hn5 hn6
  have d0 : w10.cell? ⟨w.heap.size, 0, none⟩ = some (.slice a0 cn cap0) := B0.cell 0
  have l0 := B0.lt
  have cB1 := fun W h => cB x z wi W h
  have cB2 := fun W h => cB x z ww W h
  clear cB c1 k1 k2 k3 k4 k5 v3 v4 v5 u2 hwi ek few56 l1 ne0
  have hxz : x ≤ z := by omega
  rcases cut_two x0 hxz z1 hw1 hw2 with hc | hc
  rotate_left
  · simp only [hc] at cB1
    go_wp2_with fail
    go_at_call 30
    refine (cB1 _ S1).mono ?_
    rintro e w11 ⟨n11, a11, G11, rfl, -, b11⟩
    replace bel := belowCall bel b11
    go_wp2_with fail
    go_ret
    exact ⟨rfl, bel⟩
  have hcw : ww ≤ 100001 → cutE x z ww = 0 := fun h => by rw [hww.out] at h ⊢; exact cut_twice hc h
  simp only [hc] at cB1
  replace hc := hide hc
  go_wp2_with fail
  go_at_call 30
  refine (cB1 _ S1).mono ?_
  rintro e w11 ⟨nN, aN, GN, rfl, hN, b11⟩
  obtain ⟨hnN, SN⟩ := hN trivial
  replace B0 := B0.keep b11 B0.lt
  replace bel := belowCall bel b11
  replace S1 := S1.call b11
  replace P7 := P7.call b11
  clear b11 cB1 d0 l0 hN
  obtain ⟨hb1, hb2⟩ := buckets_rise hR'.out x z wi hw1 h40'.out
  have hb3 := hide (buckets_sum A x z wi h40'.out)
  have hb4 := hide (buckets_wide A x z wi hw1 h40'.out)
  rw [← hww.out] at hb4
  obtain ⟨R, hRR⟩ : ∃ R, R = runs (startOf x wi) (rngL A x z) := ⟨_, rfl⟩
  rw [← hRR] at hb1 hb2 hb3 hb4 SN hnN
  have few : nN ≤ 40 := by
    have h1 := runs_len (startOf x wi) _ (rngL A x z) (Nat.le_refl _)
    have h2 := rng_len A x z
    have h3 := h40'.out
    rw [hnN.out, hRR]
    omega
  clear hRR
  replace hb1 := hide hb1
  replace hb2 := hide hb2
  have BW := Blk.laid w11 [.int .i64 0, .int .i64 0, .int .i64 0, .int .i64 0] 61 _ rfl
  have belW := belowNew (Below.refl w11.heap.size w11) (.cells #[.int .i64 0, .int .i64 0, .int .i64 0, .int .i64 0] 61)
  go_wp2_with fail
  generalize w11.alloc _ = w12 at *
  go_loopw [117] (fun i wr => ∃ (q : Nat) (X : Sm), q ≤ nN ∧ i = .int .i64 q ∧ Hid (X = (R.take q).foldl (fun a x => joinS a x.m) sm0) ∧ Blk wr w11.heap.size [.int .i64 X.n, .int .i64 X.lo, .int .i64 X.hi, .int .i64 X.tot] 61 ∧ Below w11.heap.size w11 wr) (fun i _ => nN - (intOf i).toNat)
  case atStart => exact ⟨0, sm0, Nat.zero_le _, rfl, hide rfl, BW, belW⟩
  case round =>
    clear BW belW
    obtain ⟨q, X, hq, rfl, hX, BW, belW⟩ := hrel
    by_cases hlt : q < nN
    · have hkl : q < R.length := by rw [← hnN.out]; exact hlt
      obtain ⟨b1, o1, rfl, hb1l⟩ := SN.where bc_five (by decide) (by intro h; subst h; simp at hkl)
      obtain ⟨xb, hxb⟩ : ∃ xb, R[q]? = some xb := ⟨_, List.getElem?_eq_getElem hkl⟩
      obtain ⟨y1, y2, y3, y4⟩ := hb1.out q xb hxb
      have s1 := SN.keep belW (Nat.le_refl _)
      have d0 := s1.cell bc_five q 0 xb _ hxb rfl
      have d1 := s1.cell bc_five q 1 xb _ hxb rfl
      have d2 := s1.cell bc_five q 2 xb _ hxb rfl
      have d3 := s1.cell bc_five q 3 xb _ hxb rfl
      have d4 := s1.cell bc_five q 4 xb _ hxb rfl
      simp only [Nat.add_zero] at d0
      have hX2 : Hid (joinS X xb.m = (R.take (q + 1)).foldl (fun a x => joinS a x.m) sm0) := by
        rw [hX.out, List.take_add_one, hxb]
        simp [Hid]
      have pre : q = 0 ∨ ∃ (q' : Nat) (yb : Bu), q = q' + 1 ∧ R[q']? = some yb ∧ yb.s < xb.s := by
        cases q with
        | zero => exact .inl rfl
        | succ q' =>
          obtain ⟨yb, hyb⟩ : ∃ yb, R[q']? = some yb := ⟨_, List.getElem?_eq_getElem (by omega)⟩
          exact .inr ⟨q', yb, rfl, hyb, hb2.out q' yb xb hyb hxb⟩
      have lW : w11.heap.size < wr.heap.size := BW.lt
      have p0 : wr.cell? ⟨w11.heap.size, 0, none⟩ = some (.int .i64 X.n) := BW.cell 0
      have p1 : wr.cell? ⟨w11.heap.size, 1, none⟩ = some (.int .i64 X.lo) := BW.cell 1
      have p2 : wr.cell? ⟨w11.heap.size, 2, none⟩ = some (.int .i64 X.hi) := BW.cell 2
      have p3 : wr.cell? ⟨w11.heap.size, 3, none⟩ = some (.int .i64 X.tot) := BW.cell 3
      have b1r : b1 < wr.heap.size := Nat.lt_of_lt_of_le hb1l belW.size
      have cJ := fun W => join_raw X.n X.lo X.hi X.tot xb.m.n xb.m.lo xb.m.hi xb.m.tot W
      rw [show (⟨X.n, X.lo, X.hi, X.tot⟩ : Sm) = X from rfl, show (⟨xb.m.n, xb.m.lo, xb.m.hi, xb.m.tot⟩ : Sm) = xb.m from rfl] at cJ
      unfold smV at cJ
      generalize joinS X xb.m = J at *
      have tm : (xb.s - x).tmod wi = 0 := by rw [Int.tmod_eq_emod_of_nonneg (by omega)]; exact y4
      obtain ⟨xs, xn, xlo, xhi, xtot⟩ := xb
      simp only at *
      replace hxb := hide hxb
      have hkl' := hide hkl
      clear hkl y4
      have hwi0 : ¬ wi = 0 := by omega
      have y1d : decide (xn < 1) = false := decide_eq_false (by omega)
      have u5 : IntKind.i64.wrap (xs - x) = xs - x := by rw [IntKind.wrap_i64]; omega
      rcases pre with rfl | ⟨q', yb, hqq, hyb, hys⟩
      · clear hb2
        simp only [Nat.zero_mul, Nat.add_zero] at d0 d1 d2 d3 d4
        go_wp2_with fail
        have BX := Blk.laid wr [.int .i64 xs, .int .i64 xn, .int .i64 xlo, .int .i64 xhi, .int .i64 xtot] 63 _ rfl
        have bX := belowNew (Below.refl wr.heap.size wr) (.cells #[.int .i64 xs, .int .i64 xn, .int .i64 xlo, .int .i64 xhi, .int .i64 xtot] 63)
        have lX := BX.lt
        generalize wr.alloc _ = w13 at *
        obtain ⟨gX, hgX⟩ : ∃ gX, gX = wr.heap.size := ⟨_, rfl⟩
        rw [← hgX] at BX lX ⊢
        replace hgX := hide hgX
        have z0 : w13.cell? ⟨gX, 0, none⟩ = some (.int .i64 xs) := BX.cell 0
        have z5 : w13.cell? ⟨gX, 1, none⟩ = some (.int .i64 xn) := BX.cell 1
        refine wp_region_held_drew (S := (fun w' => w'.cell? ⟨gX, 0, none⟩ = some (.int .i64 xs) ∧ w'.cell? ⟨gX, 1, none⟩ = some (.int .i64 xn))) (by kernel_rfl) ⟨by simp [z0], by simp [z5]⟩ (fun hHeld => ?_)
        refine wpAnyH_take (i := 0) (v := ?_) rfl (by kernel_rfl) (by kernel_rfl) (by kernel_rfl) (fun _ _ _ h => h) (Or.inl ⟨by rfl, ?_⟩) (by assumption) ?_
        rotate_left
        · intro w hSw; (try dsimp only at hSw); go_simp; all_goals with_reducible rfl
        simp only [Act.put, List.setIfInBounds_toArray, List.set_cons_zero, List.set_cons_succ, List.getElem_toArray, List.getElem_cons_zero]
        refine wpAnyH_take (i := 1) (v := ?_) rfl (by kernel_rfl) (by kernel_rfl) (by kernel_rfl) (fun _ _ _ h => h) (Or.inl ⟨by rfl, ?_⟩) (by assumption) ?_
        rotate_left
        · intro w hSw; (try dsimp only at hSw); go_simp; all_goals with_reducible rfl
        simp only [Act.put, List.setIfInBounds_toArray, List.set_cons_zero, List.set_cons_succ, List.getElem_toArray, List.getElem_cons_zero, List.getElem_cons_succ]
        refine wpAnyH_take (i := 2) (v := ?_) rfl (by kernel_rfl) (by kernel_rfl) (by kernel_rfl) (fun _ _ _ h => h) (Or.inl ⟨by rfl, ?_⟩) (by assumption) ?_
        rotate_left
        · intro w hSw; (try dsimp only at hSw); go_simp; all_goals with_reducible rfl
        simp only [Act.put, List.setIfInBounds_toArray, List.set_cons_zero, List.set_cons_succ, List.getElem_toArray, List.getElem_cons_zero, List.getElem_cons_succ]
        refine wpAnyH_take (i := 3) (v := ?_) rfl (by kernel_rfl) (by kernel_rfl) (by kernel_rfl) (fun _ _ _ h => h) (Or.inl ⟨by rfl, ?_⟩) (by assumption) ?_
        rotate_left
        · intro w hSw; (try dsimp only at hSw); go_simp; all_goals with_reducible rfl
        simp only [Act.put, List.setIfInBounds_toArray, List.set_cons_zero, List.set_cons_succ, List.getElem_toArray, List.getElem_cons_zero, List.getElem_cons_succ]
        refine wpAnyH_take (i := 4) (v := ?_) rfl (by kernel_rfl) (by kernel_rfl) (by kernel_rfl) (fun _ _ _ h => h) (Or.inl ⟨by rfl, ?_⟩) (by assumption) ?_
        rotate_left
        · intro w hSw; (try dsimp only at hSw); go_simp; all_goals with_reducible rfl
        simp only [Act.put, List.setIfInBounds_toArray, List.set_cons_zero, List.set_cons_succ, List.getElem_toArray, List.getElem_cons_zero, List.getElem_cons_succ]
        refine wpAnyH_take (i := 5) (v := ?_) rfl (by kernel_rfl) (by kernel_rfl) (by kernel_rfl) (fun _ _ _ h => h) (Or.inl ⟨by rfl, ?_⟩) (by assumption) ?_
        rotate_left
        · intro w hSw; (try dsimp only at hSw); go_simp; all_goals with_reducible rfl
        simp only [Act.put, List.setIfInBounds_toArray, List.set_cons_zero, List.set_cons_succ, List.getElem_toArray, List.getElem_cons_zero, List.getElem_cons_succ]
        refine wpAnyH_take (i := 6) (v := ?_) rfl (by kernel_rfl) (by kernel_rfl) (by kernel_rfl) (fun _ _ _ h => h) (Or.inl ⟨by rfl, ?_⟩) (by assumption) ?_
        rotate_left
        · intro w hSw; (try dsimp only at hSw); go_simp; all_goals with_reducible rfl
        simp only [Act.put, List.setIfInBounds_toArray, List.set_cons_zero, List.set_cons_succ, List.getElem_toArray, List.getElem_cons_zero, List.getElem_cons_succ]
        refine wpAnyH_take (i := 7) (v := ?_) rfl (by kernel_rfl) (by kernel_rfl) (by kernel_rfl) (fun _ _ _ h => h) (Or.inl ⟨by rfl, ?_⟩) (by assumption) ?_
        rotate_left
        · intro w hSw; (try dsimp only at hSw); go_simp; all_goals with_reducible rfl
        simp only [Act.put, List.setIfInBounds_toArray, List.set_cons_zero, List.set_cons_succ, List.getElem_toArray, List.getElem_cons_zero, List.getElem_cons_succ]
        refine wpAnyH_take (i := 8) (v := undef) rfl (by kernel_rfl) (by kernel_rfl) (by kernel_rfl) (fun _ _ _ h => h) (Or.inr ⟨by rfl, rfl⟩) (by assumption) ?_
        simp only [Act.put, List.setIfInBounds_toArray, List.set_cons_zero, List.set_cons_succ, List.getElem_toArray, List.getElem_cons_zero, List.getElem_cons_succ]
        refine wpAnyH_take (i := 9) (v := undef) rfl (by kernel_rfl) (by kernel_rfl) (by kernel_rfl) (fun _ _ _ h => h) (Or.inr ⟨by rfl, rfl⟩) (by assumption) ?_
        simp only [Act.put, List.setIfInBounds_toArray, List.set_cons_zero, List.set_cons_succ, List.getElem_toArray, List.getElem_cons_zero, List.getElem_cons_succ]
        refine wpAnyH_take (i := 10) (v := undef) rfl (by kernel_rfl) (by kernel_rfl) (by kernel_rfl) (fun _ _ _ h => h) (Or.inr ⟨by rfl, rfl⟩) (by assumption) ?_
        simp only [Act.put, List.setIfInBounds_toArray, List.set_cons_zero, List.set_cons_succ, List.getElem_toArray, List.getElem_cons_zero, List.getElem_cons_succ]
        refine wpAnyH_take (i := 11) (v := undef) rfl (by kernel_rfl) (by kernel_rfl) (by kernel_rfl) (fun _ _ _ h => h) (Or.inr ⟨by rfl, rfl⟩) (by assumption) ?_
        simp only [Act.put, List.setIfInBounds_toArray, List.set_cons_zero, List.set_cons_succ, List.getElem_toArray, List.getElem_cons_zero, List.getElem_cons_succ]
        refine wpAnyH_take (i := 12) (v := undef) rfl (by kernel_rfl) (by kernel_rfl) (by kernel_rfl) (fun _ _ _ h => h) (Or.inr ⟨by rfl, rfl⟩) (by assumption) ?_
        simp only [Act.put, List.setIfInBounds_toArray, List.set_cons_zero, List.set_cons_succ, List.getElem_toArray, List.getElem_cons_zero, List.getElem_cons_succ]
        refine wpAnyH_take (i := 13) (v := undef) rfl (by kernel_rfl) (by kernel_rfl) (by kernel_rfl) (fun _ _ _ h => h) (Or.inr ⟨by rfl, rfl⟩) (by assumption) ?_
        simp only [Act.put, List.setIfInBounds_toArray, List.set_cons_zero, List.set_cons_succ, List.getElem_toArray, List.getElem_cons_zero, List.getElem_cons_succ]
        refine wpAnyH_take (i := 14) (v := undef) rfl (by kernel_rfl) (by kernel_rfl) (by kernel_rfl) (fun _ _ _ h => h) (Or.inr ⟨by rfl, rfl⟩) (by assumption) ?_
        simp only [Act.put, List.setIfInBounds_toArray, List.set_cons_zero, List.set_cons_succ, List.getElem_toArray, List.getElem_cons_zero, List.getElem_cons_succ]
        refine wpAnyH_take (i := 15) (v := undef) rfl (by kernel_rfl) (by kernel_rfl) (by kernel_rfl) (fun _ _ _ h => h) (Or.inr ⟨by rfl, rfl⟩) (by assumption) ?_
        simp only [Act.put, List.setIfInBounds_toArray, List.set_cons_zero, List.set_cons_succ, List.getElem_toArray, List.getElem_cons_zero, List.getElem_cons_succ]
        refine wpAnyH_take (i := 16) (v := undef) rfl (by kernel_rfl) (by kernel_rfl) (by kernel_rfl) (fun _ _ _ h => h) (Or.inr ⟨by rfl, rfl⟩) (by assumption) ?_
        simp only [Act.put, List.setIfInBounds_toArray, List.set_cons_zero, List.set_cons_succ, List.getElem_toArray, List.getElem_cons_zero, List.getElem_cons_succ]
        refine wpAnyH_take (i := 17) (v := ?_) rfl (by kernel_rfl) (by kernel_rfl) (by kernel_rfl) (fun _ _ _ h => h) (Or.inl ⟨by rfl, ?_⟩) (by assumption) ?_
        rotate_left
        · intro w hSw; (try dsimp only at hSw); go_simp; all_goals with_reducible rfl
        simp only [Act.put, List.setIfInBounds_toArray, List.set_cons_zero, List.set_cons_succ, List.getElem_toArray, List.getElem_cons_zero, List.getElem_cons_succ]
        refine wpAnyH_take (i := 18) (v := ?_) rfl (by kernel_rfl) (by kernel_rfl) (by kernel_rfl) (fun _ _ _ h => h) (Or.inl ⟨by rfl, ?_⟩) (by assumption) ?_
        rotate_left
        · intro w hSw; (try dsimp only at hSw); go_simp; all_goals with_reducible rfl
        simp only [Act.put, List.setIfInBounds_toArray, List.set_cons_zero, List.set_cons_succ, List.getElem_toArray, List.getElem_cons_zero, List.getElem_cons_succ]
        refine wpAnyH_take (i := 19) (v := ?_) rfl (by kernel_rfl) (by kernel_rfl) (by kernel_rfl) (fun _ _ _ h => h) (Or.inl ⟨by rfl, ?_⟩) (by assumption) ?_
        rotate_left
        · intro w hSw; (try dsimp only at hSw); go_simp; all_goals with_reducible rfl
        simp only [Act.put, List.setIfInBounds_toArray, List.set_cons_zero, List.set_cons_succ, List.getElem_toArray, List.getElem_cons_zero, List.getElem_cons_succ]
        refine wpAnyH_take (i := 20) (v := ?_) rfl (by kernel_rfl) (by kernel_rfl) (by kernel_rfl) (fun _ _ _ h => h) (Or.inl ⟨by rfl, ?_⟩) (by assumption) ?_
        rotate_left
        · intro w hSw; (try dsimp only at hSw); go_simp; all_goals with_reducible rfl
        simp only [Act.put, List.setIfInBounds_toArray, List.set_cons_zero, List.set_cons_succ, List.getElem_toArray, List.getElem_cons_zero, List.getElem_cons_succ]
        refine wpAnyH_take (i := 21) (v := ?_) rfl (by kernel_rfl) (by kernel_rfl) (by kernel_rfl) (fun _ _ _ h => h) (Or.inl ⟨by rfl, ?_⟩) (by assumption) ?_
        rotate_left
        · intro w hSw; (try dsimp only at hSw); go_simp; all_goals with_reducible rfl
        simp only [Act.put, List.setIfInBounds_toArray, List.set_cons_zero, List.set_cons_succ, List.getElem_toArray, List.getElem_cons_zero, List.getElem_cons_succ]
        refine wpAnyH_take (i := 22) (v := ?_) rfl (by kernel_rfl) (by kernel_rfl) (by kernel_rfl) (fun _ _ _ h => h) (Or.inl ⟨by rfl, ?_⟩) (by assumption) ?_
        rotate_left
        · intro w hSw; (try dsimp only at hSw); go_simp; all_goals with_reducible rfl
        simp only [Act.put, List.setIfInBounds_toArray, List.set_cons_zero, List.set_cons_succ, List.getElem_toArray, List.getElem_cons_zero, List.getElem_cons_succ]
        refine wpAnyH_take (i := 23) (v := ?_) rfl (by kernel_rfl) (by kernel_rfl) (by kernel_rfl) (fun _ _ _ h => h) (Or.inl ⟨by rfl, ?_⟩) (by assumption) ?_
        rotate_left
        · intro w hSw; (try dsimp only at hSw); go_simp; all_goals with_reducible rfl
        simp only [Act.put, List.setIfInBounds_toArray, List.set_cons_zero, List.set_cons_succ, List.getElem_toArray, List.getElem_cons_zero, List.getElem_cons_succ]
        refine wpAnyH_take (i := 24) (v := ?_) rfl (by kernel_rfl) (by kernel_rfl) (by kernel_rfl) (fun _ _ _ h => h) (Or.inl ⟨by rfl, ?_⟩) (by assumption) ?_
        rotate_left
        · intro w hSw; (try dsimp only at hSw); go_simp; all_goals with_reducible rfl
        simp only [Act.put, List.setIfInBounds_toArray, List.set_cons_zero, List.set_cons_succ, List.getElem_toArray, List.getElem_cons_zero, List.getElem_cons_succ]
        refine wpAnyH_take (i := 25) (v := ?_) rfl (by kernel_rfl) (by kernel_rfl) (by kernel_rfl) (fun _ _ _ h => h) (Or.inl ⟨by rfl, ?_⟩) (by assumption) ?_
        rotate_left
        · intro w hSw; (try dsimp only at hSw); go_simp; all_goals with_reducible rfl
        simp only [Act.put, List.setIfInBounds_toArray, List.set_cons_zero, List.set_cons_succ, List.getElem_toArray, List.getElem_cons_zero, List.getElem_cons_succ]
        refine wpAnyH_take (i := 26) (v := ?_) rfl (by kernel_rfl) (by kernel_rfl) (by kernel_rfl) (fun _ _ _ h => h) (Or.inl ⟨by rfl, ?_⟩) (by assumption) ?_
        rotate_left
        · intro w hSw; (try dsimp only at hSw); go_simp; all_goals with_reducible rfl
        simp only [Act.put, List.setIfInBounds_toArray, List.set_cons_zero, List.set_cons_succ, List.getElem_toArray, List.getElem_cons_zero, List.getElem_cons_succ]
        refine wpAnyH_take (i := 27) (v := ?_) rfl (by kernel_rfl) (by kernel_rfl) (by kernel_rfl) (fun _ _ _ h => h) (Or.inl ⟨by rfl, ?_⟩) (by assumption) ?_
        rotate_left
        · intro w hSw; (try dsimp only at hSw); go_simp; all_goals with_reducible rfl
        simp only [Act.put, List.setIfInBounds_toArray, List.set_cons_zero, List.set_cons_succ, List.getElem_toArray, List.getElem_cons_zero, List.getElem_cons_succ]
        refine wpAnyH_done (by kernel_rfl) ?_ _
        clear y1d
        have c0 := (bX.cell (p := ⟨w11.heap.size, 0, none⟩) lW).trans p0
        have c1 := (bX.cell (p := ⟨w11.heap.size, 1, none⟩) lW).trans p1
        have c2 := (bX.cell (p := ⟨w11.heap.size, 2, none⟩) lW).trans p2
        have c3 := (bX.cell (p := ⟨w11.heap.size, 3, none⟩) lW).trans p3
        have lW3 : w11.heap.size < w13.heap.size := Nat.lt_of_lt_of_le lW bX.size
        have z6 : w13.cell? ⟨gX, 2, none⟩ = some (.int .i64 xlo) := BX.cell 2
        have z7 : w13.cell? ⟨gX, 3, none⟩ = some (.int .i64 xhi) := BX.cell 3
        have z8 : w13.cell? ⟨gX, 4, none⟩ = some (.int .i64 xtot) := BX.cell 4
        go_wp2_with fail
        go_at_call 38
        refine (cJ _).mono ?_
        rintro e w15 ⟨rfl, b15⟩
        have bq : Below wr.heap.size wr w15 := belowCall (belowDrew bX) b15
        have BW15 := BW.keep bq BW.lt
        have r0 := BW15.cell 0
        have r1 := BW15.cell 1
        have r2 := BW15.cell 2
        have r3 := BW15.cell 3
        have t0 := BW15.free 0
        have t1 := BW15.free 1
        have t2 := BW15.free 2
        have t3 := BW15.free 3
        have l15 := BW15.lt
        go_wp2_with fail
        go_roundw
        case rel => exact ⟨0 + 1, J, by omega, by go_num, hX2, BW15.put4 _ _ _ _, below4 (belW.trans (bq.mono belW.size)) (Nat.le_refl _) _ _ _ _⟩
        case measure => simp [intOf]; omega
      · have e0 := s1.cell bc_five q' 0 yb _ hyb rfl
        simp only [Nat.add_zero] at e0
        obtain ⟨ys, ym⟩ := yb
        simp only at *
        replace hyb := hide hyb
        have hq1 : (0 : Int) ≤ (q' : Int) := by omega
        have hq2 : (q' : Int) < (nN : Int) := by omega
        have hq3 : IntKind.i64.wrap ((q : Int) - 1) = q' := by rw [IntKind.wrap_i64]; omega
        have hys' : decide (xs ≤ ys) = false := decide_eq_false (by omega)
        have hq4 : decide (0 < q) = true := decide_eq_true (by omega)
        replace hqq := hide hqq
        go_wp2_with fail
        have BX := Blk.laid wr [.int .i64 xs, .int .i64 xn, .int .i64 xlo, .int .i64 xhi, .int .i64 xtot] 63 _ rfl
        have bX := belowNew (Below.refl wr.heap.size wr) (.cells #[.int .i64 xs, .int .i64 xn, .int .i64 xlo, .int .i64 xhi, .int .i64 xtot] 63)
        have lX := BX.lt
        generalize wr.alloc _ = w13 at *
        obtain ⟨gX, hgX⟩ : ∃ gX, gX = wr.heap.size := ⟨_, rfl⟩
        rw [← hgX] at BX lX ⊢
        replace hgX := hide hgX
        have z0 : w13.cell? ⟨gX, 0, none⟩ = some (.int .i64 xs) := BX.cell 0
        have z5 : w13.cell? ⟨gX, 1, none⟩ = some (.int .i64 xn) := BX.cell 1
        have e1 := (bX.cell (p := ⟨b1, o1 + q' * 5, none⟩) b1r).trans e0
        have b1s : b1 < w13.heap.size := Nat.lt_of_lt_of_le b1r bX.size
        clear e0
        go_region_held3 (fun w' => w'.cell? ⟨gX, 0, none⟩ = some (.int .i64 xs) ∧ w'.cell? ⟨gX, 1, none⟩ = some (.int .i64 xn) ∧ w'.cell? ⟨b1, o1 + q' * 5, none⟩ = some (.int .i64 ys)) (go_keep) (fail)
        clear y1d
        have c0 := (bX.cell (p := ⟨w11.heap.size, 0, none⟩) lW).trans p0
        have c1 := (bX.cell (p := ⟨w11.heap.size, 1, none⟩) lW).trans p1
        have c2 := (bX.cell (p := ⟨w11.heap.size, 2, none⟩) lW).trans p2
        have c3 := (bX.cell (p := ⟨w11.heap.size, 3, none⟩) lW).trans p3
        have lW3 : w11.heap.size < w13.heap.size := Nat.lt_of_lt_of_le lW bX.size
        have z6 : w13.cell? ⟨gX, 2, none⟩ = some (.int .i64 xlo) := BX.cell 2
        have z7 : w13.cell? ⟨gX, 3, none⟩ = some (.int .i64 xhi) := BX.cell 3
        have z8 : w13.cell? ⟨gX, 4, none⟩ = some (.int .i64 xtot) := BX.cell 4
        go_wp2_with fail
        go_at_call 38
        refine (cJ _).mono ?_
        rintro e w15 ⟨rfl, b15⟩
        have bq : Below wr.heap.size wr w15 := belowCall (belowDrew bX) b15
        have BW15 := BW.keep bq BW.lt
        have r0 := BW15.cell 0
        have r1 := BW15.cell 1
        have r2 := BW15.cell 2
        have r3 := BW15.cell 3
        have t0 := BW15.free 0
        have t1 := BW15.free 1
        have t2 := BW15.free 2
        have t3 := BW15.free 3
        have l15 := BW15.lt
        go_wp2_with fail
        go_roundw
        case rel => exact ⟨q + 1, J, by omega, by go_num, hX2, BW15.put4 _ _ _ _, below4 (belW.trans (bq.mono belW.size)) (Nat.le_refl _) _ _ _ _⟩
        case measure => simp [intOf]; omega
    · obtain rfl : nN = q := by omega
      have hXX : sumS (rngL A x z) = X := by
        rw [hX.out, List.take_of_length_le (by rw [← hnN.out]; exact Nat.le_refl _)]
        exact hb3.out.symm
      generalize wr = w14 at *
      clear wr
      have P14 := P7.keep belW (Nat.le_refl _)
      have p0 : w14.cell? ⟨w11.heap.size, 0, none⟩ = some (.int .i64 X.n) := BW.cell 0
      have p1 : w14.cell? ⟨w11.heap.size, 1, none⟩ = some (.int .i64 X.lo) := BW.cell 1
      have p2 : w14.cell? ⟨w11.heap.size, 2, none⟩ = some (.int .i64 X.hi) := BW.cell 2
      have p3 : w14.cell? ⟨w11.heap.size, 3, none⟩ = some (.int .i64 X.tot) := BW.cell 3
      have lW := BW.lt
      have cO : Calls Try.prog 39 #[.slice a7 n7 G7] w14.drew fun e w' => e = .returned (.agg #[.int .i64 X.n, .int .i64 X.lo, .int .i64 X.hi, .int .i64 X.tot]) ∧ w'.cell? ⟨w11.heap.size, 0, none⟩ = some (.int .i64 X.n) ∧ w'.cell? ⟨w11.heap.size, 1, none⟩ = some (.int .i64 X.lo) ∧ w'.cell? ⟨w11.heap.size, 2, none⟩ = some (.int .i64 X.hi) ∧ w'.cell? ⟨w11.heap.size, 3, none⟩ = some (.int .i64 X.tot) ∧ Below w14.heap.size w14 w' := by
        have K0 : Below w14.heap.size w14 w14.drew := belowDrew (Below.refl _ _)
        have c := of_any a7 G7 (rngL A x z) w14.drew (P14.keep K0 (Nat.le_refl _))
        rw [← hn7.out, hXX] at c
        refine c.mono ?_
        rintro e w' ⟨rfl, b'⟩
        have hb := belowCall K0 b'
        have B' := BW.keep hb BW.lt
        exact ⟨rfl, B'.cell 0, B'.cell 1, B'.cell 2, B'.cell 3, hb⟩
      clear hX hXX hb3 P14 P7 hn7 hb2
      go_wp2_with fail
      go_region_held3 (fun w' => w'.cell? ⟨w11.heap.size, 0, none⟩ = some (.int .i64 X.n) ∧ w'.cell? ⟨w11.heap.size, 1, none⟩ = some (.int .i64 X.lo) ∧ w'.cell? ⟨w11.heap.size, 2, none⟩ = some (.int .i64 X.hi) ∧ w'.cell? ⟨w11.heap.size, 3, none⟩ = some (.int .i64 X.tot)) (go_keep)
        ((go_at_call 39; refine cO.mono ?_; rintro e w16 ⟨rfl, j0, j1, j2, j3, b16⟩))
      have belX : Below w11.heap.size w11 w16 := belW.trans (b16.mono belW.size)
      replace bel := belowCall bel belX
      replace B0 := B0.keep belX B0.lt
      replace S1 := S1.call belX
      have SN2 := SN.call belX
      clear j0 j1 j2 j3 b16 belX belW BW lW p0 p1 p2 p3 cO SN
      have d0 : w16.cell? ⟨w.heap.size, 0, none⟩ = some (.slice a0 cn cap0) := B0.cell 0
      have l0 := B0.lt
      by_cases h2w : 100001 < ww
      · have h2d : decide ((100001 : Int) < ww) = true := decide_eq_true h2w
        go_wp2_with fail
        go_ret
        exact ⟨rfl, bel⟩
      have h2d : decide ((100001 : Int) < ww) = false := decide_eq_false h2w
      have hc0 := hcw (by omega)
      simp only [hc0] at cB2
      replace hc0 := hide hc0
      go_wp2_with fail
      go_at_call 30
      refine (cB2 _ S1).mono ?_
      rintro e w17 ⟨nV, aV, GV, rfl, hV, b17⟩
      obtain ⟨hnV, SV⟩ := hV trivial
      replace bel := belowCall bel b17
      have SN := SN2.call b17
      clear b17 cB2 d0 l0 hV SN2 B0 S1 hcw h2d
      go_wp2_with fail
      go_loopw [176, 25] (fun i s25 wr => ∃ (q : Nat) (O : List Bu) (ao : Option Addr) (no Gv : Nat), q ≤ nN ∧ i = .int .i64 q ∧ s25 = .slice ao no Gv ∧ Hid (O = (R.take q).foldl (jn (fun s => s - (s - x) % ww)) []) ∧ Hid (no = O.length) ∧ no ≤ q ∧ wr.ownsRow w17.heap.size 63 5 (.slice ao no Gv) no (O.flatMap bc) ∧ Below w17.heap.size w17 wr) (fun i _ _ => nN - (intOf i).toNat)
      case atStart => exact ⟨0, [], none, 0, 0, Nat.zero_le _, rfl, rfl, hide rfl, hide rfl, Nat.le_refl _, World.ownsRow_nil _ _ _ _, Below.refl _ _⟩
      case round =>
        obtain ⟨q, O, ao, no, Gv, hq, rfl, rfl, hO, hno, hnq, own, belW⟩ := hrel
        by_cases hlt : q < nN
        · have hkl : q < R.length := by rw [← hnN.out]; exact hlt
          obtain ⟨b1, o1, rfl, hb1l⟩ := SN.where bc_five (by decide) (by intro h; subst h; simp at hkl)
          obtain ⟨xb, hxb⟩ : ∃ xb, R[q]? = some xb := ⟨_, List.getElem?_eq_getElem hkl⟩
          obtain ⟨y1, y2, y3, y4⟩ := hb1.out q xb hxb
          have s1 := SN.keep belW (Nat.le_refl _)
          have d0 := s1.cell bc_five q 0 xb _ hxb rfl
          have d1 := s1.cell bc_five q 1 xb _ hxb rfl
          have d2 := s1.cell bc_five q 2 xb _ hxb rfl
          have d3 := s1.cell bc_five q 3 xb _ hxb rfl
          have d4 := s1.cell bc_five q 4 xb _ hxb rfl
          simp only [Nat.add_zero] at d0
          have hJ : (R.take (q + 1)).foldl (jn (fun s => s - (s - x) % ww)) [] = jn (fun s => s - (s - x) % ww) O xb := by
            rw [hO.out, List.take_add_one, hxb]
            simp
          obtain ⟨xs, xn, xlo, xhi, xtot⟩ := xb
          simp only at *
          obtain ⟨r, hr⟩ : ∃ r, r = (xs - x) % ww := ⟨_, rfl⟩
          have tm : (xs - x).tmod ww = r := by rw [Int.tmod_eq_emod_of_nonneg (by omega), hr]
          have r0 : 0 ≤ r := by rw [hr]; exact Int.emod_nonneg _ (by omega)
          have r1 : r ≤ xs - x := by rw [hr]; exact emod_le (by omega) (by omega)
          have hst' : xs - (xs - x) % ww = xs - r := by rw [hr]
          obtain ⟨st, hst⟩ : ∃ st, st = xs - r := ⟨_, rfl⟩
          rw [← hst] at hst'
          have u5 : IntKind.i64.wrap (xs - x) = xs - x := by rw [IntKind.wrap_i64]; omega
          have u6 : IntKind.i64.wrap (xs - r) = st := by rw [IntKind.wrap_i64]; omega
          replace hst := hide hst
          replace hst' := hide hst'
          clear hr
          replace hxb := hide hxb
          have hwi0 : ¬ ww = 0 := by omega
          have bel0 := belW
          obtain ⟨i0, hi, hz0, hz1, hz2⟩ := info_parts infoBu
          replace hJ := hide hJ
          clear hkl
          go_wp2_with fail
          have BX := Blk.laid wr [.int .i64 xs, .int .i64 xn, .int .i64 xlo, .int .i64 xhi, .int .i64 xtot] 63 _ rfl
          have bX := belowNew (Below.refl wr.heap.size wr) (.cells #[.int .i64 xs, .int .i64 xn, .int .i64 xlo, .int .i64 xhi, .int .i64 xtot] 63)
          generalize wr.alloc _ = w18 at *
          obtain ⟨gX, hgX⟩ : ∃ gX, gX = wr.heap.size := ⟨_, rfl⟩
          rw [← hgX] at BX ⊢
          replace hgX := hide hgX
          have z0 : w18.cell? ⟨gX, 0, none⟩ = some (.int .i64 xs) := BX.cell 0
          have lX := BX.lt
          go_region_held3 (fun w' => w'.cell? ⟨gX, 0, none⟩ = some (.int .i64 xs)) (go_keep) (fail)
          have bX' := belowDrew bX
          have BX' := BX.drewS
          generalize w18.drew = w20 at *
          have own20 := ownCall own bX'
          have bel20 : Below w17.heap.size w17 w20 := belW.trans (bX'.mono belW.size)
          have z1 : w20.cell? ⟨gX, 1, none⟩ = some (.int .i64 xn) := BX'.cell 1
          have z2 : w20.cell? ⟨gX, 2, none⟩ = some (.int .i64 xlo) := BX'.cell 2
          have z3 : w20.cell? ⟨gX, 3, none⟩ = some (.int .i64 xhi) := BX'.cell 3
          have z4 : w20.cell? ⟨gX, 4, none⟩ = some (.int .i64 xtot) := BX'.cell 4
          have lX' := BX'.lt
          clear own belW bX bX' BX z0 lX d0 d1 d2 d3 d4 s1 tm u5 u6
          rcases List.eq_nil_or_concat O with rfl | ⟨O', b, hO'⟩
          · have n0 : no = 0 := hno.out
            subst n0
            have hO2 : Hid (([] : List Bu) ++ [(⟨st, ⟨xn, xlo, xhi, xtot⟩⟩ : Bu)] = (R.take (q + 1)).foldl (jn (fun s => s - (s - x) % ww)) []) := by
              rw [hJ.out]
              unfold jn
              simp only [List.getLast?_nil, hst'.out]
              exact hide rfl
            go_wp2_with (at_builtin; refine wpList_append_new w20 rfl (.tmp 216) (.tmp 221) 52 rfl w17.heap.size 63 i0 _ 5 40 Try.underlying52 hi hz0 hz1 hz2 rfl (by decide) (.slice ao 0 Gv) 0 _ (by rfl) own20 1 #[.int .i64 st, .int .i64 xn, .int .i64 xlo, .int .i64 xhi, .int .i64 xtot] 63 (by rfl) (by rfl) (by simp [Value.oneCell']) (by decide) (by unfold maxLen; omega) (by omega) bel20.size ?_)
            intro v21 w21 own21 grow21 went21
            have bel21 := belowGrown bel20 own20 grow21 (Nat.le_refl _) bel20.size
            replace own21 : w21.ownsRow w17.heap.size 63 5 v21 (0 + 1) ((([] : List Bu) ++ [(⟨st, ⟨xn, xlo, xhi, xtot⟩⟩ : Bu)]).flatMap bc) := own21
            obtain ⟨a21, G21, rfl, _, _, _⟩ := SlW.ofOwn bc_five (by decide) own21
            have eno : Hid (0 + 1 = (([] : List Bu) ++ [(⟨st, ⟨xn, xlo, xhi, xtot⟩⟩ : Bu)]).length) := by rw [List.length_append, ← hno.out]; exact hide rfl
            go_wp2_with fail
            go_roundw
            case rel => exact ⟨q + 1, ([] : List Bu) ++ [⟨st, ⟨xn, xlo, xhi, xtot⟩⟩], a21, 0 + 1, G21, by omega, by go_num, rfl, hO2, eno, by omega, own21, bel21⟩
            case measure => simp [intOf]; omega
          · rw [List.concat_eq_append] at hO'
            subst hO'
            obtain ⟨m, hm⟩ : ∃ m, m = O'.length := ⟨_, rfl⟩
            have hnm : no = m + 1 := by rw [hno.out, List.length_append, hm]; rfl
            obtain ⟨g, eg, hgb⟩ := own_some own20 (by omega)
            subst eg
            obtain ⟨bs, bn, blo, bhi, btot⟩ := b
            obtain ⟨k0, -⟩ := last_cell own20 hm 0 _ rfl
            obtain ⟨k1, -⟩ := last_cell own20 hm 1 _ rfl
            obtain ⟨k2, -⟩ := last_cell own20 hm 2 _ rfl
            obtain ⟨k3, -⟩ := last_cell own20 hm 3 _ rfl
            obtain ⟨k4, -⟩ := last_cell own20 hm 4 _ rfl
            simp only [Nat.add_zero] at k0
            have lg : g < w20.heap.size := World.block_lt_of_cell? _ _ k0
            have hq1 : (0 : Int) ≤ (m : Int) := by omega
            have hq2 : (m : Int) < (no : Int) := by omega
            have hq3 : IntKind.i64.wrap ((no : Int) - 1) = m := by rw [IntKind.wrap_i64]; omega
            replace hnm := hide hnm
            replace hm := hide hm
            have hjs := jn_snoc (fun s => s - (s - x) % ww) O' ⟨bs, bn, blo, bhi, btot⟩ ⟨xs, xn, xlo, xhi, xtot⟩
            simp only [hst'.out] at hjs
            by_cases hbs : bs = st
            · subst hbs
              rw [if_pos rfl] at hjs
              have cJ := fun W => join_raw bn blo bhi btot xn xlo xhi xtot W
              unfold smV at cJ
              generalize joinS ⟨bn, blo, bhi, btot⟩ ⟨xn, xlo, xhi, xtot⟩ = J at *
              have hO2 : Hid (O' ++ [(⟨bs, J⟩ : Bu)] = (R.take (q + 1)).foldl (jn (fun s => s - (s - x) % ww)) []) := by
                rw [hJ.out, hjs]
                exact hide rfl
              replace hjs := hide hjs
              have eno : Hid (no = (O' ++ [(⟨bs, J⟩ : Bu)]).length) := by rw [hno.out, List.length_append, List.length_append]; exact hide rfl
              have own20d := ownCall own20 (belowDrew (Below.refl w20.heap.size w20))
              go_wp2_with fail
              go_region_law
                ((refine step_go_call2 (by rfl) 38 (.tmp 210) (.tmp 212) 61 61 (by rfl) (.agg #[.int .i64 bn, .int .i64 blo, .int .i64 bhi, .int .i64 btot]) (.agg #[.int .i64 xn, .int .i64 xlo, .int .i64 xhi, .int .i64 xtot]) (by rfl) (by rfl) (by go_simp) (cJ _) (by rintro e w' ⟨rfl, _⟩; exact ⟨_, rfl⟩) ?_; rintro u22 w22 ⟨e22, b22⟩; obtain rfl := Ending.returned.inj e22; have own22 := ownCall own20d b22; obtain ⟨j1, f1⟩ := last_cell own22 hm.out 1 _ rfl; obtain ⟨j2, f2⟩ := last_cell own22 hm.out 2 _ rfl; obtain ⟨j3, f3⟩ := last_cell own22 hm.out 3 _ rfl; obtain ⟨j4, f4⟩ := last_cell own22 hm.out 4 _ rfl; have lg2 : g < w22.heap.size := World.block_lt_of_cell? _ _ j1))
              all_goals go_wp2_with fail
              all_goals go_roundw
              case rel => exact ⟨q + 1, O' ++ [⟨bs, J⟩], some ⟨g, 0, none⟩, no, Gv, by omega, by go_num, rfl, hO2, eno, by omega, own_last own22 hm.out J.n J.lo J.hi J.tot, (((((belowCall bel20 (belowCall (belowDrew (Below.refl _ _)) b22)).setCell (p := ⟨g, m * 5 + 1, none⟩) hgb _).setCell (p := ⟨g, m * 5 + 1 + 1, none⟩) hgb _).setCell (p := ⟨g, m * 5 + 1 + 2, none⟩) hgb _).setCell (p := ⟨g, m * 5 + 1 + 3, none⟩) hgb _)⟩
              case measure => simp [intOf]; omega
              case rel => exact ⟨q + 1, O' ++ [⟨bs, J⟩], some ⟨g, 0, none⟩, no, Gv, by omega, by go_num, rfl, hO2, eno, by omega, own_last own22 hm.out J.n J.lo J.hi J.tot, (((((belowCall bel20 (belowCall (belowDrew (Below.refl _ _)) b22)).setCell (p := ⟨g, m * 5 + 1, none⟩) hgb _).setCell (p := ⟨g, m * 5 + 1 + 1, none⟩) hgb _).setCell (p := ⟨g, m * 5 + 1 + 2, none⟩) hgb _).setCell (p := ⟨g, m * 5 + 1 + 3, none⟩) hgb _)⟩
              case measure => simp [intOf]; omega
            · rw [if_neg hbs] at hjs
              have hbd : decide (bs = st) = false := decide_eq_false hbs
              have hO2 : Hid (O' ++ [(⟨bs, bn, blo, bhi, btot⟩ : Bu)] ++ [(⟨st, ⟨xn, xlo, xhi, xtot⟩⟩ : Bu)] = (R.take (q + 1)).foldl (jn (fun s => s - (s - x) % ww)) []) := by
                rw [hJ.out, hjs]
                exact hide rfl
              replace hjs := hide hjs
              obtain ⟨O, hOO⟩ : ∃ O, O = O' ++ [(⟨bs, bn, blo, bhi, btot⟩ : Bu)] := ⟨_, rfl⟩
              rw [← hOO] at own20 hno hO2
              replace hOO := hide hOO
              clear hO
              go_wp2_with (at_builtin; refine wpList_append_new w20 rfl (.tmp 216) (.tmp 221) 52 rfl w17.heap.size 63 i0 _ 5 40 Try.underlying52 hi hz0 hz1 hz2 rfl (by decide) (.slice (some ⟨g, 0, none⟩) no Gv) no _ (by rfl) own20 1 #[.int .i64 st, .int .i64 xn, .int .i64 xlo, .int .i64 xhi, .int .i64 xtot] 63 (by rfl) (by rfl) (by simp [Value.oneCell']) (by decide) (by unfold maxLen; omega) (by omega) bel20.size ?_)
              intro v21 w21 own21 grow21 went21
              have bel21 := belowGrown bel20 own20 grow21 (Nat.le_refl _) bel20.size
              rw [show (O).flatMap bc ++ (#[Value.int .i64 st, .int .i64 xn, .int .i64 xlo, .int .i64 xhi, .int .i64 xtot] : Array Value).toList = (O ++ [(⟨st, ⟨xn, xlo, xhi, xtot⟩⟩ : Bu)]).flatMap bc by rw [List.flatMap_append]; rfl] at own21
              obtain ⟨a21, G21, rfl, _, _, _⟩ := SlW.ofOwn bc_five (by decide) own21
              have eno : Hid (no + 1 = (O ++ [(⟨st, ⟨xn, xlo, xhi, xtot⟩⟩ : Bu)]).length) := by rw [List.length_append, ← hno.out]; exact hide rfl
              go_wp2_with fail
              go_roundw
              case rel => exact ⟨q + 1, O ++ [⟨st, ⟨xn, xlo, xhi, xtot⟩⟩], a21, no + 1, G21, by omega, by go_num, rfl, hO2, eno, by omega, own21, bel21⟩
              case measure => simp [intOf]; omega
        · obtain rfl : nN = q := by omega
          have hfin : O = runs (startOf x ww) (rngL A x z) := by
            rw [hO.out, List.take_of_length_le (by rw [← hnN.out]; exact Nat.le_refl _)]
            exact hb4.out
          rw [← hfin] at SV hnV
          obtain rfl : nV = no := by rw [hnV.out, hno.out]
          have SO := bus_own own
          have SV2 := SV.call belW
          clear hfin
          go_wp2_with fail
          go_at_call 35
          refine (equalBu aV ao GV Gv nV O wr SV2 SO hno.out (by omega)).mono ?_
          rintro e w23 ⟨rfl, b23⟩
          go_wp2_with fail
          go_ret
          exact ⟨rfl, belowCall (belowCall bel belW) b23⟩

end Go.Proofs.Ytnpikbpngohimaa.queryParts
