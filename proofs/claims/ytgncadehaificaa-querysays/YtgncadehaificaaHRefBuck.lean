/-
  rainbookref.BucketsOf: bucket by bucket, what it answers of points that are right.
-/
import Derived.Lib.MinMax
import Derived.Test.YtgncadehaificaaP36
import Derived.Test.YtgncadehaificaaHQGroup
import Derived.Test.YtgncadehaificaaP25
namespace Go.Proofs.Ytgncadehaificaa
open Go.RowKit

/-- The bucket that starts there, where it has points. -/
def oneBu (l : List Pt) (t w s : Int) : List Bu := if rngL l s (min t (s + w)) = [] then [] else [⟨s, sumS (rngL l s (min t (s + w)))⟩]

theorem byOne_snoc (l : List Pt) (t w : Int) : ∀ (m : Nat) (s : Int), byOne l t w (m + 1) s = byOne l t w m s ++ oneBu l t w (s + m * w)
  | 0, s => by
    unfold byOne oneBu
    simp [byOne]
  | m + 1, s => by
    rw [byOne, byOne_snoc l t w m (s + w), byOne, List.append_assoc]
    congr 2
    rw [show s + w + (m : Int) * w = s + ((m + 1 : Nat) : Int) * w by rw [Int.natCast_add, Int.add_mul]; simp; omega]

theorem cut_many {f t wd : Int} {m : Nat} (h : 0 ≤ f ∧ f ≤ t ∧ t ≤ 100001 ∧ 1 ≤ wd ∧ wd ≤ 100001) (hm : 200 ≤ m) (hs : f + m * wd < t) : cutE f t wd = 2 := by
  unfold cutE
  rw [if_pos h, if_pos]
  have h1 : (200 : Int) * wd ≤ m * wd := Int.mul_le_mul_of_nonneg_right (by omega) (by omega)
  have h2 : 201 * wd ≤ t - f + wd - 1 := by omega
  have := (Int.le_ediv_iff_mul_le (show 0 < wd by omega)).2 h2
  omega

theorem cut_few {f t wd : Int} {m : Nat} (h : 0 ≤ f ∧ f ≤ t ∧ t ≤ 100001 ∧ 1 ≤ wd ∧ wd ≤ 100001) (hm : m ≤ 200) (hs : t ≤ f + m * wd) : cutE f t wd = 0 := by
  unfold cutE
  rw [if_pos h, if_neg]
  intro h6
  have h1 := (Int.le_ediv_iff_mul_le (show 0 < wd by omega)).1 (show (201 : Int) ≤ (t - f + wd - 1) / wd by omega)
  have h2 : (m : Int) * wd ≤ 200 * wd := Int.mul_le_mul_of_nonneg_right (by omega) (by omega)
  omega

def rbL (l : List Pt) (f t wd : Int) : List Bu := if cutE f t wd = 0 then runs (startOf f wd) (rngL l f t) else []

set_option maxHeartbeats 400000 in
set_option maxRecDepth 100000 in
theorem refBuck_no (ao : Option Addr) (n cap : Nat) (f t wd : Int) (w : World) (h : ¬ (0 ≤ f ∧ f ≤ t ∧ t ≤ 100001 ∧ 1 ≤ wd ∧ wd ≤ 100001)) :
    Calls Try.prog 33 #[.slice ao n cap, .int .i64 f, .int .i64 t, .int .i64 wd] w fun e w' => e = .returned (.tuple #[.slice none 0 0, .int .i64 3]) ∧ w' = w := by
  have c1 := fun W => in_any f 0 t W
  have c2 := fun W => in_any wd 1 100001 W
  by_cases h1 : 0 ≤ f ∧ f ≤ t
  · rw [decide_eq_true h1] at c1
    by_cases h3 : t ≤ 100001
    · have n3 : ¬ 100001 < t := by omega
      rw [decide_eq_false (show ¬ (1 ≤ wd ∧ wd ≤ 100001) by omega)] at c2
      go_enter Try.func33, Try.ntmps33
      go_wp2_with fail
      go_at_call 64
      refine (c1 _).mono ?_
      rintro e w1 ⟨rfl, rfl⟩
      go_wp2_with fail
      go_at_call 64
      refine (c2 _).mono ?_
      rintro e w1 ⟨rfl, rfl⟩
      go_wp2_with fail
      go_ret2
      exact ⟨rfl, rfl⟩
    · have n3 : 100001 < t := by omega
      go_enter Try.func33, Try.ntmps33
      go_wp2_with fail
      go_at_call 64
      refine (c1 _).mono ?_
      rintro e w1 ⟨rfl, rfl⟩
      go_wp2_with fail
      go_ret2
      exact ⟨rfl, rfl⟩
  · rw [decide_eq_false h1] at c1
    go_enter Try.func33, Try.ntmps33
    go_wp2_with fail
    go_at_call 64
    refine (c1 _).mono ?_
    rintro e w1 ⟨rfl, rfl⟩
    go_wp2_with fail
    go_ret2
    exact ⟨rfl, rfl⟩

set_option maxHeartbeats 2000000 in
set_option maxRecDepth 100000 in
theorem refBuck_yes (l : List Pt) (ao : Option Addr) (cap n : Nat) (f t wd : Int) (w : World) (S : SlP w ao cap l) (hn : l.length = n) (few : n ≤ 40) (hr : Rises l) (hv : ∀ p ∈ l, (Lit.int .i64 p.2).wf = true) (h : 0 ≤ f ∧ f ≤ t ∧ t ≤ 100001 ∧ 1 ≤ wd ∧ wd ≤ 100001) :
    Calls Try.prog 33 #[.slice ao n cap, .int .i64 f, .int .i64 t, .int .i64 wd] w fun e w' => ∃ a' G', e = .returned (.tuple #[.slice a' (rbL l f t wd).length G', .int .i64 (cutE f t wd)]) ∧ w'.ownsRow w.heap.size 63 5 (.slice a' (rbL l f t wd).length G') (rbL l f t wd).length ((rbL l f t wd).flatMap bc) ∧ Below w.heap.size w w' := by
  have c1 := fun W => in_any f 0 t W
  rw [decide_eq_true (show 0 ≤ f ∧ f ≤ t by omega)] at c1
  have c2 := fun W => in_any wd 1 100001 W
  rw [decide_eq_true (show 1 ≤ wd ∧ wd ≤ 100001 by omega)] at c2
  have n3 : ¬ 100001 < t := by omega
  have hh := hide h
  obtain ⟨k1, k2, k3, k4, k5⟩ := h
  have c3 := fun s e W (h : SlP W ao cap l) => refRng_any l ao cap n s e W h hn few
  obtain ⟨E, hE⟩ : ∃ E, E = cutE f t wd := ⟨_, rfl⟩
  obtain ⟨R, hR⟩ : ∃ R, R = rbL l f t wd := ⟨_, rfl⟩
  rw [← hE, ← hR]
  replace hE := hide hE
  replace hR := hide hR
  replace hn := hide hn
  replace hr := hide hr
  replace hv := hide hv
  obtain ⟨i0, hi, hz0, hz1, hz2⟩ := info_parts infoBu
  go_enter Try.func33, Try.ntmps33
  go_wp2_with fail
  go_at_call 64
  refine (c1 _).mono ?_
  rintro e w1 ⟨rfl, rfl⟩
  go_wp2_with fail
  go_at_call 64
  refine (c2 _).mono ?_
  rintro e w1 ⟨rfl, rfl⟩
  clear c1 c2
  go_wp2_with fail
  rename World => w
  go_loopw [12, 11, 10] (fun s12 s11 s10 wr => ∃ (m q G : Nat) (st : Int) (a' : Option Addr) (O : List Bu), m ≤ 200 ∧ s12 = .int .i64 st ∧ s11 = .int .i64 m ∧ s10 = .slice a' q G ∧ f ≤ st ∧ st ≤ 300002 ∧ Hid (st = f + m * wd) ∧ q ≤ m ∧ Hid (q = O.length) ∧ Hid (O = byOne l t wd m f) ∧ wr.ownsRow w.heap.size 63 5 (.slice a' q G) q (O.flatMap bc) ∧ Below w.heap.size w wr) (fun s12 _ _ _ => (t - intOf s12).toNat)
  case atStart => exact ⟨0, 0, 0, f, none, [], by omega, rfl, rfl, rfl, by omega, by omega, hide (by simp), by omega, hide rfl, hide rfl, World.ownsRow_nil _ _ _ _, Below.refl _ _⟩
  case round =>
    obtain ⟨m, q, G, st, a', O, hm, rfl, rfl, rfl, hst0, hst1, est, hq, eq, eO, own, bel⟩ := hrel
    by_cases hlt : st < t
    · by_cases h200 : m < 200
      · have hm' : ¬ (200 : Int) < (m : Int) + 1 := by omega
        have hmi : (m : Int) < 200 := by omega
        have hsw : st + wd ≤ 400000 := by omega
        have hsw0 : 0 ≤ st + wd := by omega
        have S1 := S.keep bel (Nat.le_refl _)
        have sn := byOne_snoc l t wd m f
        rw [← est.out] at sn
        unfold oneBu at sn
        have c4 := fun W h => c3 st (min t (st + wd)) W h
        have hv2 : ∀ p ∈ rngL l st (min t (st + wd)), (Lit.int .i64 p.2).wf = true := fun p hp => hv.out p (rng_mem hp).1
        have hl2 : (rngL l st (min t (st + wd))).length ≤ 40 := Nat.le_trans (rng_len _ _ _) (by rw [hn.out]; exact few)
        have est2 : Hid (st + wd = f + ((m + 1 : Nat) : Int) * wd) := hide (by rw [est.out, Int.natCast_add, Int.add_mul]; simp; omega)
        generalize rngL l st (min t (st + wd)) = X at *
        obtain ⟨xn, hxn⟩ : ∃ n, n = X.length := ⟨_, rfl⟩
        rw [← hxn] at c4 hl2
        by_cases hX : X = []
        · obtain rfl : xn = 0 := by rw [hxn, hX]; rfl
          rw [if_pos hX, List.append_nil] at sn
          have eO2 : Hid (O = byOne l t wd (m + 1) f) := by rw [sn]; exact eO
          replace sn := hide sn
          replace hX := hide hX
          clear hxn
          go_wp2_with fail
          go_at_call 34
          refine (c4 _ S1).mono ?_
          rintro e w5 ⟨a5, G5, rfl, o5, b5⟩
          have own5 := ownCall own b5
          have bel5 := belowCall bel b5
          go_wp2_with fail
          go_roundw
          case rel => exact ⟨m + 1, q, G, st + wd, a', O, by omega, by go_num, by go_num, rfl, by omega, by omega, est2, by omega, eq, eO2, own5, bel5⟩
          case measure => simp [intOf]; omega
        · rw [if_neg hX] at sn
          have hx1 : 0 < xn := by rw [hxn]; exact List.length_pos_iff.2 hX
          have c5 := fun a c W (h : SlP W a c X) => refSum_any a c X W h hv2
          rw [← hxn] at c5
          unfold smV at c5
          generalize sumS X = Z at *
          have eO2 : Hid (O ++ [⟨st, Z⟩] = byOne l t wd (m + 1) f) := by rw [sn, eO.out]; exact hide rfl
          replace sn := hide sn
          replace hX := hide hX
          replace hxn := hide hxn
          have hx1' : (0 : Int) < xn := by omega
          go_wp2_with fail
          go_at_call 34
          refine (c4 _ S1).mono ?_
          rintro e w5 ⟨a5, G5, rfl, o5, b5⟩
          have own5 := ownCall own b5
          have bel5 := belowCall bel b5
          have P5 : SlP w5 a5 G5 X := by
            obtain ⟨a3, G3, e3, s3, _, _⟩ := SlP.ofOwn o5
            simp only [Value.slice.injEq, true_and] at e3
            obtain ⟨rfl, rfl⟩ := e3
            exact s3
          clear b5 o5 S1 c4
          go_wp2_with fail
          go_at_call 77
          refine (c5 _ _ _ P5).mono ?_
          rintro e w6 ⟨rfl, b6⟩
          have own6 := ownCall own5 b6
          have bel6 := belowCall bel5 b6
          have hbz := bel6.size
          clear b6 P5 c5 own5 bel5
          go_wp2_with (at_builtin; refine wpList_append_new w6 rfl (.tmp 49) (.tmp 54) 52 rfl w.heap.size 63 i0 _ 5 40 Try.underlying52 hi hz0 hz1 hz2 rfl (by decide) (.slice a' q G) q _ (by rfl) own6 1 #[.int .i64 st, .int .i64 Z.n, .int .i64 Z.lo, .int .i64 Z.hi, .int .i64 Z.tot] 63 (by rfl) (by rfl) (by simp [Value.oneCell']) (by decide) (by unfold maxLen; omega) (by omega) hbz ?_)
          intro v7 w7 own7 grow7 went7
          have bel7 := belowGrown bel6 own6 grow7 (Nat.le_refl _) hbz
          rw [show O.flatMap bc ++ (#[Value.int .i64 st, .int .i64 Z.n, .int .i64 Z.lo, .int .i64 Z.hi, .int .i64 Z.tot] : Array Value).toList = (O ++ [(⟨st, Z⟩ : Bu)]).flatMap bc by rw [List.flatMap_append]; rfl] at own7
          obtain ⟨a7, G7, rfl, _, _, _⟩ := SlW.ofOwn bc_five (by decide) own7
          have eq7 : Hid (q + 1 = (O ++ [(⟨st, Z⟩ : Bu)]).length) := by rw [List.length_append, ← eq.out]; exact hide rfl
          go_wp2_with fail
          go_roundw
          case rel => exact ⟨m + 1, q + 1, G7, st + wd, a7, _, by omega, by go_num, by go_num, rfl, by omega, by omega, est2, by omega, eq7, eO2, own7, bel7⟩
          case measure => simp [intOf]; omega
      · obtain rfl : m = 200 := by omega
        have e2 : E = 2 := by rw [hE.out]; exact cut_many hh.out (Nat.le_refl _) (by rw [← est.out]; exact hlt)
        have eR : R = [] := by rw [hR.out]; unfold rbL; rw [← hE.out, e2]; rfl
        subst e2
        subst eR
        go_wp2_with fail
        go_ret2
        exact ⟨none, 0, rfl, World.ownsRow_nil _ _ _ _, bel⟩
    · have e0 : E = 0 := by rw [hE.out]; exact cut_few hh.out hm (by rw [← est.out]; omega)
      have eR : R = O := by
        rw [hR.out, eO.out]
        unfold rbL
        rw [← hE.out, e0, if_pos rfl]
        exact (byOne_runs l hr.out t wd k4 m f (by rw [← est.out]; omega)).symm
      subst e0
      subst eR
      go_wp2_with fail
      go_ret2
      exact ⟨_, _, by rw [eq.out]; rfl, by rw [← eq.out]; exact own, bel⟩

end Go.Proofs.Ytgncadehaificaa
