/-
  The reference's SumOf and Joined: what they return, in the words of sums; nothing that was there is written.
-/
import Derived.Test.YtcbhpikcnhefbabSumMath
import Derived.Test.YtcbhpikcnhefbabDrawn
namespace Go.Proofs.Ytcbhpikcnhefbab
open Go.RowKit

set_option maxHeartbeats 1000000 in
set_option maxRecDepth 100000 in
theorem joined_raw (an alo ahi atot bn blo bhi btot : Int) (w : World) :
    Calls Try.prog 19 #[.agg #[.int .i64 an, .int .i64 alo, .int .i64 ahi, .int .i64 atot], .agg #[.int .i64 bn, .int .i64 blo, .int .i64 bhi, .int .i64 btot]] w fun e w' => e = .returned (smV (joinS ⟨an, alo, ahi, atot⟩ ⟨bn, blo, bhi, btot⟩)) ∧ Below w.heap.size w w' := by
  unfold joinS
  simp only
  by_cases h1 : an = 0
  · subst h1
    rw [if_pos rfl]
    go_enter Try.func19, Try.ntmps19
    go_wp2
    exact bodyPost_ret (v := .agg #[.int .i64 bn, .int .i64 blo, .int .i64 bhi, .int .i64 btot]) (by simp [results, Try.results19, go_sem]) rfl ⟨rfl, below3 w _ _ _⟩
  · by_cases h2 : bn = 0
    · subst h2
      rw [if_neg h1, if_pos rfl]
      go_enter Try.func19, Try.ntmps19
      go_wp2
      exact bodyPost_ret (v := .agg #[.int .i64 an, .int .i64 alo, .int .i64 ahi, .int .i64 atot]) (by simp [results, Try.results19, go_sem]) rfl ⟨rfl, below3 w _ _ _⟩
    · rw [if_neg h1, if_neg h2, Int.min_comm alo, Int.max_comm ahi, Int.add_comm atot]
      go_enter Try.func19, Try.ntmps19
      go_wp2
      exact bodyPost_ret (v := .agg #[.int .i64 (wrap64 (an + bn)), .int .i64 (min blo alo), .int .i64 (max bhi ahi), .int .i64 (wrap64 (btot + atot))]) (by simp [results, Try.results19, go_sem]) rfl ⟨rfl, below3 w _ _ _⟩

theorem joined_any (a b : Sm) (w : World) :
    Calls Try.prog 19 #[smV a, smV b] w fun e w' => e = .returned (smV (joinS a b)) ∧ Below w.heap.size w w' := joined_raw _ _ _ _ _ _ _ _ w

/-- The frame of a round while the statement that adds a point goes on: what is in it already, and the slots that the statement writes, by the number of their operation. -/
def fr (b off n cap g0 q k : Nat) (y0 x y : Int) (u45 : Value) (V : Nat → Value) : Act :=
  { tmps := #[.slice (some ⟨b, off, none⟩) n cap, undef, .pointer (some ⟨g0, 0, none⟩), .pointer (some ⟨g0 + 1, 0, none⟩), undef, .pointer (some ⟨q, 0, none⟩), .slice (some ⟨b, off, none⟩) n cap, .int .i64 n, .bool ((n : Int) == 0), undef, .slice (some ⟨b, off, none⟩) n cap,
      .int .i64 n, .slice (some ⟨b, off, none⟩) n cap, .pointer (some ⟨b, off, none⟩), .pointer (some ⟨b, off + 1, none⟩), .int .i64 y0, .slice (some ⟨b, off, none⟩) n cap, .pointer (some ⟨b, off, none⟩), .pointer (some ⟨b, off + 1, none⟩), .int .i64 y0,
      .agg #[.int .i64 n, .int .i64 y0, .int .i64 y0, .int .i64 0], .slice (some ⟨b, off, none⟩) n cap, .int .i64 n, .int .i64 k, .bool true, .pointer (some ⟨b, off + k * 2, none⟩), .agg #[.int .i64 x, .int .i64 y],
      V 0, V 1, V 2, V 3, V 4, V 5, V 6, V 7, V 8, V 9, V 10, V 11, V 12, V 13, V 14, V 15, V 17, V 19, u45, undef], defers := [] }

/-- What each slot holds when its operation has come up. -/
def vals (g q : Nat) (lo hi tot y : Int) : Nat → Value → Prop
  | 0, v => v = .pointer (some ⟨g, 1, none⟩)
  | 1, v => v = .int .i64 lo
  | 2, v => v = .pointer (some ⟨q, 1, none⟩)
  | 3, v => v = .int .i64 y
  | 4, v => v = .int .i64 (min lo y)
  | 5, v => v = .pointer (some ⟨g, 2, none⟩)
  | 6, v => v = .int .i64 hi
  | 7, v => v = .pointer (some ⟨q, 1, none⟩)
  | 8, v => v = .int .i64 y
  | 9, v => v = .int .i64 (max hi y)
  | 10, v => v = .pointer (some ⟨g, 3, none⟩)
  | 11, v => v = .int .i64 tot
  | 12, v => v = .pointer (some ⟨q, 1, none⟩)
  | 13, v => v = .int .i64 y
  | 14, v => v = .int .i64 (wrap64 (tot + y))
  | 15, v => v = .pointer (some ⟨g, 1, none⟩)
  | 17, v => v = .pointer (some ⟨g, 2, none⟩)
  | 19, v => v = .pointer (some ⟨g, 3, none⟩)
  | _, _ => True

/-- The world, by the stores that have come up. -/
def stW (w : World) (g : Nat) (lo hi tot y : Int) (d : Nat → Bool) : World :=
  let w1 := if d 16 = true then w.setCell ⟨g, 1, none⟩ (.int .i64 (min lo y)) else w
  let w2 := if d 18 = true then w1.setCell ⟨g, 2, none⟩ (.int .i64 (max hi y)) else w1
  if d 20 = true then w2.setCell ⟨g, 3, none⟩ (.int .i64 (wrap64 (tot + y))) else w2

theorem stW_none (w : World) (g : Nat) (lo hi tot y : Int) (d : Nat → Bool) (h16 : d 16 = false) (h18 : d 18 = false) (h20 : d 20 = false) : stW w g lo hi tot y d = w := by
  simp [stW, h16, h18, h20]

theorem stW_same (w : World) (g : Nat) (lo hi tot y : Int) (d : Nat → Bool) (i : Nat) (h1 : 16 ≠ i) (h2 : 18 ≠ i) (h3 : 20 ≠ i) : stW w g lo hi tot y (fun k => k == i || d k) = stW w g lo hi tot y d := by
  have e16 : (16 == i) = false := by simpa using h1
  have e18 : (18 == i) = false := by simpa using h2
  have e20 : (20 == i) = false := by simpa using h3
  simp [stW, e16, e18, e20]

theorem stW_cell (w : World) (g q : Nat) (lo hi tot y : Int) (d : Nat → Bool) (hne : g ≠ q) : (stW w g lo hi tot y d).cell? ⟨q, 1, none⟩ = w.cell? ⟨q, 1, none⟩ := by
  have key : ∀ (W : World) (i : Nat) (u : Value), (W.setCell ⟨g, i, none⟩ u).cell? ⟨q, 1, none⟩ = W.cell? ⟨q, 1, none⟩ := by
    intro W i u
    unfold World.cell?
    rw [heap_setCell_other W _ q u (fun e => hne e.symm)]
  unfold stW
  simp only
  split <;> split <;> split <;> simp only [key]

def putS (V : Nat → Value) (i : Nat) (v : Value) : Nat → Value := fun k => if k = i then v else V k

theorem vals_put {G : Nat → Value → Prop} {d : Nat → Bool} {V : Nat → Value} (h : ∀ i, d i = true → G i (V i)) (i : Nat) (v : Value) (hv : G i v) : ∀ k, (k == i || d k) = true → G k (putS V i v k) := by
  intro k hk
  by_cases hki : k = i
  · subst hki
    simpa [putS] using hv
  · simpa [putS, hki] using h k (by simpa [hki] using hk)

set_option maxHeartbeats 1000000 in
set_option maxRecDepth 100000 in
theorem refSum_any (ao : Option Addr) (cap : Nat) (l : List Pt) (w : World) (hr : SlP w ao cap l) (hw : ∀ p ∈ l, (Lit.int .i64 p.2).wf = true) :
    Calls Try.prog 17 #[.slice ao l.length cap] w fun e w' => e = .returned (smV (sumS l)) ∧ Below w.heap.size w w' := by
  have hlc := hr.le
  have hcm := hr.max
  cases hl : l with
  | nil =>
    subst hl
    rw [List.length_nil]
    go_enter Try.func17, Try.ntmps17
    go_wp2
    exact bodyPost_ret (v := .agg #[.int .i64 0, .int .i64 0, .int .i64 0, .int .i64 0]) (by simp [results, Try.results17, go_sem]) rfl ⟨rfl, (Below.refl _ _).alloc (Nat.le_refl _) _⟩
  | cons p r =>
    have hS : sumS (p :: r) = accS ⟨l.length, p.2, p.2, 0⟩ l := by
      rw [hl]
      exact sumS_acc p r (wrap_wf (hw p (by rw [hl]; exact List.mem_cons_self))) (by rw [← hl]; omega)
    rw [← hl] at hS ⊢
    rw [hS]
    have hne : l ≠ [] := by rw [hl]; simp
    obtain ⟨b, off, rfl, hbw⟩ := hr.where hne
    obtain ⟨x0, y0, q0, q1, hx0, -⟩ := hr.pt 0 (by rw [hl]; simp)
    obtain rfl : p = (x0, y0) := by rw [hl] at hx0; simpa using hx0
    rw [Nat.zero_mul, Nat.add_zero] at q0 q1
    have hl1 : 0 < l.length := by rw [hl]; simp
    clear hw hS hx0 hne hl
    obtain ⟨n, hn⟩ : ∃ n, n = l.length := ⟨_, rfl⟩
    rw [← hn] at hlc ⊢
    simp only
    obtain ⟨C, hC⟩ : ∃ C, C = accS ⟨n, y0, y0, 0⟩ l := ⟨_, rfl⟩
    rw [← hC]
    have hn1 : 0 < n := by rw [hn]; exact hl1
    have HL := hide hn
    have HC : Hid (C = accS ⟨n, y0, y0, 0⟩ (l.drop 0)) := by rw [List.drop_zero]; exact hC
    clear hn hC
    go_enter Try.func17, Try.ntmps17
    go_wp2_with fail
    go_region
    all_goals go_wp2_with fail
    have B0 := Blk.laid w sm0.cells 39 _ rfl
    have B1 := (Blk.laid (w.alloc (.cells sm0.cells.toArray 39)) (Sm.mk n y0 y0 0).cells 39 (w.heap.size + 1) (by simp)).drewS
    have B2 := (B0.alc (.cells (Sm.mk n y0 y0 0).cells.toArray 39)).drewS
    have bel0 : Below w.heap.size w ((w.alloc (.cells sm0.cells.toArray 39)).alloc (.cells (Sm.mk n y0 y0 0).cells.toArray 39)).drew := belowDrew (below2 w _ _)
    unfold Sm.cells sm0 at B1 B2 bel0
    clear B0 q0 q1
    generalize World.drew _ = w2 at *
    go_loopw [23] (fun i wr => ∃ (k : Nat) (lo hi tot : Int), k ≤ n ∧ i = .int .i64 k ∧ Hid (C = accS ⟨n, lo, hi, tot⟩ (l.drop k)) ∧ Blk wr (w.heap.size + 1) (Sm.mk n lo hi tot).cells 39 ∧ Blk wr w.heap.size sm0.cells 39 ∧ Below w.heap.size w wr) (fun i _ => n - (intOf i).toNat)
    case atStart => exact ⟨0, y0, y0, 0, by omega, rfl, HC, B1, B2, bel0⟩
    case round =>
      clear HC B1 B2 bel0
      obtain ⟨k, lo, hi, tot, hk, rfl, HC, B, BR, bel⟩ := hrel
      have c0 : wr.cell? ⟨w.heap.size + 1, 0, none⟩ = some (.int .i64 n) := B.cell 0
      have c1 : wr.cell? ⟨w.heap.size + 1, 1, none⟩ = some (.int .i64 lo) := B.cell 1
      have c2 : wr.cell? ⟨w.heap.size + 1, 2, none⟩ = some (.int .i64 hi) := B.cell 2
      have c3 : wr.cell? ⟨w.heap.size + 1, 3, none⟩ = some (.int .i64 tot) := B.cell 3
      have hgl := B.lt
      have f1 := B.free 1
      have f2 := B.free 2
      have f3 := B.free 3
      by_cases hlt : k < n
      · have hs := hr.keep bel (Nat.le_refl _)
        obtain ⟨x, y, e0, e1, hx, hd⟩ := hs.pt k (by rw [← HL.out]; exact hlt)
        have HC' := HC.out
        rw [hd, accS] at HC'
        simp only at HC'
        have HC2 := hide HC'
        have hbr : b < wr.heap.size := Nat.lt_of_lt_of_le hbw bel.size
        clear HC HC' hx hd
        go_wp2_with fail
        have B4 := B.alc (.cells #[.int .i64 x, .int .i64 y] 32)
        have R4 := BR.alc (.cells #[.int .i64 x, .int .i64 y] 32)
        have bel4 := bel.alloc bel.size (.cells #[.int .i64 x, .int .i64 y] 32)
        have p4 : (wr.alloc (.cells #[.int .i64 x, .int .i64 y] 32)).cell? ⟨wr.heap.size, 1, none⟩ = some (.int .i64 y) := by rw [World.cell?_alloc_at (hn := rfl)]; rfl
        clear c0 c1 c2 c3 f1 f2 f3 B BR bel e0 e1 hs hbr
        generalize wr.alloc _ = w4 at *
        generalize wr.heap.size = q at *
        clear wr
        have hq1 : w.heap.size + 1 ≠ q := by omega
        have hnz : ¬ n = 0 := by omega
        have c1 : w4.drew.cell? ⟨w.heap.size + 1, 1, none⟩ = some (.int .i64 lo) := B4.cell 1
        have c2 : w4.drew.cell? ⟨w.heap.size + 1, 2, none⟩ = some (.int .i64 hi) := B4.cell 2
        have c3 : w4.drew.cell? ⟨w.heap.size + 1, 3, none⟩ = some (.int .i64 tot) := B4.cell 3
        refine wp_region_inv (by kernel_rfl) (by kernel_rfl) (fun d a W => ∃ V, a = fr b off n cap w.heap.size q k y0 x y u45 V ∧ (∀ i, d i = true → vals (w.heap.size + 1) q lo hi tot y i (V i)) ∧ W = stW w4.drew (w.heap.size + 1) lo hi tot y d) ?step ?fin ?start
        case start => exact ⟨fun i => [u27, u28, u29, u30, u31, u32, u33, u34, u35, u36, u37, u38, u39, u40, u41, u42, undef, u43, undef, u44].getD i undef, rfl, fun _ h => Bool.noConfusion h, (stW_none _ _ _ _ _ _ _ rfl rfl rfl).symm⟩
        case step =>
          intro i o d a W hi' ho hd hall down inv K' hK
          obtain ⟨V, rfl, hv, hW⟩ := inv
          have HW := hide hW
          clear hW
          have key : i = 0 ∨ i = 1 ∨ i = 2 ∨ i = 3 ∨ i = 4 ∨ i = 5 ∨ i = 6 ∨ i = 7 ∨ i = 8 ∨ i = 9 ∨ i = 10 ∨ i = 11 ∨ i = 12 ∨ i = 13 ∨ i = 14 ∨ i = 15 ∨ i = 16 ∨ i = 17 ∨ i = 18 ∨ i = 19 ∨ i = 20 := by
            have : i < 21 := hi'
            omega
          clear hi'
          rcases key with rfl | rfl | rfl | rfl | rfl | rfl | rfl | rfl | rfl | rfl | rfl | rfl | rfl | rfl | rfl | rfl | rfl | rfl | rfl | rfl | rfl
          · obtain rfl := Option.some.inj ho
            rw [if_pos (by rfl)]
            unfold fr
            go_simp
            refine hK _ _ ⟨putS V 0 _, ?_, vals_put hv 0 _ rfl, by rw [HW.out, stW_same _ _ _ _ _ _ _ _ (by decide) (by decide) (by decide)]⟩
            unfold fr putS
            simp [hnz]
          · obtain rfl := Option.some.inj ho
            rw [if_pos (by rfl)]
            have h16 : d 16 = false := no down 16 _ rfl ⟨1, .phase⟩ (by simp) rfl hd
            have h18 : d 18 = false := no down 18 _ rfl ⟨16, .chain⟩ (by simp) rfl h16
            have h20 : d 20 = false := no down 20 _ rfl ⟨18, .chain⟩ (by simp) rfl h18
            have hW := HW.out
            rw [stW_none _ _ _ _ _ _ _ h16 h18 h20] at hW
            clear HW
            subst hW
            have e0 : V 0 = .pointer (some ⟨w.heap.size + 1, 1, none⟩) := hv 0 (hall ⟨0, .data⟩ (by simp) rfl)
            unfold fr
            rw [e0]
            go_simp
            refine hK _ _ ⟨putS V 1 _, ?_, vals_put hv 1 _ rfl, by rw [stW_same _ _ _ _ _ _ _ _ (by decide) (by decide) (by decide), stW_none _ _ _ _ _ _ _ h16 h18 h20]⟩
            unfold fr putS
            simp [e0, hnz]
          · obtain rfl := Option.some.inj ho
            rw [if_pos (by rfl)]
            unfold fr
            go_simp
            refine hK _ _ ⟨putS V 2 _, ?_, vals_put hv 2 _ rfl, by rw [HW.out, stW_same _ _ _ _ _ _ _ _ (by decide) (by decide) (by decide)]⟩
            unfold fr putS
            simp [hnz]
          · obtain rfl := Option.some.inj ho
            rw [if_pos (by rfl)]
            have e2 : V 2 = .pointer (some ⟨q, 1, none⟩) := hv 2 (hall ⟨2, .data⟩ (by simp) rfl)
            have ec : W.cell? ⟨q, 1, none⟩ = some (.int .i64 y) := by rw [HW.out, stW_cell _ _ _ _ _ _ _ _ hq1]; exact p4
            unfold fr
            rw [e2]
            go_simp
            refine hK _ _ ⟨putS V 3 _, ?_, vals_put hv 3 _ rfl, by rw [HW.out, stW_same _ _ _ _ _ _ _ _ (by decide) (by decide) (by decide)]⟩
            unfold fr putS
            simp [e2, hnz]
          · obtain rfl := Option.some.inj ho
            rw [if_pos (by rfl)]
            have e1 : V 1 = .int .i64 lo := hv 1 (hall ⟨1, .data⟩ (by simp) rfl)
            have e3 : V 3 = .int .i64 y := hv 3 (hall ⟨3, .data⟩ (by simp) rfl)
            unfold fr
            rw [e1, e3]
            go_simp
            refine hK _ _ ⟨putS V 4 _, ?_, vals_put hv 4 _ rfl, by rw [HW.out, stW_same _ _ _ _ _ _ _ _ (by decide) (by decide) (by decide)]⟩
            unfold fr putS
            simp [e1, e3, hnz]
          · obtain rfl := Option.some.inj ho
            rw [if_pos (by rfl)]
            unfold fr
            go_simp
            refine hK _ _ ⟨putS V 5 _, ?_, vals_put hv 5 _ rfl, by rw [HW.out, stW_same _ _ _ _ _ _ _ _ (by decide) (by decide) (by decide)]⟩
            unfold fr putS
            simp [hnz]
          · obtain rfl := Option.some.inj ho
            rw [if_pos (by rfl)]
            have h16 : d 16 = false := no down 16 _ rfl ⟨6, .phase⟩ (by simp) rfl hd
            have h18 : d 18 = false := no down 18 _ rfl ⟨16, .chain⟩ (by simp) rfl h16
            have h20 : d 20 = false := no down 20 _ rfl ⟨18, .chain⟩ (by simp) rfl h18
            have hW := HW.out
            rw [stW_none _ _ _ _ _ _ _ h16 h18 h20] at hW
            clear HW
            subst hW
            have e5 : V 5 = .pointer (some ⟨w.heap.size + 1, 2, none⟩) := hv 5 (hall ⟨5, .data⟩ (by simp) rfl)
            unfold fr
            rw [e5]
            go_simp
            refine hK _ _ ⟨putS V 6 _, ?_, vals_put hv 6 _ rfl, by rw [stW_same _ _ _ _ _ _ _ _ (by decide) (by decide) (by decide), stW_none _ _ _ _ _ _ _ h16 h18 h20]⟩
            unfold fr putS
            simp [e5, hnz]
          · obtain rfl := Option.some.inj ho
            rw [if_pos (by rfl)]
            unfold fr
            go_simp
            refine hK _ _ ⟨putS V 7 _, ?_, vals_put hv 7 _ rfl, by rw [HW.out, stW_same _ _ _ _ _ _ _ _ (by decide) (by decide) (by decide)]⟩
            unfold fr putS
            simp [hnz]
          · obtain rfl := Option.some.inj ho
            rw [if_pos (by rfl)]
            have e7 : V 7 = .pointer (some ⟨q, 1, none⟩) := hv 7 (hall ⟨7, .data⟩ (by simp) rfl)
            have ec : W.cell? ⟨q, 1, none⟩ = some (.int .i64 y) := by rw [HW.out, stW_cell _ _ _ _ _ _ _ _ hq1]; exact p4
            unfold fr
            rw [e7]
            go_simp
            refine hK _ _ ⟨putS V 8 _, ?_, vals_put hv 8 _ rfl, by rw [HW.out, stW_same _ _ _ _ _ _ _ _ (by decide) (by decide) (by decide)]⟩
            unfold fr putS
            simp [e7, hnz]
          · obtain rfl := Option.some.inj ho
            rw [if_pos (by rfl)]
            have e6 : V 6 = .int .i64 hi := hv 6 (hall ⟨6, .data⟩ (by simp) rfl)
            have e8 : V 8 = .int .i64 y := hv 8 (hall ⟨8, .data⟩ (by simp) rfl)
            unfold fr
            rw [e6, e8]
            go_simp
            refine hK _ _ ⟨putS V 9 _, ?_, vals_put hv 9 _ rfl, by rw [HW.out, stW_same _ _ _ _ _ _ _ _ (by decide) (by decide) (by decide)]⟩
            unfold fr putS
            simp [e6, e8, hnz]
          · obtain rfl := Option.some.inj ho
            rw [if_pos (by rfl)]
            unfold fr
            go_simp
            refine hK _ _ ⟨putS V 10 _, ?_, vals_put hv 10 _ rfl, by rw [HW.out, stW_same _ _ _ _ _ _ _ _ (by decide) (by decide) (by decide)]⟩
            unfold fr putS
            simp [hnz]
          · obtain rfl := Option.some.inj ho
            rw [if_pos (by rfl)]
            have h16 : d 16 = false := no down 16 _ rfl ⟨11, .phase⟩ (by simp) rfl hd
            have h18 : d 18 = false := no down 18 _ rfl ⟨16, .chain⟩ (by simp) rfl h16
            have h20 : d 20 = false := no down 20 _ rfl ⟨18, .chain⟩ (by simp) rfl h18
            have hW := HW.out
            rw [stW_none _ _ _ _ _ _ _ h16 h18 h20] at hW
            clear HW
            subst hW
            have e10 : V 10 = .pointer (some ⟨w.heap.size + 1, 3, none⟩) := hv 10 (hall ⟨10, .data⟩ (by simp) rfl)
            unfold fr
            rw [e10]
            go_simp
            refine hK _ _ ⟨putS V 11 _, ?_, vals_put hv 11 _ rfl, by rw [stW_same _ _ _ _ _ _ _ _ (by decide) (by decide) (by decide), stW_none _ _ _ _ _ _ _ h16 h18 h20]⟩
            unfold fr putS
            simp [e10, hnz]
          · obtain rfl := Option.some.inj ho
            rw [if_pos (by rfl)]
            unfold fr
            go_simp
            refine hK _ _ ⟨putS V 12 _, ?_, vals_put hv 12 _ rfl, by rw [HW.out, stW_same _ _ _ _ _ _ _ _ (by decide) (by decide) (by decide)]⟩
            unfold fr putS
            simp [hnz]
          · obtain rfl := Option.some.inj ho
            rw [if_pos (by rfl)]
            have e12 : V 12 = .pointer (some ⟨q, 1, none⟩) := hv 12 (hall ⟨12, .data⟩ (by simp) rfl)
            have ec : W.cell? ⟨q, 1, none⟩ = some (.int .i64 y) := by rw [HW.out, stW_cell _ _ _ _ _ _ _ _ hq1]; exact p4
            unfold fr
            rw [e12]
            go_simp
            refine hK _ _ ⟨putS V 13 _, ?_, vals_put hv 13 _ rfl, by rw [HW.out, stW_same _ _ _ _ _ _ _ _ (by decide) (by decide) (by decide)]⟩
            unfold fr putS
            simp [e12, hnz]
          · obtain rfl := Option.some.inj ho
            rw [if_pos (by rfl)]
            have e11 : V 11 = .int .i64 tot := hv 11 (hall ⟨11, .data⟩ (by simp) rfl)
            have e13 : V 13 = .int .i64 y := hv 13 (hall ⟨13, .data⟩ (by simp) rfl)
            unfold fr
            rw [e11, e13]
            go_simp
            refine hK _ _ ⟨putS V 14 _, ?_, vals_put hv 14 _ rfl, by rw [HW.out, stW_same _ _ _ _ _ _ _ _ (by decide) (by decide) (by decide)]⟩
            unfold fr putS
            simp [e11, e13, hnz]
            rw [IntKind.wrap_i64, wrap64]
          · obtain rfl := Option.some.inj ho
            rw [if_pos (by rfl)]
            unfold fr
            go_simp
            refine hK _ _ ⟨putS V 15 _, ?_, vals_put hv 15 _ rfl, by rw [HW.out, stW_same _ _ _ _ _ _ _ _ (by decide) (by decide) (by decide)]⟩
            unfold fr putS
            simp [hnz]
          · obtain rfl := Option.some.inj ho
            rw [if_pos (by rfl)]
            have e15 : V 15 = .pointer (some ⟨w.heap.size + 1, 1, none⟩) := hv 15 (hall ⟨15, .data⟩ (by simp) rfl)
            have e4 : V 4 = .int .i64 (min lo y) := hv 4 (hall ⟨4, .data⟩ (by simp) rfl)
            have h18 : d 18 = false := no down 18 _ rfl ⟨16, .chain⟩ (by simp) rfl hd
            have h20 : d 20 = false := no down 20 _ rfl ⟨18, .chain⟩ (by simp) rfl h18
            have hW' : W = w4.drew := by rw [HW.out, stW_none _ _ _ _ _ _ _ hd h18 h20]
            have BB := B4.drewS
            rw [← hW'] at BB
            have qc : W.cell? ⟨w.heap.size + 1, 1, none⟩ = some (.int .i64 lo) := BB.cell 1
            have qf := BB.free 1
            have HW' := hide hW'
            clear hW'
            unfold fr
            rw [e15, e4]
            go_simp
            refine hK _ _ ⟨putS V 16 undef, ?_, vals_put hv 16 _ trivial, by rw [HW'.out]; simp [stW, h18, h20]⟩
            unfold fr putS
            simp [e15, e4, hnz]
          · obtain rfl := Option.some.inj ho
            rw [if_pos (by rfl)]
            unfold fr
            go_simp
            refine hK _ _ ⟨putS V 17 _, ?_, vals_put hv 17 _ rfl, by rw [HW.out, stW_same _ _ _ _ _ _ _ _ (by decide) (by decide) (by decide)]⟩
            unfold fr putS
            simp [hnz]
          · obtain rfl := Option.some.inj ho
            rw [if_pos (by rfl)]
            have e17 : V 17 = .pointer (some ⟨w.heap.size + 1, 2, none⟩) := hv 17 (hall ⟨17, .data⟩ (by simp) rfl)
            have e9 : V 9 = .int .i64 (max hi y) := hv 9 (hall ⟨9, .data⟩ (by simp) rfl)
            have h16 : d 16 = true := hall ⟨16, .chain⟩ (by simp) rfl
            have h20 : d 20 = false := no down 20 _ rfl ⟨18, .chain⟩ (by simp) rfl hd
            have hW' : W = w4.drew.setCell ⟨w.heap.size + 1, 1, none⟩ (.int .i64 (min lo y)) := by rw [HW.out]; simp [stW, h16, hd, h20]
            have BB := B4.drewS.set 1 (.int .i64 (min lo y))
            rw [← hW'] at BB
            have qc : W.cell? ⟨w.heap.size + 1, 2, none⟩ = some (.int .i64 hi) := BB.cell 2
            have qf := BB.free 2
            have HW' := hide hW'
            clear hW'
            unfold fr
            rw [e17, e9]
            go_simp
            refine hK _ _ ⟨putS V 18 undef, ?_, vals_put hv 18 _ trivial, by rw [HW'.out]; simp [stW, h16, h20]⟩
            unfold fr putS
            simp [e17, e9, hnz]
          · obtain rfl := Option.some.inj ho
            rw [if_pos (by rfl)]
            unfold fr
            go_simp
            refine hK _ _ ⟨putS V 19 _, ?_, vals_put hv 19 _ rfl, by rw [HW.out, stW_same _ _ _ _ _ _ _ _ (by decide) (by decide) (by decide)]⟩
            unfold fr putS
            simp [hnz]
          · obtain rfl := Option.some.inj ho
            rw [if_pos (by rfl)]
            have e19 : V 19 = .pointer (some ⟨w.heap.size + 1, 3, none⟩) := hv 19 (hall ⟨19, .data⟩ (by simp) rfl)
            have e14 : V 14 = .int .i64 (wrap64 (tot + y)) := hv 14 (hall ⟨14, .data⟩ (by simp) rfl)
            have h18 : d 18 = true := hall ⟨18, .chain⟩ (by simp) rfl
            have h16 : d 16 = true := down 18 _ rfl h18 ⟨16, .chain⟩ (by simp) rfl
            have hW' : W = (w4.drew.setCell ⟨w.heap.size + 1, 1, none⟩ (.int .i64 (min lo y))).setCell ⟨w.heap.size + 1, 2, none⟩ (.int .i64 (max hi y)) := by rw [HW.out]; simp [stW, h16, hd, h18]
            have BB := (B4.drewS.set 1 (.int .i64 (min lo y))).set 2 (.int .i64 (max hi y))
            rw [← hW'] at BB
            have qc : W.cell? ⟨w.heap.size + 1, 3, none⟩ = some (.int .i64 tot) := BB.cell 3
            have qf := BB.free 3
            have HW' := hide hW'
            clear hW'
            unfold fr
            rw [e19, e14]
            go_simp
            refine hK _ _ ⟨putS V 20 undef, ?_, vals_put hv 20 _ trivial, by rw [HW'.out]; simp [stW, h16, h18]⟩
            unfold fr putS
            simp [e19, e14, hnz]
        case fin =>
          intro d a W hd inv
          obtain ⟨V, rfl, -, hW⟩ := inv
          have hW' : W = ((w4.drew.setCell ⟨w.heap.size + 1, 1, none⟩ (.int .i64 (min lo y))).setCell ⟨w.heap.size + 1, 2, none⟩ (.int .i64 (max hi y))).setCell ⟨w.heap.size + 1, 3, none⟩ (.int .i64 (wrap64 (tot + y))) := by
            rw [hW]
            simp [stW, hd 16 (by decide), hd 18 (by decide), hd 20 (by decide)]
          have B5 := ((B4.drewS.set 1 (.int .i64 (min lo y))).set 2 (.int .i64 (max hi y))).set 3 (.int .i64 (wrap64 (tot + y)))
          have R5 := ((R4.drewS.other (g' := w.heap.size + 1) 1 (.int .i64 (min lo y)) (by omega)).other (g' := w.heap.size + 1) 2 (.int .i64 (max hi y)) (by omega)).other (g' := w.heap.size + 1) 3 (.int .i64 (wrap64 (tot + y))) (by omega)
          have bel5 : Below w.heap.size w (((w4.drew.setCell ⟨w.heap.size + 1, 1, none⟩ (.int .i64 (min lo y))).setCell ⟨w.heap.size + 1, 2, none⟩ (.int .i64 (max hi y))).setCell ⟨w.heap.size + 1, 3, none⟩ (.int .i64 (wrap64 (tot + y)))) :=
            (((belowDrew bel4).setCell (by simp) _).setCell (by simp) _).setCell (by simp) _
          rw [← hW'] at B5 R5 bel5
          clear hW hW' hd c1 c2 c3
          unfold fr
          go_wp2_with fail
          go_roundw
          case rel => exact ⟨k + 1, min lo y, max hi y, wrap64 (tot + y), by omega, by go_num, HC2, B5, R5, bel5⟩
          case measure => simp [intOf]; omega
      · obtain rfl : k = n := by omega
        have HC' := HC.out
        rw [HL.out, List.drop_length, accS, ← HL.out] at HC'
        subst HC'
        have f0' := BR.free 0
        have f1' := BR.free 1
        have f2' := BR.free 2
        have f3' := BR.free 3
        have d0 : wr.cell? ⟨w.heap.size, 0, none⟩ = some (.int .i64 0) := BR.cell 0
        have d1 : wr.cell? ⟨w.heap.size, 1, none⟩ = some (.int .i64 0) := BR.cell 1
        have d2 : wr.cell? ⟨w.heap.size, 2, none⟩ = some (.int .i64 0) := BR.cell 2
        have d3 : wr.cell? ⟨w.heap.size, 3, none⟩ = some (.int .i64 0) := BR.cell 3
        have hgl4 := BR.lt
        go_wp2_with fail
        have bel4 : Below w.heap.size w ((((wr.setCell ⟨w.heap.size, 0, none⟩ (.int .i64 k)).setCell ⟨w.heap.size, 1, none⟩ (.int .i64 lo)).setCell ⟨w.heap.size, 2, none⟩ (.int .i64 hi)).setCell ⟨w.heap.size, 3, none⟩ (.int .i64 tot)) :=
          (((bel.setCell (Nat.le_refl _) _).setCell (Nat.le_refl _) _).setCell (Nat.le_refl _) _).setCell (Nat.le_refl _) _
        have B4 := (((BR.set 0 (.int .i64 k)).set 1 (.int .i64 lo)).set 2 (.int .i64 hi)).set 3 (.int .i64 tot)
        generalize (((wr.setCell _ _).setCell _ _).setCell _ _).setCell _ _ = w5 at *
        have i0 : w5.cell? ⟨w.heap.size, 0, none⟩ = some (.int .i64 k) := B4.cell 0
        have i1 : w5.cell? ⟨w.heap.size, 1, none⟩ = some (.int .i64 lo) := B4.cell 1
        have i2 : w5.cell? ⟨w.heap.size, 2, none⟩ = some (.int .i64 hi) := B4.cell 2
        have i3 : w5.cell? ⟨w.heap.size, 3, none⟩ = some (.int .i64 tot) := B4.cell 3
        exact bodyPost_ret (v := smV ⟨k, lo, hi, tot⟩) (by simp [results, Try.results17, go_sem, i0, i1, i2, i3, smV]) rfl ⟨rfl, bel4⟩

end Go.Proofs.Ytcbhpikcnhefbab
