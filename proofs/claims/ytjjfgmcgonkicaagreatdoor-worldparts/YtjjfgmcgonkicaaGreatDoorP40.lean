/-
  world.Read: what a reader sees of a series.
-/
import Derived.Deep.Cut
import Derived.Deep.RegionHeld3
import Derived.Deep.CutRange
import Derived.Test.YtjjfgmcgonkicaaGreatDoorP38
import Derived.Test.YtjjfgmcgonkicaaGreatDoorP29
import Derived.Test.YtjjfgmcgonkicaaGreatDoorP06
import Derived.Test.YtjjfgmcgonkicaaGreatDoorP01
import Derived.Test.YtjjfgmcgonkicaaGreatDoorP39
import Derived.Test.YtjjfgmcgonkicaaGreatDoorP35
namespace Go.Proofs.YtjjfgmcgonkicaaGreatDoor
open Go.RowKit
open Go.Lib (byteCells)

/-- Points that were answered, in memory of the call's own. -/
def AnsL (W : World) (l : List Pt) (E : Int) (e : Ending) (w' : World) : Prop :=
  ∃ (a : Option Addr) (n G : Nat), e = .returned (.tuple #[.slice a n G, .int .i64 E]) ∧ Hid (n = l.length) ∧ w'.ownsRow W.heap.size 56 2 (.slice a n G) n (cellsP l) ∧ Below W.heap.size W w'

theorem ansL_nil {W w' : World} {E : Int} (b : Below W.heap.size W w') : AnsL W [] E (.returned (.tuple #[.slice none 0 0, .int .i64 E])) w' :=
  ⟨none, 0, 0, rfl, hide rfl, World.ownsRow_nil _ _ _ _, b⟩

theorem readE_cases (x : Wd) (r s : Int) :
    (wdE x ≠ 0 → readE x r s = wdE x) ∧ (wdE x = 0 → ¬ (0 ≤ r ∧ r ≤ 2) → readE x r s = 5) ∧ (wdE x = 0 → (0 ≤ r ∧ r ≤ 2) → x.rd.getD r.toNat 0 < 0 → readE x r s = 7) ∧
      (wdE x = 0 → (0 ≤ r ∧ r ≤ 2) → ¬ x.rd.getD r.toNat 0 < 0 → readE x r s = allE (replL ((recL x.d).take (x.rd.getD r.toNat 0).toNat)) s) := by
  unfold readE
  refine ⟨fun h => if_pos h, fun h k => ?_, fun h k v => ?_, fun h k v => ?_⟩
  · rw [if_neg (by simp [h]), if_pos k]
  · rw [if_neg (by simp [h]), if_neg (fun e => e k), if_pos v]
  · rw [if_neg (by simp [h]), if_neg (fun e => e k), if_neg v]

theorem readL_bad {x : Wd} {r s f t : Int} (h : readE x r s ≠ 0) : readL x r s f t = [] := if_neg h

set_option maxHeartbeats 4000000 in
set_option maxRecDepth 100000 in
theorem read_any' (x : Wd) (p : Pw) (r s f t : Int) (w : World) (hg : Gl w) (I : IsW w p x) (few : p.n1 + p.n2 ≤ 9223372036854775807) (fewS : p.sn ≤ 140737488355328) :
    Calls Tryz.prog 20 #[p.val x.up, .int .i64 r, .int .i64 s, .int .i64 f, .int .i64 t] w (AnsL w (readL x r s f t) (readE x r s)) := by
  obtain ⟨c1', c2', c3', c4'⟩ := readE_cases x r s
  have c := fun W g i => replayed_any x p W g i few fewS
  unfold AnsP at c
  obtain ⟨RE, hRE⟩ : ∃ RE, RE = readE x r s := ⟨_, rfl⟩
  obtain ⟨RL, hRL⟩ : ∃ RL, RL = readL x r s f t := ⟨_, rfl⟩
  have hbad : RE ≠ 0 → RL = [] := fun e => by rw [hRL]; exact readL_bad (by rw [← hRE]; exact e)
  rw [← hRE] at c1' c2' c3' c4' ⊢
  rw [← hRL]
  obtain ⟨es, e1, e2, er, IS, S1, S2, SR⟩ := I
  obtain ⟨U, hU⟩ : ∃ U, U = x.up := ⟨_, rfl⟩
  rw [← hU] at c ⊢
  obtain ⟨sa, sn, sG, a1, n1, c1, a2, n2, c2, ra, rn, rc⟩ := p
  simp only [Pw.val] at *
  have BX := Blk.laid w [.slice sa sn sG, .slice a1 n1 c1, .slice a2 n2 c2, .bool U, .slice ra rn rc] 30 _ rfl
  have bel := newB (Below.refl w.heap.size w) (.cells #[.slice sa sn sG, .slice a1 n1 c1, .slice a2 n2 c2, .bool U, .slice ra rn rc] 30)
  have I1 := hide (show IsW (w.alloc (.cells #[.slice sa sn sG, .slice a1 n1 c1, .slice a2 n2 c2, .bool U, .slice ra rn rc] 30)) ⟨sa, sn, sG, a1, n1, c1, a2, n2, c2, ra, rn, rc⟩ x from IsW.alloc ⟨es, e1, e2, er, IS, S1, S2, SR⟩ _)
  have gl := hg.call bel
  replace hU := hide hU
  replace hRE := hide hRE
  replace hRL := hide hRL
  have er' := hide er
  clear es e1 e2 er IS S1 S2 SR
  go_enter Tryz.func20, Tryz.ntmps20
  go_upto_region 1 with fail
  generalize World.alloc w _ = w1 at *
  have x0 := BX.cell 0
  have x1 := BX.cell 1
  have x2 := BX.cell 2
  have x3 := BX.cell 3
  have x4 := BX.cell 4
  have xl := BX.lt
  go_wp2_with fail
  go_at_call 42
  refine (c _ gl I1.out).mono ?_
  rintro e w2 ⟨a', n', G', la, ln, lG, l, rfl, hP, b2⟩
  clear x0 x1 x2 x3 x4 xl c
  have bq := newB b2 (.cells #[.slice a' n' G'] 24)
  replace BX := BX.keep bq BX.lt
  have I2 := hide (I1.out.call bq)
  have bq2 := hide (newB (Below.refl w2.heap.size w2) (.cells #[.slice a' n' G'] 24))
  replace bel := belowCall bel bq
  clear bq b2 gl I1
  by_cases hz : wdE x = 0
  · obtain ⟨rfl, _, LR, hln, hll⟩ := hP.out hz
    replace LR := LR.call bq2.out
    have hlc : ln ≤ lG := by rw [hln]; exact LR.row.le
    have hlm : lG ≤ 9223372036854775807 := LR.row.max
    replace hln := hide hln
    replace hll := hide hll
    rw [hz]
    by_cases hr : 0 ≤ r ∧ r ≤ 2
    · obtain ⟨k, rfl⟩ : ∃ k : Nat, r = k := ⟨r.toNat, by omega⟩
      rw [Int.toNat_natCast] at c3' c4'
      have hk3 : k < 3 := by omega
      obtain ⟨r1, r2, r3, r4, r5, r6⟩ := wd_right hz
      have hkl : k < x.rd.length := by omega
      have hrn : rn = 3 := by rw [er'.out]; exact r5
      have hvin : rdOk x.up (wdL x).length (x.rd.getD k 0) = true := r6 _ (by rw [List.getD_eq_getElem?_getD, List.getElem?_eq_getElem hkl]; exact List.getElem_mem hkl)
      have SRI := I2.out.r
      obtain ⟨rb, ro, rfl, hj1, hj2⟩ := SRI.row.at (by intro e; rw [List.map_eq_nil_iff] at e; rw [e] at hkl; simp at hkl)
      clear hj1 hj2
      have v0 := SRI.int k hkl
      subst hrn
      have cR := fun W => isReader_any (k : Int) W
      rw [show isRd (k : Int) = true by unfold isRd; exact decide_eq_true (by omega)] at cR
      generalize hv : x.rd.getD k 0 = v at *
      have hkI : (k : Int) < 3 := by omega
      by_cases hv0 : v < 0
      · have hE : RE = 7 := c3' hz hr hv0
        have hL : RL = [] := hbad (by rw [hE]; decide)
        have hv1 : v = -1 := by
          unfold rdOk at hvin
          simp only [Bool.and_eq_true, decide_eq_true_eq] at hvin
          omega
        subst hE hL hv1
        clear c1' c2' c3' c4' hbad hz hP hvin r1 r2 r3 r4 r5 r6 hr SRI LR
        go_upto_region 4 with fail
        generalize World.alloc w2 _ = w3 at *
        have x4 := BX.cell 4
        have xl := BX.lt
        go_wp2_with fail
        go_at_call 54
        refine (cR _).mono ?_
        rintro e w4 ⟨rfl, rfl⟩
        go_wp2_with fail
        exact bodyPost_ret (v := .tuple #[.slice none 0 0, .int .i64 7]) (by simp [results, Tryz.results20, go_sem]) rfl (ansL_nil bel)
      · have hE := c4' hz hr (by omega)
        unfold rdOk at hvin
        simp only [Bool.and_eq_true, Bool.or_eq_true, decide_eq_true_eq] at hvin
        obtain ⟨⟨_, hvn⟩, hvu⟩ := hvin
        have hup : x.up = true := hvu.elim id (fun e => absurd e hv0)
        have hwl : wdL x = recL x.d := if_pos hup
        obtain ⟨V, rfl⟩ : ∃ V : Nat, v = V := ⟨v.toNat, by omega⟩
        rw [Int.toNat_natCast] at hE
        have hVn : V ≤ ln := by rw [hln.out, ← List.length_map (f := fun q : Lrc => q.r), hll.out]; omega
        have hz2 := repl_take (wd_up hz hup).2.1 V
        obtain ⟨CX, hCX⟩ : ∃ CX, CX = replL ((recL x.d).take V) := ⟨_, rfl⟩
        have hrt := repl_right hz2
        rw [← hCX] at hE hrt
        have hRL2 : RL = rngL (allL CX s) f t := by
          by_cases h0 : RE = 0
          · rw [hRL.out]
            unfold readL
            rw [if_pos (by rw [← hRE.out]; exact h0), Int.toNat_natCast, hv, Int.toNat_natCast, ← hCX]
          · rw [hbad h0]
            have : allL CX s = [] := by
              unfold allL
              rw [if_neg (by rw [← hE]; exact h0)]
            rw [this]
            rfl
        have hTr : (l.take V).map (·.r) = (recL x.d).take V := by rw [List.map_take, hll.out, hwl]
        have hVl : Hid (V = (l.take V).length) := hide (by rw [List.length_take, ← hln.out]; omega)
        have cP := fun W S => replay_own (l.take V) la V lG 4 W S hVl (hide (by rw [hTr, ← hCX]; exact (right_len hrt).symm))
        rw [hTr, hz2, ← hCX] at cP
        have LV : SlRec (w2.alloc (.cells #[.slice a' 4 G'] 24)) la lG (l.take V) := ⟨LR.row.front Lrc.four V, fun q hq => LR.ent q (List.mem_of_mem_take hq)⟩
        have cQ := fun W (a : Option Addr) G (i : IsS W a G CX) => range_is s f t i (right_len hrt).symm
        rw [← hE, ← hRL2] at cQ
        have hVc : V ≤ lG := Nat.le_trans hVn hlc
        have hVm : (V : Int) ≤ 9223372036854775807 := by omega
        have nV : ¬ (V : Int) = -1 := by omega
        have nV2 : ((V : Int) == -1) = false := by simp
        obtain ⟨q, hq⟩ : ∃ q, q = RL.length := ⟨_, rfl⟩
        rw [← hq] at cQ
        replace hq := hide hq
        clear c1' c2' c3' c4' hbad hz hP hvn hvu hup hwl r1 r2 r3 r4 r5 r6 hr SRI LR hE hz2 hCX hrt hRL2 hTr hv hv0 hRE hRL
        go_upto_region 4 with fail
        generalize World.alloc w2 _ = w3 at *
        have x4 := BX.cell 4
        have xl := BX.lt
        go_wp2_with fail
        go_at_call 54
        refine (cR _).mono ?_
        rintro e w4 ⟨rfl, rfl⟩
        go_wp2_with fail
        go_at_call 55
        refine ((cP _ LV).mono fun _ _ h => laidX h).mono ?_
        rintro e w5 ⟨aS, GS, rfl, BS, IN, b5, hs5⟩
        clear x4 xl cP LV v0
        replace bel := belowCall bel b5
        clear b5
        go_upto_region 12 with fail
        generalize World.alloc w5 _ = w6 at *
        have s0 := BS.cell 0
        have sl := BS.lt
        go_wp2_with fail
        go_at_call 31
        refine (cQ _ _ _ IN.is).mono ?_
        rintro e w7 ⟨aQ, GQ, rfl, own, b7⟩
        have own7 := ownDown own bel.size
        replace bel := belowCall bel b7
        clear own b7 cQ IN
        go_wp2_with fail
        exact bodyPost_ret (v := .tuple #[.slice aQ q GQ, .int .i64 RE]) (by simp [results, Tryz.results20, go_sem]) rfl ⟨aQ, q, GQ, rfl, hq, own7, bel⟩
    · have hE : RE = 5 := c2' hz hr
      have hL : RL = [] := hbad (by rw [hE]; decide)
      subst hE hL
      have cR := fun W => isReader_any r W
      rw [show isRd r = false by unfold isRd; exact decide_eq_false hr] at cR
      clear c1' c2' c3' c4' hbad hz hP hr LR
      go_upto_region 4 with fail
      generalize World.alloc w2 _ = w3 at *
      go_wp2_with fail
      go_at_call 54
      refine (cR _).mono ?_
      rintro e w4 ⟨rfl, rfl⟩
      go_wp2_with fail
      exact bodyPost_ret (v := .tuple #[.slice none 0 0, .int .i64 5]) (by simp [results, Tryz.results20, go_sem]) rfl (ansL_nil bel)
  · have hE : RE = wdE x := c1' hz
    have hL : RL = [] := hbad (by rw [hE]; exact hz)
    subst hL
    replace hE := hide hE
    have hd : decide (wdE x = 0) = false := decide_eq_false hz
    clear c1' c2' c3' c4' hbad hP hRE
    generalize wdE x = E at *
    go_upto_region 3 with fail
    generalize World.alloc w2 _ = w3 at *
    go_wp2_with fail
    exact bodyPost_ret (v := .tuple #[.slice none 0 0, .int .i64 E]) (by simp [results, Tryz.results20, go_sem]) rfl (by rw [hE.out]; exact ansL_nil bel)

end Go.Proofs.YtjjfgmcgonkicaaGreatDoor

/-
  What the closed fact 'watched' reckons, as plain lists. No program is named.
-/
namespace Go.Proofs.YtjjfgmcgonkicaaGreatDoor

def hPut (t : Int) : Hp := ⟨1, 0, 0, [(1, t, 2 * t)]⟩
def wtA : List Hp := [hPut 5, ⟨5, 0, 2, []⟩, hPut 6, hPut 6, ⟨2, 1, 2, []⟩, ⟨4, 0, 9, []⟩]
def wtB : List Hp := [⟨7, 0, 0, []⟩, hPut 7, ⟨8, 0, 0, []⟩]
def wt1 : Wd := (runW wdNew wtA).1
def wt2 : Wd := (runW wt1 wtB).1

theorem wt_a : (runW wdNew wtA).2 = [0, 0, 0, 7, 0, 0] := by decide +kernel
theorem wt_b : (runW wt1 wtB).2 = [0, 7, 0] := by decide +kernel
theorem wt_c : readE wt1 2 1 = 0 ∧ readL wt1 2 1 0 100 = [(5, 10)] := by decide +kernel
theorem wt_d : readE wt1 1 1 = 7 := by decide +kernel
theorem wt_e : allE wt1.c 1 = 0 ∧ allL wt1.c 1 = [] := by decide +kernel
theorem wt_f : readE wt2 2 1 = 7 ∧ wt2.up = true := by decide +kernel
theorem wt_u : wt1.up = true := by decide +kernel
theorem wt_g : wdE wt1 = 0 ∧ wdE wt2 = 0 := by decide +kernel
theorem wt_d2 : readL wt1 1 1 0 100 = [] := by decide +kernel
theorem wt_4 : wt1.c.length = 4 := by decide +kernel
theorem wt_few : wt1.d.safe.length + wt1.d.wait.length ≤ 1000 ∧ wt1.c.length ≤ 1000 ∧ wt2.d.safe.length + wt2.d.wait.length ≤ 1000 ∧ wt2.c.length ≤ 1000 := by decide +kernel
theorem wt_f2 : readL wt2 2 1 0 100 = [] := by decide +kernel
theorem wt_u2 : wt2.up = true := by decide +kernel

end Go.Proofs.YtjjfgmcgonkicaaGreatDoor

/-
  The closure of 'watched': a batch of one point.
-/
namespace Go.Proofs.YtjjfgmcgonkicaaGreatDoor
open Go.RowKit

theorem slW_ofBlk {w : World} {g : Nat} {l : List Nt} {T : TypeId} (B : Blk w g (l.flatMap ec) T) (h : l.length ≤ 1000) : SlW ec w (some ⟨g, 0, none⟩) l.length l := by
  refine ⟨.inr ⟨g, 0, rfl, B.lt, fun i v hv => ?_⟩, Nat.le_refl _, by omega, fun h => by cases h⟩
  rw [Nat.zero_add]
  exact (B.cell i).trans hv

set_option maxRecDepth 100000 in
theorem wput_any (t : Int) (ht : t = 5 ∨ t = 6 ∨ t = 7) (w : World) : Calls Tryz.prog 41 #[.int .i64 t] w fun e w' => ∃ g, e = .returned (.agg #[.int .i64 1, .int .i64 0, .int .i64 0, .slice (some ⟨g, 0, none⟩) 1 1]) ∧ SlW ec w' (some ⟨g, 0, none⟩) 1 [(1, t, 2 * t)] ∧ Below w.heap.size w w' := by
  obtain ⟨u, hu⟩ : ∃ u, u = 2 * t := ⟨_, rfl⟩
  rw [← hu]
  have BA := Blk.laid w [.int .i64 1, .int .i64 0, .int .i64 0, .slice (some ⟨w.heap.size + 1, 0, none⟩) 1 1] 33 _ rfl
  have bel : Below w.heap.size w (w.alloc (.cells #[.int .i64 1, .int .i64 0, .int .i64 0, .slice (some ⟨w.heap.size + 1, 0, none⟩) 1 1] 33)) := (Below.refl _ _).alloc (Nat.le_refl _) _
  have hsz : (w.alloc (.cells #[.int .i64 1, .int .i64 0, .int .i64 0, .slice (some ⟨w.heap.size + 1, 0, none⟩) 1 1] 33)).heap.size = w.heap.size + 1 := by simp
  obtain ⟨w1, hw1⟩ : ∃ w1, w1 = w.alloc (.cells #[.int .i64 1, .int .i64 0, .int .i64 0, .slice (some ⟨w.heap.size + 1, 0, none⟩) 1 1] 33) := ⟨_, rfl⟩
  rw [← hw1] at BA bel hsz
  have BB := Blk.laid w1 ([(1, t, u)].flatMap ec) 84 (w.heap.size + 1) hsz.symm
  have BA2 := BA.keep (newB (Below.refl w1.heap.size w1) (.cells ([(1, t, u)].flatMap ec).toArray 84)) BA.lt
  have bel2 := newB bel (.cells ([(1, t, u)].flatMap ec).toArray 84)
  have sl := slW_ofBlk (l := [(1, t, u)]) BB (by simp)
  simp only [ec, List.flatMap_cons, List.flatMap_nil, List.append_nil] at BB BA2 bel2 sl
  obtain ⟨w2, hw2⟩ : ∃ w2, w2 = w1.alloc (.cells #[.int .i64 1, .int .i64 t, .int .i64 u] 84) := ⟨_, rfl⟩
  rw [← hw2] at BB BA2 bel2 sl
  have i0 : w2.cell? ⟨w.heap.size, 0, none⟩ = some (.int .i64 1) := BA2.cell 0
  have i1 : w2.cell? ⟨w.heap.size, 1, none⟩ = some (.int .i64 0) := BA2.cell 1
  have i2 : w2.cell? ⟨w.heap.size, 2, none⟩ = some (.int .i64 0) := BA2.cell 2
  have i3 : w2.cell? ⟨w.heap.size, 3, none⟩ = some (.slice (some ⟨w.heap.size + 1, 0, none⟩) 1 1) := BA2.cell 3
  clear BA BB BA2 bel hsz
  rcases ht with rfl | rfl | rfl
  all_goals (
    simp only [Int.reduceMul] at hu
    subst hu
    go_enter Tryz.func41, Tryz.ntmps41
    go_wp2_with fail
    rw [← hw1, ← hw2]
    exact bodyPost_ret (v := .agg #[.int .i64 1, .int .i64 0, .int .i64 0, .slice (some ⟨w.heap.size + 1, 0, none⟩) 1 1]) (by simp [results, Tryz.results41, go_sem, i0, i1, i2, i3]) rfl ⟨_, rfl, sl, bel2⟩)

end Go.Proofs.YtjjfgmcgonkicaaGreatDoor

/-
  slices.Equal, at error numbers: it returns whether the two lists are the same; it only reads.
-/
namespace Go.Proofs.YtjjfgmcgonkicaaGreatDoor
open Go.RowKit

set_option maxHeartbeats 1000000 in
set_option maxRecDepth 100000 in
theorem equalErrno (a1 a2 : Option Addr) (c1 c2 : Nat) (l m : List Int) (w : World) (r1 : Row w a1 (l.map (Value.int .i64))) (r2 : Row w a2 (m.map (Value.int .i64))) (hl : l.length ≤ 4611686018427387904) (hm : m.length ≤ 4611686018427387904) :
    Calls Tryz.prog 33 #[.slice a1 l.length c1, .slice a2 m.length c2] w fun e w' => e = .returned (.bool (decide (l = m))) ∧ ∃ q, w' = w.drewN q := by
  by_cases hnm : l.length = m.length
  · generalize hn : l.length = n at *
    have hm' := hnm.symm
    rw [hm'] at hm ⊢
    by_cases h0 : n = 0
    · subst h0
      obtain rfl := List.eq_nil_of_length_eq_zero hn
      obtain rfl := List.eq_nil_of_length_eq_zero hm'
      clear hn hm' hnm hl hm r1 r2
      go_enter Tryz.func33, Tryz.ntmps33
      go_wp2
      refine wp_loop_rounds 1 ?_
      rw [rounds_succ]
      go_wp2
      go_ret
      exact ⟨rfl, 0, rfl⟩
    obtain ⟨b1, o1, rfl, -, k1⟩ := r1.at (by intro h; simp at h; subst h; simp at hn; omega)
    obtain ⟨b2, o2, rfl, -, k2⟩ := r2.at (by intro h; simp at h; subst h; simp at hm'; omega)
    have g1 := fun k hk => intAt k1 k hk
    have g2 := fun k hk => intAt k2 k hk
    clear k1 k2 r1 r2
    have HL : Hid (l.length = n) := hn
    have HM : Hid (m.length = n) := hm'
    clear hn hm' hnm
    go_enter Tryz.func33, Tryz.ntmps33
    go_wp2
    go_loopg [13] n (fun g s13 wr => ∃ k q : Nat, k ≤ n ∧ n - k ≤ g ∧ s13 = .int .i64 k ∧ wr = w.drewN q ∧ Hid (∀ j, j < k → l.getD j 0 = m.getD j 0))
    case atStart => exact ⟨0, 0, Nat.zero_le _, by omega, rfl, rfl, fun j hj => absurd hj (Nat.not_lt_zero _)⟩
    case round =>
      obtain ⟨k, q, hk, hg, rfl, rfl, A⟩ := hrel
      by_cases hlt : k < n
      · have e1 := g1 k (by rw [HL.out]; exact hlt)
        have e2 := g2 k (by rw [HM.out]; exact hlt)
        clear g1 g2
        generalize hx : l.getD k 0 = x at e1
        generalize hy : m.getD k 0 = y at e2
        have B : Hid (l.getD k 0 = x ∧ m.getD k 0 = y) := ⟨hx, hy⟩
        clear hx hy
        cases hxy : (x == y) with
        | true =>
          obtain rfl : x = y := by simpa using hxy
          clear hxy
          go_wp2_with fail
          go_region
          all_goals go_wp2
          all_goals go_roundg (n - (k + 1))
          case measure => omega
          case rel =>
            refine ⟨k + 1, q + 1, by omega, by omega, by go_num, rfl, (show Hid _ from fun j hj => ?_)⟩
            by_cases e : j = k
            · subst e
              rw [B.out.1, B.out.2]
            · exact A.out j (by omega)
        | false =>
          go_wp2_with fail
          go_region
          all_goals go_wp2
          all_goals go_ret
          refine ⟨?_, q + 1, rfl⟩
          have hne : l ≠ m := listNe (d := 0) (k := k) (by rw [B.out.1, B.out.2]; simpa using hxy)
          simp [hne]
      · have : k = n := by omega
        subst this
        clear g1 g2
        go_wp2
        go_ret
        refine ⟨?_, q, rfl⟩
        have he : l = m := listEq (d := 0) (HL.out.trans HM.out.symm) (fun j hj => A.out j (by rw [← HL.out]; exact hj))
        simp [he]
  · have hnm' : ¬ (l.length : Int) = (m.length : Int) := by omega
    have hne : l ≠ m := fun e => hnm (by rw [e])
    clear r1 r2
    have H : Hid (l ≠ m) := hne
    clear hne
    generalize l.length = x at *
    generalize m.length = y at *
    go_enter Tryz.func33, Tryz.ntmps33
    go_wp2
    go_ret
    refine ⟨?_, 0, rfl⟩
    simp [H.out]

end Go.Proofs.YtjjfgmcgonkicaaGreatDoor

/-
  The closed fact 'watched': a reader sees what was there.
-/
namespace Go.Proofs.YtjjfgmcgonkicaaGreatDoor
open Go.RowKit
open Go.Lib (byteCells)

theorem recLaidW (w : World) (l : List Lrc) (cs : Array Value) (hc : cs.toList = l.flatMap Lrc.cells) (t : TypeId) (n : Nat) (hn : n = w.heap.size) (cap : Nat) (hl : l.length = cap) (hm : cap ≤ 9223372036854775807) : SlW Lrc.cells (w.alloc (.cells cs t)) (some ⟨n, 0, none⟩) cap l := by
  have h := Row.laid w cs.toList t n hn
  rw [Array.toArray_toList, hc] at h
  exact ⟨h, by omega, hm, fun e => by cases e⟩

theorem wt_runA (p : Pw) (g g1 g2 g3 : Nat) (W : World) (gl : Gl W) (I : IsW W p wdNew) (S : SlRec W (some ⟨g, 0, none⟩) 6 [⟨⟨1, 0, 0, [(1, 5, 10)]⟩, some ⟨g1, 0, none⟩, 1⟩, ⟨⟨5, 0, 2, []⟩, none, 0⟩, ⟨⟨1, 0, 0, [(1, 6, 12)]⟩, some ⟨g2, 0, none⟩, 1⟩, ⟨⟨1, 0, 0, [(1, 6, 12)]⟩, some ⟨g3, 0, none⟩, 1⟩, ⟨⟨2, 1, 2, []⟩, none, 0⟩, ⟨⟨4, 0, 9, []⟩, none, 0⟩]) :
    Calls Tryz.prog 32 #[p.val true, .slice (some ⟨g, 0, none⟩) 6 6] W (AnsRun W wt1 [0, 0, 0, 7, 0, 0] 0) := by
  have c := run_ok wdNew [⟨⟨1, 0, 0, [(1, 5, 10)]⟩, some ⟨g1, 0, none⟩, 1⟩, ⟨⟨5, 0, 2, []⟩, none, 0⟩, ⟨⟨1, 0, 0, [(1, 6, 12)]⟩, some ⟨g2, 0, none⟩, 1⟩, ⟨⟨1, 0, 0, [(1, 6, 12)]⟩, some ⟨g3, 0, none⟩, 1⟩, ⟨⟨2, 1, 2, []⟩, none, 0⟩, ⟨⟨4, 0, 9, []⟩, none, 0⟩] p (some ⟨g, 0, none⟩) 6 6 W gl I wd_new S (hide rfl)
  rw [if_neg (by simp)] at c
  have e : (runW wdNew wtA).1 = wt1 ∧ (runW wdNew wtA).2 = [0, 0, 0, 7, 0, 0] := ⟨rfl, wt_a⟩
  rw [← e.1, ← e.2]
  exact c

theorem wt_runB (p : Pw) (g g4 : Nat) (W : World) (gl : Gl W) (I : IsW W p wt1) (S : SlRec W (some ⟨g, 0, none⟩) 3 [⟨⟨7, 0, 0, []⟩, none, 0⟩, ⟨⟨1, 0, 0, [(1, 7, 14)]⟩, some ⟨g4, 0, none⟩, 1⟩, ⟨⟨8, 0, 0, []⟩, none, 0⟩]) :
    Calls Tryz.prog 32 #[p.val true, .slice (some ⟨g, 0, none⟩) 3 3] W (AnsRun W wt2 [0, 7, 0] 0) := by
  have c := run_ok wt1 [⟨⟨7, 0, 0, []⟩, none, 0⟩, ⟨⟨1, 0, 0, [(1, 7, 14)]⟩, some ⟨g4, 0, none⟩, 1⟩, ⟨⟨8, 0, 0, []⟩, none, 0⟩] p (some ⟨g, 0, none⟩) 3 3 W gl I wt_g.1 S (hide rfl)
  rw [if_neg (by simp), wt_u] at c
  have e : (runW wt1 wtB).1 = wt2 ∧ (runW wt1 wtB).2 = [0, 7, 0] := ⟨rfl, wt_b⟩
  rw [← e.1, ← e.2]
  exact c

theorem wt_slA (W : World) (g1 g2 g3 : Nat) (n : Nat) (hn : n = W.heap.size) (s1 : SlW ec W (some ⟨g1, 0, none⟩) 1 [(1, 5, 10)]) (s2 : SlW ec W (some ⟨g2, 0, none⟩) 1 [(1, 6, 12)]) (s3 : SlW ec W (some ⟨g3, 0, none⟩) 1 [(1, 6, 12)]) :
    SlRec (W.alloc (.cells #[.int .i64 1, .int .i64 0, .int .i64 0, .slice (some ⟨g1, 0, none⟩) 1 1, .int .i64 5, .int .i64 0, .int .i64 2, .slice none 0 0, .int .i64 1, .int .i64 0, .int .i64 0, .slice (some ⟨g2, 0, none⟩) 1 1, .int .i64 1, .int .i64 0, .int .i64 0, .slice (some ⟨g3, 0, none⟩) 1 1, .int .i64 2, .int .i64 1, .int .i64 2, .slice none 0 0, .int .i64 4, .int .i64 0, .int .i64 9, .slice none 0 0] 33)) (some ⟨n, 0, none⟩) 6 [⟨⟨1, 0, 0, [(1, 5, 10)]⟩, some ⟨g1, 0, none⟩, 1⟩, ⟨⟨5, 0, 2, []⟩, none, 0⟩, ⟨⟨1, 0, 0, [(1, 6, 12)]⟩, some ⟨g2, 0, none⟩, 1⟩, ⟨⟨1, 0, 0, [(1, 6, 12)]⟩, some ⟨g3, 0, none⟩, 1⟩, ⟨⟨2, 1, 2, []⟩, none, 0⟩, ⟨⟨4, 0, 9, []⟩, none, 0⟩] := by
  refine ⟨recLaidW W [⟨⟨1, 0, 0, [(1, 5, 10)]⟩, some ⟨g1, 0, none⟩, 1⟩, ⟨⟨5, 0, 2, []⟩, none, 0⟩, ⟨⟨1, 0, 0, [(1, 6, 12)]⟩, some ⟨g2, 0, none⟩, 1⟩, ⟨⟨1, 0, 0, [(1, 6, 12)]⟩, some ⟨g3, 0, none⟩, 1⟩, ⟨⟨2, 1, 2, []⟩, none, 0⟩, ⟨⟨4, 0, 9, []⟩, none, 0⟩] #[.int .i64 1, .int .i64 0, .int .i64 0, .slice (some ⟨g1, 0, none⟩) 1 1, .int .i64 5, .int .i64 0, .int .i64 2, .slice none 0 0, .int .i64 1, .int .i64 0, .int .i64 0, .slice (some ⟨g2, 0, none⟩) 1 1, .int .i64 1, .int .i64 0, .int .i64 0, .slice (some ⟨g3, 0, none⟩) 1 1, .int .i64 2, .int .i64 1, .int .i64 2, .slice none 0 0, .int .i64 4, .int .i64 0, .int .i64 9, .slice none 0 0] rfl 33 n hn 6 rfl (by decide), fun x hx => ?_⟩
  simp only [List.mem_cons, List.not_mem_nil, or_false] at hx
  rcases hx with rfl | rfl | rfl | rfl | rfl | rfl
  · exact s1.alloc _
  · exact SlW.ofNil ec _
  · exact s2.alloc _
  · exact s3.alloc _
  · exact SlW.ofNil ec _
  · exact SlW.ofNil ec _

theorem wt_slB (W : World) (g4 : Nat) (n : Nat) (hn : n = W.heap.size) (s1 : SlW ec W (some ⟨g4, 0, none⟩) 1 [(1, 7, 14)]) :
    SlRec (W.alloc (.cells #[.int .i64 7, .int .i64 0, .int .i64 0, .slice none 0 0, .int .i64 1, .int .i64 0, .int .i64 0, .slice (some ⟨g4, 0, none⟩) 1 1, .int .i64 8, .int .i64 0, .int .i64 0, .slice none 0 0] 33)) (some ⟨n, 0, none⟩) 3 [⟨⟨7, 0, 0, []⟩, none, 0⟩, ⟨⟨1, 0, 0, [(1, 7, 14)]⟩, some ⟨g4, 0, none⟩, 1⟩, ⟨⟨8, 0, 0, []⟩, none, 0⟩] := by
  refine ⟨recLaidW W [⟨⟨7, 0, 0, []⟩, none, 0⟩, ⟨⟨1, 0, 0, [(1, 7, 14)]⟩, some ⟨g4, 0, none⟩, 1⟩, ⟨⟨8, 0, 0, []⟩, none, 0⟩] #[.int .i64 7, .int .i64 0, .int .i64 0, .slice none 0 0, .int .i64 1, .int .i64 0, .int .i64 0, .slice (some ⟨g4, 0, none⟩) 1 1, .int .i64 8, .int .i64 0, .int .i64 0, .slice none 0 0] rfl 33 n hn 3 rfl (by decide), fun x hx => ?_⟩
  simp only [List.mem_cons, List.not_mem_nil, or_false] at hx
  rcases hx with rfl | rfl | rfl
  · exact SlW.ofNil ec _
  · exact s1.alloc _
  · exact SlW.ofNil ec _

theorem wt_read (x : Wd) (r : Int) (l : List Pt) (E : Int) (he : readE x r 1 = E) (hl : readL x r 1 0 100 = l) (u : x.up = true) (f1 : x.d.safe.length + x.d.wait.length ≤ 1000) (f2 : x.c.length ≤ 1000) (n : Nat) (hn : l.length = n) (p : Pw) (W : World) (gl : Gl W) (I : IsW W p x) :
    Calls Tryz.prog 20 #[p.val true, .int .i64 r, .int .i64 1, .int .i64 0, .int .i64 100] W fun e w' => ∃ a G, e = .returned (.tuple #[.slice a n G, .int .i64 E]) ∧ SlP w' a G l ∧ Below W.heap.size W w' := by
  have c := read_any' x p r 1 0 100 W gl I (by rw [I.e1, I.e2]; omega) (by rw [I.es]; omega)
  rw [he, hl, u] at c
  refine c.mono ?_
  rintro e w' ⟨a, m, G, rfl, hm, o, b⟩
  have hm' := hm.out
  subst hm'
  subst hn
  obtain ⟨ao, cap, e, s, _, _⟩ := SlP.ofOwn o
  simp only [Value.slice.injEq] at e
  obtain ⟨rfl, _, rfl⟩ := e
  exact ⟨a, G, rfl, s, b⟩

theorem wt_all (a : Option Addr) (G : Nat) (W : World) (I : IsS W a G wt1.c) :
    Calls Tryz.prog 35 #[.agg #[.slice a 4 G], .int .i64 1] W fun e w' => ∃ a' G', e = .returned (.tuple #[.slice a' 0 G', .int .i64 0]) ∧ Below W.heap.size W w' := by
  have c := all_is 1 I
  rw [wt_4, wt_e.1, wt_e.2] at c
  refine c.mono ?_
  rintro e w' ⟨a', G', rfl, _, b⟩
  exact ⟨a', G', rfl, b⟩

theorem IsW.boxW {w w' : World} {g : Nat} {p : Pw} {x : Wd} {t : TypeId} {a1 a2 a3 a4 : Option Addr} {n1 n2 n3 n4 c1 c2 c3 c4 : Nat} {u : Bool} (k : IsW w p x) (hz : shelfE x.c = 0) (B : Blk w g [.slice a1 n1 c1, .slice a2 n2 c2, .slice a3 n3 c3, .bool u, .slice a4 n4 c4] t) (hg : w.grownBy w' (some g)) : IsW w' p x :=
  ⟨k.es, k.e1, k.e2, k.er, (IsSO.boxW (IsS.old k.s (P := fun _ => False) (fun _ h => h.elim)) hz B hg).is, slU_off k.s1 B (by simp) hg, slU_off k.s2 B (by simp) hg, slI_off k.r B (by simp) hg⟩

theorem gbPut5 {w : World} {g : Nat} (u0 u1 u2 u3 u4 : Value) : w.grownBy (((((w.setCell ⟨g, 0, none⟩ u0).setCell ⟨g, 1, none⟩ u1).setCell ⟨g, 2, none⟩ u2).setCell ⟨g, 3, none⟩ u3).setCell ⟨g, 4, none⟩ u4) (some g) :=
  grownSet (grownSet (grownSet (grownSet (grownSet ⟨rfl, rfl, rfl, Nat.le_refl _, fun _ _ _ => rfl⟩ 0 u0) 1 u1) 2 u2) 3 u3) 4 u4

theorem wt_eq (l : List Int) (n : Nat) (hn : l.length = n) (hb : n ≤ 1000) (a b : Option Addr) (c d : Nat) (W : World) (r1 : Row W a (l.map (Value.int .i64))) (r2 : Row W b (l.map (Value.int .i64))) :
    Calls Tryz.prog 33 #[.slice a n c, .slice b n d] W fun e w' => e = .returned (.bool true) ∧ Below W.heap.size W w' := by
  have k := equalErrno a b c d l l W r1 r2 (by omega) (by omega)
  rw [hn] at k
  refine k.mono ?_
  rintro e w' ⟨rfl, q, rfl⟩
  exact ⟨by simp, belowDrewN (Below.refl _ _) q⟩

theorem wt_eqP (a b : Option Addr) (c d : Nat) (W : World) (r1 : SlP W a c [(5, 10)]) (r2 : SlP W b d [(5, 10)]) :
    Calls Tryz.prog 24 #[.slice a 1 c, .slice b 1 d] W fun e w' => e = .returned (.bool true) ∧ Below W.heap.size W w' := by
  have k := equalPt a b c d [(5, 10)] [(5, 10)] W r1 r2 (by decide) (by decide)
  refine k.mono ?_
  rintro e w' ⟨rfl, q, rfl⟩
  exact ⟨by simp, belowDrewN (Below.refl _ _) q⟩

theorem wt_rowL (W : World) (l : List Int) (cs : Array Value) (hc : cs.toList = l.map (Value.int .i64)) (t : TypeId) : Row (W.alloc (.cells cs t)) (some ⟨W.heap.size, 0, none⟩) (l.map (Value.int .i64)) := by
  have h := Row.laid W cs.toList t W.heap.size rfl
  rw [Array.toArray_toList, hc] at h
  exact h

/-- Behind the second script. -/
structure WtE (w W : World) (gW : Nat) (ss : Option Addr) (sG : Nat) (ra : Option Addr) (rG : Nat) (s11 : Value) : Prop where
  ex : ∃ (q : Pw) (ts : Option Addr) (tG : Nat), s11 = .slice ts 3 tG ∧ Blk W gW (q.cells true) 30 ∧ IsW W q wt2 ∧ Sl W ss sG (([0, 0, 0, 7, 0, 0] : List Int).map (Value.int .i64)) ∧ SlP W ra rG [(5, 10)] ∧ Sl W ts tG (([0, 7, 0] : List Int).map (Value.int .i64)) ∧ Below w.heap.size w W

theorem wt_end {w W : World} {gW : Nat} {ss : Option Addr} {sG : Nat} {ra : Option Addr} {rG : Nat} {a1 a2 a3 a4 : Option Addr} {n1 n2 n3 n4 c1 c2 c3 c4 : Nat} {u : Bool} (B : Blk W gW [.slice a1 n1 c1, .slice a2 n2 c2, .slice a3 n3 c3, .bool u, .slice a4 n4 c4] 30) (hw : w.heap.size ≤ gW)
    (sa : Option Addr) (sn sH : Nat) (b1 : Option Addr) (m1 k1 : Nat) (b2 : Option Addr) (m2 k2 : Nat) (rb : Option Addr) (rm rk : Nat) (ts : Option Addr) (tG : Nat) (I : IsW W ⟨sa, sn, sH, b1, m1, k1, b2, m2, k2, rb, rm, rk⟩ wt2) (RS : Sl W ss sG (([0, 0, 0, 7, 0, 0] : List Int).map (Value.int .i64))) (RP : SlP W ra rG [(5, 10)]) (RT : Sl W ts tG (([0, 7, 0] : List Int).map (Value.int .i64))) (bel : Below w.heap.size w W) :
    WtE w (((((W.setCell ⟨gW, 0, none⟩ (.slice sa sn sH)).setCell ⟨gW, 1, none⟩ (.slice b1 m1 k1)).setCell ⟨gW, 2, none⟩ (.slice b2 m2 k2)).setCell ⟨gW, 3, none⟩ (.bool true)).setCell ⟨gW, 4, none⟩ (.slice rb rm rk)) gW ss sG ra rG (.slice ts 3 tG) := by
  have g5 := gbPut5 (w := W) (g := gW) (.slice sa sn sH) (.slice b1 m1 k1) (.slice b2 m2 k2) (.bool true) (.slice rb rm rk)
  exact ⟨_, ts, tG, rfl, put5r B _ _ _ _ _, I.boxW (right_shelf wt_g.2) B g5, slI_off RS B (by simp) g5, RP.off g5 (RP.row.offKind B (i := 0) (v := .int .i64 5) rfl (by simp)), slI_off RT B (by simp) g5, below5r bel hw _ _ _ _ _⟩

set_option maxHeartbeats 4000000 in
set_option maxRecDepth 100000 in
theorem watched_any (w : World) (hg : Gl w) : Calls Tryz.prog 13 #[] w fun e w' => e = .returned (.bool true) ∧ Below w.heap.size w w' := by
  go_enter Tryz.func13, Tryz.ntmps13
  go_wp2_with fail
  go_at_call 17
  refine (newW_any _).mono ?_
  rintro e w1 ⟨p, rfl, I, b1⟩
  go_wp2_with fail
  go_at_call 41
  refine (wput_any 5 (by simp) _).mono ?_
  rintro e w2 ⟨g1, rfl, s1, b2⟩
  replace I := I.call b2
  replace b1 := belowCall b1 b2
  clear b2
  go_wp2_with fail
  go_at_call 41
  refine (wput_any 6 (by simp) _).mono ?_
  rintro e w3 ⟨g2, rfl, s2, b2⟩
  replace I := I.call b2
  replace s1 := s1.call b2
  replace b1 := belowCall b1 b2
  clear b2
  go_wp2_with fail
  go_at_call 41
  refine (wput_any 6 (by simp) _).mono ?_
  rintro e w4 ⟨g3, rfl, s3, b2⟩
  replace I := I.call b2
  replace s1 := s1.call b2
  replace s2 := s2.call b2
  replace b1 := belowCall b1 b2
  clear b2
  have S := wt_slA w4 g1 g2 g3 _ rfl s1 s2 s3
  replace I := I.alloc (.cells #[.int .i64 1, .int .i64 0, .int .i64 0, .slice (some ⟨g1, 0, none⟩) 1 1, .int .i64 5, .int .i64 0, .int .i64 2, .slice none 0 0, .int .i64 1, .int .i64 0, .int .i64 0, .slice (some ⟨g2, 0, none⟩) 1 1, .int .i64 1, .int .i64 0, .int .i64 0, .slice (some ⟨g3, 0, none⟩) 1 1, .int .i64 2, .int .i64 1, .int .i64 2, .slice none 0 0, .int .i64 4, .int .i64 0, .int .i64 9, .slice none 0 0] 33)
  have bel := newB b1 (.cells #[.int .i64 1, .int .i64 0, .int .i64 0, .slice (some ⟨g1, 0, none⟩) 1 1, .int .i64 5, .int .i64 0, .int .i64 2, .slice none 0 0, .int .i64 1, .int .i64 0, .int .i64 0, .slice (some ⟨g2, 0, none⟩) 1 1, .int .i64 1, .int .i64 0, .int .i64 0, .slice (some ⟨g3, 0, none⟩) 1 1, .int .i64 2, .int .i64 1, .int .i64 2, .slice none 0 0, .int .i64 4, .int .i64 0, .int .i64 9, .slice none 0 0] 33)
  have gl := hg.call bel
  clear b1 s1 s2 s3
  go_wp2_with fail
  go_at_call 32
  refine (wt_runA p _ g1 g2 g3 _ gl I S).mono ?_
  rintro e w5 ⟨q, ss, sn, sG, rfl, I5, hsn, RS, b5⟩
  clear I S gl
  have hsz5 := bel.size
  have b5s := b5.size
  rw [wt_u]
  obtain ⟨sa, un, uG, a1, n1, c1, a2, n2, c2, ra, rn, rc⟩ := q
  simp only [Pw.val] at *
  have BW := Blk.laid w5 [.slice sa un uG, .slice a1 n1 c1, .slice a2 n2 c2, .bool true, .slice ra rn rc] 30 _ rfl
  have bq := newB b5 (.cells #[.slice sa un uG, .slice a1 n1 c1, .slice a2 n2 c2, .bool true, .slice ra rn rc] 30)
  replace bel := belowCall bel bq
  replace I5 := I5.alloc (.cells #[.slice sa un uG, .slice a1 n1 c1, .slice a2 n2 c2, .bool true, .slice ra rn rc] 30)
  replace RS := RS.alloc (.cells #[.slice sa un uG, .slice a1 n1 c1, .slice a2 n2 c2, .bool true, .slice ra rn rc] 30)
  obtain rfl : un = 4 := I5.es.trans wt_4
  have cR1 := wt_read wt1 2 [(5, 10)] 0 wt_c.1 wt_c.2 wt_u wt_few.1 wt_few.2.1 1 rfl ⟨sa, 4, uG, a1, n1, c1, a2, n2, c2, ra, rn, rc⟩
  have cR2 := wt_read wt1 1 [] 7 wt_d wt_d2 wt_u wt_few.1 wt_few.2.1 0 rfl ⟨sa, 4, uG, a1, n1, c1, a2, n2, c2, ra, rn, rc⟩
  simp only [Pw.val] at cR1 cR2
  have cA := wt_all sa uG
  clear b5 bq
  go_upto_region 3 with fail
  have hgW : w.heap.size ≤ w5.heap.size := Nat.le_of_lt_succ (Nat.lt_of_le_of_lt (Nat.le_trans hsz5 b5s) (Nat.lt_succ_self _))
  generalize w5.heap.size = gW at *
  generalize World.alloc w5 _ = v at *
  have x0 := BW.cell 0
  have x1 := BW.cell 1
  have x2 := BW.cell 2
  have x3 := BW.cell 3
  have x4 := BW.cell 4
  have xl := BW.lt
  go_wp2_with fail
  go_at_call 20
  refine (cR1 _ (hg.call bel) I5).mono ?_
  rintro e v2 ⟨ra1, rG1, rfl, RP, b⟩
  clear x0 x1 x2 x3 x4 xl
  replace BW := BW.keep b BW.lt
  replace I5 := I5.call b
  replace RS := RS.call b
  replace bel := belowCall bel b
  clear b
  have x0 := BW.cell 0
  have x1 := BW.cell 1
  have x2 := BW.cell 2
  have x3 := BW.cell 3
  have x4 := BW.cell 4
  have xl := BW.lt
  go_wp2_with fail
  go_at_call 20
  refine (cR2 _ (hg.call bel) I5).mono ?_
  rintro e v3 ⟨ra2, rG2, rfl, _, b⟩
  replace RP := RP.call b
  clear x0 x1 x2 x3 x4 xl
  replace BW := BW.keep b BW.lt
  replace I5 := I5.call b
  replace RS := RS.call b
  replace bel := belowCall bel b
  clear b
  have x0 := BW.cell 0
  have x1 := BW.cell 1
  have x2 := BW.cell 2
  have x3 := BW.cell 3
  have x4 := BW.cell 4
  have xl := BW.lt
  go_wp2_with fail
  go_at_call 35
  refine (cA _ I5.s).mono ?_
  rintro e v4 ⟨ra3, rG3, rfl, b⟩
  replace RP := RP.call b
  clear x0 x1 x2 x3 x4 xl
  replace BW := BW.keep b BW.lt
  replace RS := RS.call b
  replace I5 := I5.call b
  replace bel := belowCall bel b
  clear b cR1 cR2 cA
  go_upto_region 6 with fail
  generalize v4 = V at *
  have k0 : Below V.heap.size V V.drew := belowDrew (Below.refl _ _)
  have kP : ∀ W, Below V.heap.size V W → Calls Tryz.prog 41 #[.int .i64 7] W fun e w' => ∃ g, e = .returned (.agg #[.int .i64 1, .int .i64 0, .int .i64 0, .slice (some ⟨g, 0, none⟩) 1 1]) ∧ w'.cell? ⟨gW, 0, none⟩ = some (.slice sa 4 uG) ∧ w'.cell? ⟨gW, 1, none⟩ = some (.slice a1 n1 c1) ∧ w'.cell? ⟨gW, 2, none⟩ = some (.slice a2 n2 c2) ∧ w'.cell? ⟨gW, 3, none⟩ = some (.bool true) ∧ w'.cell? ⟨gW, 4, none⟩ = some (.slice ra rn rc) ∧ gW < w'.heap.size ∧ Hid (SlW ec w' (some ⟨g, 0, none⟩) 1 [(1, 7, 14)] ∧ Below V.heap.size V w') := by
    intro W h
    refine (wput_any 7 (by simp) W).mono ?_
    rintro e w' ⟨g, rfl, s, b⟩
    have bb := belowCall h b
    have B := BW.keep bb BW.lt
    exact ⟨g, rfl, B.cell 0, B.cell 1, B.cell 2, B.cell 3, B.cell 4, B.lt, hide ⟨s, bb⟩⟩
  have kR : ∀ g W, Hid (SlW ec W (some ⟨g, 0, none⟩) 1 [(1, 7, 14)] ∧ Below V.heap.size V W) → Calls Tryz.prog 32 #[.agg #[.slice sa 4 uG, .slice a1 n1 c1, .slice a2 n2 c2, .bool true, .slice ra rn rc], .slice (some ⟨W.heap.size, 0, none⟩) 3 3] (W.alloc (.cells #[.int .i64 7, .int .i64 0, .int .i64 0, .slice none 0 0, .int .i64 1, .int .i64 0, .int .i64 0, .slice (some ⟨g, 0, none⟩) 1 1, .int .i64 8, .int .i64 0, .int .i64 0, .slice none 0 0] 33)) fun e w' => ∃ (sb : Option Addr) (sm sH : Nat) (b1 : Option Addr) (m1 k1 : Nat) (b2 : Option Addr) (m2 k2 : Nat) (rb : Option Addr) (rm rk : Nat) (ts : Option Addr) (tG : Nat), e = .returned (.tuple #[.agg #[.slice sb sm sH, .slice b1 m1 k1, .slice b2 m2 k2, .bool true, .slice rb rm rk], .slice ts 3 tG, .int .i64 0]) ∧ Blk w' gW [.slice sa 4 uG, .slice a1 n1 c1, .slice a2 n2 c2, .bool true, .slice ra rn rc] 30 ∧ Hid (WtE w (((((w'.setCell ⟨gW, 0, none⟩ (.slice sb sm sH)).setCell ⟨gW, 1, none⟩ (.slice b1 m1 k1)).setCell ⟨gW, 2, none⟩ (.slice b2 m2 k2)).setCell ⟨gW, 3, none⟩ (.bool true)).setCell ⟨gW, 4, none⟩ (.slice rb rm rk)) gW ss sG ra1 rG1 (.slice ts 3 tG)) := by
    intro g W hh
    have S := wt_slB W g _ rfl hh.out.1
    have bb := newB hh.out.2 (.cells #[.int .i64 7, .int .i64 0, .int .i64 0, .slice none 0 0, .int .i64 1, .int .i64 0, .int .i64 0, .slice (some ⟨g, 0, none⟩) 1 1, .int .i64 8, .int .i64 0, .int .i64 0, .slice none 0 0] 33)
    refine (wt_runB ⟨sa, 4, uG, a1, n1, c1, a2, n2, c2, ra, rn, rc⟩ _ g _ ((hg.call bel).call bb) (I5.call bb) S).mono ?_
    rintro e w' ⟨q, ts, tn, tG, rfl, I6, htn, RT, b6⟩
    have bc := belowCall bb b6
    have hn3 : tn = 3 := htn.out
    subst hn3
    rw [wt_u2]
    obtain ⟨sb, sm, sH, b1, m1, k1, b2, m2, k2, rb, rm, rk⟩ := q
    have B := BW.keep bc BW.lt
    exact ⟨_, _, _, _, _, _, _, _, _, _, _, _, ts, tG, rfl, B, hide (wt_end B hgW _ _ _ _ _ _ _ _ _ _ _ _ ts tG I6 (RS.call bc) (RP.call bc) RT (belowCall bel bc))⟩
  have x0 := BW.cell 0
  have x1 := BW.cell 1
  have x2 := BW.cell 2
  have x3 := BW.cell 3
  have x4 := BW.cell 4
  have xl := BW.lt
  replace BW := hide BW
  replace I5 := hide I5
  replace RS := hide RS
  replace RP := hide RP
  replace bel := hide bel
  go_cut [11, 12] from 47 to 57 (fun s11 s12 wx => s12 = .int .i64 0 ∧ Hid (WtE w wx gW ss sG ra1 rG1 s11))
  case first =>
    go_region_with
      (first
        | (go_at_call 41; refine (kP _ k0).mono ?_; rintro e wA ⟨g4, rfl, y0, y1, y2, y3, y4, yl, zA⟩)
        | (go_at_call 32; refine (kR _ _ zA).mono ?_; rintro e wB ⟨sb, sm, sH, b1, m1, k1, b2, m2, k2, rb, rm, rk, ts, tG, rfl, BB, hE⟩; have z0 := BB.cell 0; have z1 := BB.cell 1; have z2 := BB.cell 2; have z3 := BB.cell 3; have z4 := BB.cell 4; have f0 := BB.free 0; have f1 := BB.free 1; have f2 := BB.free 2; have f3 := BB.free 3; have f4 := BB.free 4; have zl := BB.lt; clear BB))
    all_goals (
      go_wp2_with fail
      go_meet
      case rel => exact ⟨rfl, hE⟩)
  case rest =>
    obtain ⟨rfl, hE⟩ := hcut
    obtain ⟨q, ts, tG, rfl, BW2, I6, RS2, RP2, RT, bel2⟩ := hE.out.ex
    clear hE kP kR k0 x0 x1 x2 x3 x4 xl BW I5 RS RP bel
    obtain ⟨sb, sm, sH, b1, m1, k1, b2, m2, k2, rb, rm, rk⟩ := q
    simp only [Pw.cells] at BW2
    have cR3 := wt_read wt2 2 [] 7 wt_f.1 wt_f2 wt_u2 wt_few.2.2.1 wt_few.2.2.2 0 rfl ⟨sb, sm, sH, b1, m1, k1, b2, m2, k2, rb, rm, rk⟩
    simp only [Pw.val] at cR3
    have x0 := BW2.cell 0
    have x1 := BW2.cell 1
    have x2 := BW2.cell 2
    have x3 := BW2.cell 3
    have x4 := BW2.cell 4
    have xl := BW2.lt
    go_wp2_with fail
    go_at_call 20
    refine (cR3 _ (hg.call bel2) I6).mono ?_
    rintro e v5 ⟨ra4, rG4, rfl, _, b⟩
    clear x0 x1 x2 x3 x4 xl
    replace BW2 := BW2.keep b BW2.lt
    replace RS2 := RS2.call b
    replace RP2 := RP2.call b
    replace RT := RT.call b
    replace bel2 := belowCall bel2 b
    clear b I6 cR3
    have x0 := BW2.cell 0
    have x1 := BW2.cell 1
    have x2 := BW2.cell 2
    have x3 := BW2.cell 3
    have x4 := BW2.cell 4
    have xl := BW2.lt
    have hsn6 : sn = 6 := hsn.out
    subst hsn6
    go_wp2_with fail
    go_at_call 33
    have bn := newB (Below.refl v5.heap.size v5) (.cells #[.int .i64 0, .int .i64 0, .int .i64 0, .int .i64 7, .int .i64 0, .int .i64 0] 34)
    refine (wt_eq [0, 0, 0, 7, 0, 0] 6 rfl (by decide) _ _ _ _ _ (RS2.call bn).row (wt_rowL v5 [0, 0, 0, 7, 0, 0] _ rfl _)).mono ?_
    rintro e v6 ⟨rfl, b6⟩
    have b := belowCall bn b6
    clear bn b6
    clear x0 x1 x2 x3 x4 xl
    replace BW2 := BW2.keep b BW2.lt
    replace RS2 := RS2.call b
    replace RP2 := RP2.call b
    replace RT := RT.call b
    replace bel2 := belowCall bel2 b
    clear b
    have x0 := BW2.cell 0
    have x1 := BW2.cell 1
    have x2 := BW2.cell 2
    have x3 := BW2.cell 3
    have x4 := BW2.cell 4
    have xl := BW2.lt
    go_wp2_with fail
    go_at_call 33
    have bn := newB (Below.refl v6.heap.size v6) (.cells #[.int .i64 0, .int .i64 7, .int .i64 0] 34)
    refine (wt_eq [0, 7, 0] 3 rfl (by decide) _ _ _ _ _ (RT.call bn).row (wt_rowL v6 [0, 7, 0] _ rfl _)).mono ?_
    rintro e v7 ⟨rfl, b6⟩
    have b := belowCall bn b6
    clear bn b6
    clear x0 x1 x2 x3 x4 xl
    replace BW2 := BW2.keep b BW2.lt
    replace RS2 := RS2.call b
    replace RP2 := RP2.call b
    replace RT := RT.call b
    replace bel2 := belowCall bel2 b
    clear b
    have x0 := BW2.cell 0
    have x1 := BW2.cell 1
    have x2 := BW2.cell 2
    have x3 := BW2.cell 3
    have x4 := BW2.cell 4
    have xl := BW2.lt
    go_wp2_with fail
    go_at_call 24
    have bn := newB (Below.refl v7.heap.size v7) (.cells #[.int .i64 5, .int .i64 10] 56)
    refine (wt_eqP _ _ _ _ _ (RP2.call bn) (SlP.laid v7 [(5, 10)] _ rfl _ _ rfl 1 rfl (by decide))).mono ?_
    rintro e v8 ⟨rfl, b6⟩
    have b := belowCall bn b6
    clear bn b6
    clear x0 x1 x2 x3 x4 xl
    replace BW2 := BW2.keep b BW2.lt
    replace RS2 := RS2.call b
    replace RP2 := RP2.call b
    replace RT := RT.call b
    replace bel2 := belowCall bel2 b
    clear b
    have x0 := BW2.cell 0
    have x1 := BW2.cell 1
    have x2 := BW2.cell 2
    have x3 := BW2.cell 3
    have x4 := BW2.cell 4
    have xl := BW2.lt
    go_wp2_with fail
    go_ret
    exact ⟨rfl, bel2⟩

end Go.Proofs.YtjjfgmcgonkicaaGreatDoor

/-
  world.Do.
-/
namespace Go.Proofs.YtjjfgmcgonkicaaGreatDoor
open Go.RowKit
open Go.Lib (byteCells)

set_option maxHeartbeats 4000000 in
set_option maxRecDepth 100000 in
theorem do_bad (x : Wd) (y : Hp) (p : Pw) (ea : Option Addr) (en eC : Nat) (w : World) (hg : Gl w) (I : IsW w p x) (few : p.n1 + p.n2 ≤ 9223372036854775807) (fewS : p.sn ≤ 140737488355328) (h : wdE x ≠ 0) :
    Calls Tryz.prog 11 #[p.val x.up, .agg #[.int .i64 y.k, .int .i64 y.s, .int .i64 y.n, .slice ea en eC]] w (AnsW w wd0 (wdE x)) := by
  have c := fun W g i => copyOf_bad x p W g i few fewS h
  have hd : decide (wdE x = 0) = false := decide_eq_false h
  generalize wdE x = E at *
  obtain ⟨C, D, up, rd⟩ := x
  obtain ⟨sa, sn, sG, a1, n1, c1, a2, n2, c2, ra, rn, rc⟩ := p
  simp only [Pw.val, pw0] at *
  have BX := ((Blk.laid w [.slice sa sn sG, .slice a1 n1 c1, .slice a2 n2 c2, .bool up, .slice ra rn rc] 30 _ rfl).alc (.cells #[.int .i64 y.k, .int .i64 y.s, .int .i64 y.n, .slice ea en eC] 33)).alc (.cells #[.slice none 0 0, .slice none 0 0, .slice none 0 0, .bool false, .slice none 0 0] 30)
  have BR := Blk.laid ((w.alloc (.cells #[.slice sa sn sG, .slice a1 n1 c1, .slice a2 n2 c2, .bool up, .slice ra rn rc] 30)).alloc (.cells #[.int .i64 y.k, .int .i64 y.s, .int .i64 y.n, .slice ea en eC] 33)) [.slice none 0 0, .slice none 0 0, .slice none 0 0, .bool false, .slice none 0 0] 30 (w.heap.size + 2) (by simp)
  have bel := below3 w (.cells #[.slice sa sn sG, .slice a1 n1 c1, .slice a2 n2 c2, .bool up, .slice ra rn rc] 30) (.cells #[.int .i64 y.k, .int .i64 y.s, .int .i64 y.n, .slice ea en eC] 33) (.cells #[.slice none 0 0, .slice none 0 0, .slice none 0 0, .bool false, .slice none 0 0] 30)
  replace I := hide (I.keep bel (Nat.le_refl _))
  have gl := hg.call bel
  have hgR : w.heap.size ≤ w.heap.size + 2 := Nat.le_add_right _ _
  go_enter Tryz.func11, Tryz.ntmps11
  go_upto_region 1 with fail
  generalize World.alloc (World.alloc (World.alloc w _) _) _ = w1 at *
  have x0 := BX.cell 0
  have x1 := BX.cell 1
  have x2 := BX.cell 2
  have x3 := BX.cell 3
  have x4 := BX.cell 4
  have xl := BX.lt
  go_wp2_with fail
  go_at_call 36
  refine (c _ gl I.out).mono ?_
  rintro e w2 ⟨rfl, b2⟩
  clear c x0 x1 x2 x3 x4 xl BX I gl
  have bq := newB b2 (.cells #[.slice none 0 0, .slice none 0 0, .slice none 0 0, .bool false, .slice none 0 0] 30)
  replace BR := BR.keep bq BR.lt
  replace bel := belowCall bel bq
  clear bq b2
  go_upto_region 3 with fail
  generalize World.alloc w2 _ = w3 at *
  have r0 := BR.cell 0
  have r1 := BR.cell 1
  have r2 := BR.cell 2
  have r3 := BR.cell 3
  have r4 := BR.cell 4
  have f0 := BR.free 0
  have f1 := BR.free 1
  have f2 := BR.free 2
  have f3 := BR.free 3
  have f4 := BR.free 4
  have rl := BR.lt
  have B9 := put5r BR (.slice none 0 0) (.slice none 0 0) (.slice none 0 0) (.bool false) (.slice none 0 0)
  have bel9 := below5r bel hgR (.slice none 0 0) (.slice none 0 0) (.slice none 0 0) (.bool false) (.slice none 0 0)
  have i0 := B9.cell 0
  have i1 := B9.cell 1
  have i2 := B9.cell 2
  have i3 := B9.cell 3
  have i4 := B9.cell 4
  clear B9
  go_wp2_with fail
  exact bodyPost_ret (v := .tuple #[.agg #[.slice none 0 0, .slice none 0 0, .slice none 0 0, .bool false, .slice none 0 0], .int .i64 E]) (by simp [results, Tryz.results11, go_sem, i0, i1, i2, i3, i4]) rfl ⟨pw0, rfl, IsW.nil _, bel9⟩

set_option maxHeartbeats 8000000 in
set_option maxRecDepth 100000 in
theorem do_ok (x : Wd) (y : Hp) (p : Pw) (ea : Option Addr) (en eC : Nat) (w : World) (hg : Gl w) (I : IsW w p x) (h : wdE x = 0) (s3 : SlW ec w ea eC y.e) (h3 : Hid (en = y.e.length)) :
    Calls Tryz.prog 11 #[p.val x.up, .agg #[.int .i64 y.k, .int .i64 y.s, .int .i64 y.n, .slice ea en eC]] w (AnsW w (hapW x y) (hapE x y)) := by
  have c := fun W g i => copyOf_ok x p W g i h
  unfold AnsC at c
  have hRt := hide (fun e : hapE x y = 0 => hap_right h e)
  have hW0 : Hid (hapE x y ≠ 0 → hapW x y = wd0) := hide (fun e => if_pos e)
  obtain ⟨HE, hHE⟩ : ∃ HE, HE = hapE x y := ⟨_, rfl⟩
  obtain ⟨Z, hZ⟩ : ∃ Z, Z = hapW x y := ⟨_, rfl⟩
  have cH := fun V g h' p' ys' B gl s => happen_any (Q := fun _ => False) y g h' p' ys' x V B (fun _ h => h.elim) gl ea en eC s h3
  rw [← hHE, ← hZ] at cH hRt hW0 ⊢
  replace hHE := hide hHE
  replace hZ := hide hZ
  obtain ⟨K, S, N, L⟩ := y
  simp only at *
  obtain ⟨U, hU⟩ : ∃ U, U = x.up := ⟨_, rfl⟩
  rw [← hU] at c ⊢
  replace hU := hide hU
  obtain ⟨sa, sn, sG, a1, n1, c1, a2, n2, c2, ra, rn, rc⟩ := p
  simp only [Pw.val] at *
  have BX := ((Blk.laid w [.slice sa sn sG, .slice a1 n1 c1, .slice a2 n2 c2, .bool U, .slice ra rn rc] 30 _ rfl).alc (.cells #[.int .i64 K, .int .i64 S, .int .i64 N, .slice ea en eC] 33)).alc (.cells #[.slice none 0 0, .slice none 0 0, .slice none 0 0, .bool false, .slice none 0 0] 30)
  have BY := (Blk.laid (w.alloc (.cells #[.slice sa sn sG, .slice a1 n1 c1, .slice a2 n2 c2, .bool U, .slice ra rn rc] 30)) [.int .i64 K, .int .i64 S, .int .i64 N, .slice ea en eC] 33 (w.heap.size + 1) (by simp)).alc (.cells #[.slice none 0 0, .slice none 0 0, .slice none 0 0, .bool false, .slice none 0 0] 30)
  have BR := Blk.laid ((w.alloc (.cells #[.slice sa sn sG, .slice a1 n1 c1, .slice a2 n2 c2, .bool U, .slice ra rn rc] 30)).alloc (.cells #[.int .i64 K, .int .i64 S, .int .i64 N, .slice ea en eC] 33)) [.slice none 0 0, .slice none 0 0, .slice none 0 0, .bool false, .slice none 0 0] 30 (w.heap.size + 1 + 1) (by simp)
  have bel := below3 w (.cells #[.slice sa sn sG, .slice a1 n1 c1, .slice a2 n2 c2, .bool U, .slice ra rn rc] 30) (.cells #[.int .i64 K, .int .i64 S, .int .i64 N, .slice ea en eC] 33) (.cells #[.slice none 0 0, .slice none 0 0, .slice none 0 0, .bool false, .slice none 0 0] 30)
  replace I := hide (I.keep bel (Nat.le_refl _))
  replace s3 := s3.keep bel (Nat.le_refl _)
  have gl := hg.call bel
  obtain ⟨gR, hgR'⟩ : ∃ gR, gR = w.heap.size + 1 + 1 := ⟨_, rfl⟩
  rw [← hgR'] at BR
  have hgR : w.heap.size ≤ gR := by omega
  go_enter Tryz.func11, Tryz.ntmps11
  go_upto_region 1 with fail
  rw [← hgR']
  generalize World.alloc (World.alloc (World.alloc w _) _) _ = w1 at *
  clear hgR'
  have x0 := BX.cell 0
  have x1 := BX.cell 1
  have x2 := BX.cell 2
  have x3 := BX.cell 3
  have x4 := BX.cell 4
  have xl := BX.lt
  go_wp2_with fail
  go_at_call 36
  refine (c _ gl I.out).mono ?_
  rintro e w2 ⟨h', ⟨sb, sm, sH, b1, m1, k1, b2, m2, k2, rb, rm, rk⟩, ys, he, V, hh, bb⟩
  simp only at he
  subst he
  clear c x0 x1 x2 x3 x4 xl BX I
  have lR1 := BR.lt
  have lbb := bb.size
  have WB := V.box
  simp only [Pw.cells, ← hU.out] at WB
  have bq := newB bb (.cells #[.slice sb sm sH, .slice b1 m1 k1, .slice b2 m2 k2, .bool U, .slice rb rm rk] 30)
  replace BY := BY.keep bq BY.lt
  replace BR := BR.keep bq BR.lt
  replace s3 := s3.call bq
  replace gl := gl.call bq
  have lg : gR < w2.heap.size := Nat.lt_of_lt_of_le lR1 lbb
  replace bel := belowCall bel bq
  have lh : gR < h' := by omega
  clear bq bb V hh lR1 lbb
  go_upto_region 4 with fail
  generalize w2.heap.size = g at *
  generalize World.alloc w2 _ = w3 at *
  have y0 := BY.cell 0
  have y1 := BY.cell 1
  have y2 := BY.cell 2
  have y3 := BY.cell 3
  have yl := BY.lt
  have cH2 := cH w3 g h' _ ys WB gl s3
  replace WB := hide WB
  go_wp2_with fail
  go_at_call 37
  refine cH2.mono ?_
  rintro e w4 ⟨rfl, h2, ⟨sa', sn', sG', d1, o1, e1, d2, o2, e2, ra', rn', rc'⟩, ys2, WB2, gr, hh2⟩
  clear y0 y1 y2 y3 yl cH cH2 WB
  replace BR := BR.gb2 gr (by omega) (by omega)
  have bel4 : Below w.heap.size w w4 := bel.trans (gr.from (by omega) (by omega) bel.size)
  replace bel := bel4
  clear bel4 BY gl s3 gr hh2
  have nn1 : ¬ g = gR := by omega
  have nn2 : ¬ gR = g := by omega
  clear lg lh h
  by_cases hz : HE = 0
  · subst hz
    rw [if_pos rfl] at WB2
    have hRt2 := hRt.out rfl
    have WBb := WB2.blk
    simp only [Pw.cells] at WBb
    obtain ⟨ZU, hZU⟩ : ∃ U, U = Z.up := ⟨_, rfl⟩
    rw [← hZU] at WBb
    have r0 := BR.cell 0
    have r1 := BR.cell 1
    have r2 := BR.cell 2
    have r3 := BR.cell 3
    have r4 := BR.cell 4
    have f0 := BR.free 0
    have f1 := BR.free 1
    have f2 := BR.free 2
    have f3 := BR.free 3
    have f4 := BR.free 4
    have rl := BR.lt
    have g0 := WBb.cell 0
    have g1 := WBb.cell 1
    have g2 := WBb.cell 2
    have g3 := WBb.cell 3
    have g4 := WBb.cell 4
    have gl := WBb.lt
    replace BR := hide BR
    replace bel := hide bel
    replace WB2 := hide WB2
    replace hZU := hide hZU
    clear WBb hRt hRt2 hW0
    go_wp2_with fail
    have B9 := put5r BR.out (.slice sa' sn' sG') (.slice d1 o1 e1) (.slice d2 o2 e2) (.bool ZU) (.slice ra' rn' rc')
    have bel9 := below5r bel.out hgR (.slice sa' sn' sG') (.slice d1 o1 e1) (.slice d2 o2 e2) (.bool ZU) (.slice ra' rn' rc')
    have grR := grownSet (grownSet (grownSet (grownSet (grownSet (grownRefl w4 (some (gR))) 0 (.slice sa' sn' sG')) 1 (.slice d1 o1 e1)) 2 (.slice d2 o2 e2)) 3 (.bool ZU)) 4 (.slice ra' rn' rc')
    have W9 := hide (WdB.wrote (Q := fun _ => False) (W' := ((((w4.setCell ⟨gR, 0, none⟩ (.slice sa' sn' sG')).setCell ⟨gR, 1, none⟩ (.slice d1 o1 e1)).setCell ⟨gR, 2, none⟩ (.slice d2 o2 e2)).setCell ⟨gR, 3, none⟩ (.bool ZU)).setCell ⟨gR, 4, none⟩ (.slice ra' rn' rc')) BR.out grR (by rw [← hZU.out]; exact B9) WB2.out.is WB2.out.so WB2.out.right WB2.out.ra WB2.out.rb WB2.out.ry WB2.out.rm).is
    have i0 := B9.cell 0
    have i1 := B9.cell 1
    have i2 := B9.cell 2
    have i3 := B9.cell 3
    have i4 := B9.cell 4
    exact bodyPost_ret (v := .tuple #[.agg #[.slice sa' sn' sG', .slice d1 o1 e1, .slice d2 o2 e2, .bool ZU, .slice ra' rn' rc'], .int .i64 0]) (by simp [results, Tryz.results11, go_sem, i0, i1, i2, i3, i4]) rfl ⟨⟨sa', sn', sG', d1, o1, e1, d2, o2, e2, ra', rn', rc'⟩, by rw [← hZU.out]; rfl, W9.out, bel9⟩
  · have hz' : decide (HE = 0) = false := decide_eq_false hz
    have hZ0 : Hid (Z = wd0) := hide (hW0.out hz)
    clear WB2 hRt hW0
    have r0 := BR.cell 0
    have r1 := BR.cell 1
    have r2 := BR.cell 2
    have r3 := BR.cell 3
    have r4 := BR.cell 4
    have f0 := BR.free 0
    have f1 := BR.free 1
    have f2 := BR.free 2
    have f3 := BR.free 3
    have f4 := BR.free 4
    have rl := BR.lt
    replace BR := hide BR
    replace bel := hide bel
    go_wp2_with fail
    have B9 := put5r BR.out (.slice none 0 0) (.slice none 0 0) (.slice none 0 0) (.bool false) (.slice none 0 0)
    have bel9 := below5r bel.out hgR (.slice none 0 0) (.slice none 0 0) (.slice none 0 0) (.bool false) (.slice none 0 0)
    have i0 := B9.cell 0
    have i1 := B9.cell 1
    have i2 := B9.cell 2
    have i3 := B9.cell 3
    have i4 := B9.cell 4
    rw [hZ0.out]
    exact bodyPost_ret (v := .tuple #[.agg #[.slice none 0 0, .slice none 0 0, .slice none 0 0, .bool false, .slice none 0 0], .int .i64 HE]) (by simp [results, Tryz.results11, go_sem, i0, i1, i2, i3, i4]) rfl ⟨pw0, rfl, IsW.nil _, bel9⟩

theorem do_any (x : Wd) (y : Hp) (p : Pw) (ea : Option Addr) (en eC : Nat) (w : World) (hg : Gl w) (I : IsW w p x) (few : p.n1 + p.n2 ≤ 9223372036854775807) (fewS : p.sn ≤ 140737488355328) (s3 : SlW ec w ea eC y.e) (h3 : Hid (en = y.e.length)) :
    Calls Tryz.prog 11 #[p.val x.up, .agg #[.int .i64 y.k, .int .i64 y.s, .int .i64 y.n, .slice ea en eC]] w (AnsW w (doW x y) (doE x y)) := by
  unfold doW doE
  by_cases h : wdE x = 0
  · rw [if_neg (by simp [h]), if_neg (by simp [h])]
    exact do_ok x y p ea en eC w hg I h s3 h3
  · rw [if_pos h, if_pos h]
    exact do_bad x y p ea en eC w hg I few fewS h

end Go.Proofs.YtjjfgmcgonkicaaGreatDoor
