/-
  slices.IndexFunc of points by where their buckets start; query.group: the sums of each run of points that have one start.
-/
import Derived.Deep.RegionHeld3
import Derived.Deep.AppendLies
import Derived.Deep.Cut
import Derived.Deep.CutRange
import Derived.Test.YtnpikbpngohimaaP24
import Derived.Test.YtnpikbpngohimaaHRefDropS
namespace Go.Proofs.Ytnpikbpngohimaa
open Go.RowKit

def bc (b : Bu) : List Value := [.int .i64 b.s, .int .i64 b.m.n, .int .i64 b.m.lo, .int .i64 b.m.hi, .int .i64 b.m.tot]
theorem bc_five (b : Bu) : (bc b).length = 5 := rfl

def lenOf : Value → Nat
  | .slice _ n _ => n
  | _ => 0

theorem infoBu : (Try.prog.info? 63).map (fun i => (i.zero, i.size, i.bytes)) = some (some (.agg #[.int .i64 0, .int .i64 0, .int .i64 0, .int .i64 0, .int .i64 0]), 5, 40) := by kernel_rfl

set_option maxHeartbeats 1000000 in
set_option maxRecDepth 100000 in
theorem indexS (l : List Pt) (ao : Option Addr) (cap n : Nat) (f wd st : Int) (cf cw cs ct : Nat) (w : World) (S : SlP w ao cap l) (Bf : Blk w cf [.int .i64 f] 3) (Bw : Blk w cw [.int .i64 wd] 3) (Bs : Blk w cs [.func (.func 76) #[] #[.pointer (some ⟨cf, 0, none⟩), .pointer (some ⟨cw, 0, none⟩)]] 108) (Bt : Blk w ct [.int .i64 st] 3) (h0 : 0 ≤ f) (h3 : 1 ≤ wd) (h4 : wd ≤ 100001) (hq : ∀ p ∈ l, f ≤ p.1 ∧ p.1 ≤ 100001) (hn : l.length = n) (few : n ≤ 40) :
    Calls Try.prog 94 #[.slice ao n cap, .func (.func 95) #[] #[.pointer (some ⟨cs, 0, none⟩), .pointer (some ⟨ct, 0, none⟩)]] w fun e w' =>
      Below w.heap.size w w' ∧ ((e = .returned (.int .i64 (-1)) ∧ ∀ x ∈ l, otherS f wd st x = false) ∨ ∃ k x, e = .returned (.int .i64 (k : Nat)) ∧ l[k]? = some x ∧ otherS f wd st x = true ∧ ∀ y ∈ l.take k, otherS f wd st y = false) := by
  replace hn := hide hn
  have b0 := Below.refl w.heap.size w
  go_enter Try.func94, Try.ntmps94
  go_wp2_with fail
  go_loopw [8] (fun i wr => ∃ (k : Nat), k ≤ n ∧ i = .int .i64 k ∧ Hid (∀ y ∈ l.take k, otherS f wd st y = false) ∧ Below w.heap.size w wr) (fun i _ => n - (intOf i).toNat)
  case atStart => exact ⟨0, by omega, rfl, hide (fun y hy => by simp at hy), b0⟩
  case round =>
    clear b0
    obtain ⟨k, hk, rfl, H, bel⟩ := hrel
    by_cases hlt : k < n
    · have S1 := S.keep bel (Nat.le_refl _)
      have hkl : k < l.length := by rw [hn.out]; exact hlt
      obtain ⟨b, off, rfl, hbw⟩ := S1.where (by intro e; rw [e] at hkl; simp at hkl)
      obtain ⟨x, y, e0, e1, hx, _⟩ := S1.pt k hkl
      have Bf1 := Bf.keep bel Bf.lt
      have Bw1 := Bw.keep bel Bw.lt
      have Bs1 := Bs.keep bel Bs.lt
      have Bt1 := Bt.keep bel Bt.lt
      have c := fun W k0 k1 k2 k3 => other_any (x, y) f wd st cf cw cs ct W h0 (hq _ (List.mem_of_getElem? hx)).1 (hq _ (List.mem_of_getElem? hx)).2 h3 h4 k0 k1 k2 k3
      have hk8 : k < 40 := by omega
      replace hx := hide hx
      clear S1 hkl
      cases hp : otherS f wd st ((x, y) : Pt) with
      | true =>
        rw [hp] at c
        replace hp := hide hp
        go_wp2_with fail
        go_at_call 95
        refine (c _ (Bf1) (Bw1) (Bs1) (Bt1)).mono ?_
        rintro e w2 ⟨rfl, b2⟩
        have bel2 := belowCall bel b2
        go_wp2_with fail
        go_ret
        exact ⟨bel2, .inr ⟨k, (x, y), rfl, hx.out, hp.out, H.out⟩⟩
      | false =>
        rw [hp] at c
        have H2 : ∀ z ∈ l.take (k + 1), otherS f wd st z = false := by
          intro z hz
          rw [List.take_add_one, hx.out] at hz
          rcases List.mem_append.1 hz with hz | hz
          · exact H.out z hz
          · simp at hz
            rw [hz]
            exact hp
        replace H2 := hide H2
        clear hp
        go_wp2_with fail
        go_at_call 95
        refine (c _ (Bf1) (Bw1) (Bs1) (Bt1)).mono ?_
        rintro e w2 ⟨rfl, b2⟩
        have bel2 := belowCall bel b2
        go_wp2_with fail
        go_roundw
        case rel => exact ⟨k + 1, by omega, by go_num, H2, bel2⟩
        case measure => simp [intOf]; omega
    · obtain rfl : k = n := by omega
      have H' := H.out
      rw [List.take_of_length_le (by rw [hn.out]; exact Nat.le_refl _)] at H'
      replace H' := hide H'
      go_wp2_with fail
      go_ret
      exact ⟨bel, .inl ⟨rfl, H'.out⟩⟩

set_option maxHeartbeats 4000000 in
set_option maxRecDepth 100000 in
theorem group_any (l : List Pt) (ao : Option Addr) (cap n : Nat) (f wd : Int) (cf cw : Nat) (w : World) (S : SlP w ao cap l) (hn : l.length = n) (few : n ≤ 40) (Bf : Blk w cf [.int .i64 f] 3) (Bw : Blk w cw [.int .i64 wd] 3) (h0 : 0 ≤ f) (h3 : 1 ≤ wd) (h4 : wd ≤ 100001) (hq : ∀ p ∈ l, f ≤ p.1 ∧ p.1 ≤ 100001) :
    Calls Try.prog 75 #[.slice ao n cap, .func (.func 76) #[] #[.pointer (some ⟨cf, 0, none⟩), .pointer (some ⟨cw, 0, none⟩)]] w fun e w' => ∃ a' G, e = .returned (.slice a' (runs (startOf f wd) l).length G) ∧ w'.ownsRow w.heap.size 63 5 (.slice a' (runs (startOf f wd) l).length G) (runs (startOf f wd) l).length ((runs (startOf f wd) l).flatMap bc) ∧ Below w.heap.size w w' := by
  obtain ⟨R, hR⟩ : ∃ R, R = runs (startOf f wd) l := ⟨_, rfl⟩
  rw [← hR]
  have eR0 : Hid (R = [] ++ runs (startOf f wd) l) := hide (by rw [hR]; rfl)
  clear hR
  have hn0 : Hid (n = l.length) := hide hn.symm
  replace hq := hide hq
  have BS := Blk.laid w [.func (.func 76) #[] #[.pointer (some ⟨cf, 0, none⟩), .pointer (some ⟨cw, 0, none⟩)]] 108 _ rfl
  have bel : Below w.heap.size w (w.alloc (.cells #[.func (.func 76) #[] #[.pointer (some ⟨cf, 0, none⟩), .pointer (some ⟨cw, 0, none⟩)]] 108)) := (Below.refl _ _).alloc (Nat.le_refl _) _
  clear hn
  go_enter Try.func75, Try.ntmps75
  go_wp2_with fail
  generalize w.alloc _ = w1 at *
  go_loopw [0, 5] (fun s0 s5 wr => ∃ (a' : Option Addr) (cap' q : Nat) (O : List Bu) (l' : List Pt) (ao' : Option Addr) (G' no : Nat), s0 = .slice a' q cap' ∧ s5 = .slice ao' no G' ∧ SlP w a' cap' l' ∧ Hid (q = l'.length) ∧ q ≤ n ∧ Hid (R = O ++ runs (startOf f wd) l') ∧ Hid (no = O.length) ∧ no + q ≤ 40 ∧ (∀ p ∈ l', f ≤ p.1 ∧ p.1 ≤ 100001) ∧ wr.ownsRow (w.heap.size + 1) 63 5 (.slice ao' no G') no (O.flatMap bc) ∧ Blk wr w.heap.size [.func (.func 76) #[] #[.pointer (some ⟨cf, 0, none⟩), .pointer (some ⟨cw, 0, none⟩)]] 108 ∧ Below w.heap.size w wr) (fun s0 _ _ => lenOf s0)
  case atStart => exact ⟨ao, cap, n, [], l, none, 0, 0, rfl, rfl, S, hn0, by omega, eR0, hide rfl, by omega, hq.out, World.ownsRow_nil _ _ _ _, BS, bel⟩
  case round =>
    clear BS bel eR0
    obtain ⟨a', cap', q, O, l', ao', G', no, rfl, rfl, SA, eq, hqn, eR, hno, hnq, hp', own, BS, bel⟩ := hrel
    by_cases h1 : 0 < q
    · have S1 := SA.keep bel (Nat.le_refl _)
      have hl1 : 0 < l'.length := by rw [← eq.out]; exact h1
      obtain ⟨b, off, rfl, hbw⟩ := S1.where (by intro e; rw [e] at hl1; simp at hl1)
      obtain ⟨x, y, e0, e1, hx, _⟩ := S1.pt 0 hl1
      simp only [Nat.zero_mul, Nat.add_zero] at e0 e1
      have h1' : (0 : Int) < q := by omega
      have hqc0 : q ≤ cap' := by have := SA.le; rw [← eq.out] at this; exact this
      have hcm0 : cap' ≤ 9223372036854775807 := SA.max
      have hxy := hp' (x, y) (List.mem_of_getElem? hx)
      have q0 : wr.cell? ⟨w.heap.size, 0, none⟩ = some (.func (.func 76) #[] #[.pointer (some ⟨cf, 0, none⟩), .pointer (some ⟨cw, 0, none⟩)]) := BS.cell 0
      have lS := BS.lt
      have Bf1 := Bf.keep bel Bf.lt
      have Bw1 := Bw.keep bel Bw.lt
      have c3 := fun W (k0 : Below wr.heap.size wr W) => start_any (x, y) f wd cf cw W h0 hxy.1 hxy.2 h3 h4 (Bf1.keep k0 Bf1.lt) (Bw1.keep k0 Bw1.lt)
      obtain ⟨st, hst⟩ : ∃ st, st = startOf f wd (x, y) := ⟨_, rfl⟩
      rw [← hst] at c3
      replace hst := hide hst
      replace hx := hide hx
      have K0 : Below wr.heap.size wr wr.drew := belowDrew (Below.refl _ _)
      have K1 : Below wr.heap.size wr (wr.alloc (.cells #[.int .i64 0] 3)).drew := belowDrew (belowNew (Below.refl _ _) _)
      have cS : ∀ W, Below wr.heap.size wr W → Calls Try.prog 76 #[.agg #[.int .i64 x, .int .i64 y], .pointer (some ⟨cf, 0, none⟩), .pointer (some ⟨cw, 0, none⟩)] W fun e w' => e = .returned (.int .i64 st) ∧ w'.cell? ⟨w.heap.size, 0, none⟩ = some (.func (.func 76) #[] #[.pointer (some ⟨cf, 0, none⟩), .pointer (some ⟨cw, 0, none⟩)]) ∧ w'.cell? ⟨b, off, none⟩ = some (.int .i64 x) ∧ w'.cell? ⟨b, off + 1, none⟩ = some (.int .i64 y) ∧ Below W.heap.size W w' ∧ Below wr.heap.size wr w' := by
        intro W hW
        refine (c3 W hW).mono ?_
        rintro e w' ⟨rfl, b'⟩
        have hb := belowCall hW b'
        exact ⟨rfl, (BS.keep hb BS.lt).cell 0, (hb.cell (p := ⟨b, off, none⟩) hbw).trans e0, (hb.cell (p := ⟨b, off + 1, none⟩) hbw).trans e1, b', hb⟩
      clear c3 S1
      have m1 : ¬ wr.heap.size = w.heap.size := by omega
      have m2 : ¬ w.heap.size = wr.heap.size := by omega
      have m3 : ¬ wr.heap.size = b := by omega
      have m4 : ¬ b = wr.heap.size := by omega
      go_upto_region 3 with fail
      go_cut [6] from 11 to 15 (fun s6 wx => ∃ g6, s6 = .pointer (some ⟨g6, 0, none⟩) ∧ Blk wx g6 [.int .i64 st] 3 ∧ Below wr.heap.size wr wx)
      case first =>
        go_region_held3 (fun w' => w'.cell? ⟨w.heap.size, 0, none⟩ = some (.func (.func 76) #[] #[.pointer (some ⟨cf, 0, none⟩), .pointer (some ⟨cw, 0, none⟩)]) ∧ w'.cell? ⟨b, off, none⟩ = some (.int .i64 x) ∧ w'.cell? ⟨b, off + 1, none⟩ = some (.int .i64 y)) (go_keep)
          (first
            | (go_at_call 76; refine (cS _ K0).mono ?_; rintro e w3 ⟨rfl, z0, z1, z2, z3, z4⟩; have zs := z4.size)
            | (go_at_call 76; refine (cS _ K1).mono ?_; rintro e w3 ⟨rfl, z0, z1, z2, z3, z4⟩; have zs := z4.size; have A6 := (Blk.laid wr [.int .i64 0] 3 _ rfl).drewS.keep z3 (by simp); have y0 : w3.cell? ⟨wr.heap.size, 0, none⟩ = some (.int .i64 0) := A6.cell 0; have y1 := A6.free 0; have y2 := A6.lt))
        all_goals (
          go_wp2_with fail
          go_meet
          case rel =>
            first
              | exact ⟨_, rfl, A6.set 0 _, z4.setCell (p := ⟨wr.heap.size, 0, none⟩) (Nat.le_refl _) _⟩
              | exact ⟨_, rfl, Blk.laid w3 [.int .i64 st] 3 _ rfl, belowNew z4 _⟩)
      case rest =>
        obtain ⟨g6, rfl, B6, belC⟩ := hcut
        have cI := indexS l' (some ⟨b, off, none⟩) cap' q f wd st cf cw w.heap.size g6 wc ((SA.keep bel (Nat.le_refl _)).keep belC (Nat.le_refl _)) (Bf1.keep belC Bf1.lt) (Bw1.keep belC Bw1.lt) (BS.keep belC BS.lt) B6 h0 h3 h4 hp' eq.out.symm (by omega)
        clear cS K0 K1 q0 e0 e1 lS m1 m2 m3 m4
        go_wp2_with fail
        go_at_call 94
        refine cI.mono ?_
        rintro e w5 ⟨b5, ⟨rfl, hal⟩ | ⟨k, z, rfl, hz, hpz, hal⟩⟩
        · have belD := belowCall belC b5
          replace B6 := B6.keep b5 B6.lt
          have hall : Hid (runs (startOf f wd) l' = [⟨st, sumS l'⟩]) := by
            have := runs_split (startOf f wd) st l' [] (fun p hp => by have := hal p hp; unfold otherS at this; simpa using this) (fun p h => by simp at h) (by intro e; rw [e] at hl1; simp at hl1)
            rw [List.append_nil, runs_nil] at this
            exact hide this
          have SZ : SlP w (some ⟨b, off, none⟩) 0 [] := ⟨.inl rfl, by simp, by decide, fun e => by cases e⟩
          replace hal := hide hal
          have q2 : True := trivial
          have q3 : True := trivial
          clear b5 hl1
          have c7 := fun W (h : SlP W (some ⟨b, off, none⟩) cap' l') => of_any (some ⟨b, off, none⟩) cap' (l'.take q) W (h.front q)
          rw [show (l'.take q).length = q by rw [List.length_take, ← eq.out]; omega] at c7
          unfold smV at c7
          generalize hX : sumS (l'.take q) = X at *
          replace hX := hide hX
          have l6 := B6.lt
          have q6 : w5.cell? ⟨g6, 0, none⟩ = some (.int .i64 st) := B6.cell 0
          have K0 : Below w5.heap.size w5 w5.drew := belowDrew (Below.refl _ _)
          have bel5 : Below w.heap.size w w5 := bel.trans (belD.mono bel.size)
          have own5 := ownCall own belD
          have hone : ∀ u ∈ [Value.int .i64 st, .int .i64 X.n, .int .i64 X.lo, .int .i64 X.hi, .int .i64 X.tot], u.oneCell' = true := by
            intro u hu
            simp only [List.mem_cons, List.not_mem_nil, or_false] at hu
            rcases hu with rfl | rfl | rfl | rfl | rfl <;> rfl
          obtain ⟨i0, hi, hz0, hz1, hz2⟩ := info_parts infoBu
          have cO : Calls Try.prog 39 #[.slice (some ⟨b, off, none⟩) q cap'] w5.drew fun e w' => e = .returned (.agg #[.int .i64 X.n, .int .i64 X.lo, .int .i64 X.hi, .int .i64 X.tot]) ∧ w'.cell? ⟨g6, 0, none⟩ = some (.int .i64 st) ∧ Below w5.heap.size w5 w' := by
            refine (c7 _ ((SA.keep bel5 (Nat.le_refl _)).keep K0 (Nat.le_refl _))).mono ?_
            rintro e w' ⟨rfl, b'⟩
            have hb := belowCall K0 b'
            exact ⟨rfl, (B6.keep hb B6.lt).cell 0, hb⟩
          have hnn : ((q : Nat) : Int) ≤ q := by omega
          have hn0i : (0 : Int) ≤ ((q : Nat) : Int) := by omega
          have hnci : ((q : Nat) : Int) ≤ cap' := by omega
          have hqc : (q : Int) ≤ cap' := by omega
          have hcm : (cap' : Int) ≤ 9223372036854775807 := by omega
          have o5' := hide own5
          have B6' := hide B6
          clear q2 q3 cI
          go_wp2_with fail
          go_region_held3 (fun w' => w'.cell? ⟨g6, 0, none⟩ = some (.int .i64 st)) (first | go_keep | exact z7)
            (first
              | (go_at_call 39; refine cO.mono ?_; rintro e w6 ⟨rfl, z6, zb6⟩; have zl6 := Nat.lt_of_lt_of_le l6 zb6.size; have own6 := ownCall own5 zb6)
              | ((refine step_append_lies _ (by rfl) (.tmp 23) (.tmp 30) 52 (by rfl) (w.heap.size + 1) 63 i0 (.agg #[.int .i64 0, .int .i64 0, .int .i64 0, .int .i64 0, .int .i64 0]) 5 40 Try.underlying52 hi hz0 hz1 hz2 rfl (by decide) (.slice ao' no G') no _ (by rfl) (own6.alloc _) ⟨w6.heap.size, 0, none⟩ 1 1 [.int .i64 st, .int .i64 X.n, .int .i64 X.lo, .int .i64 X.hi, .int .i64 X.tot] (by rfl) (by rfl) (World.news_of_block (cs := #[.int .i64 st, .int .i64 X.n, .int .i64 X.lo, .int .i64 X.hi, .int .i64 X.tot]) (t := 63) (fr := (0, 0)) (heap_alloc_new w6 _)) hone (by decide) (by unfold maxLen; omega) (by omega) (by have := zb6.size; have := belD.size; have := BS.lt; simp; omega) (w6.heap.size + 1) (by simp) ?_; intro g7 c7' w7 own7 grow7 at7 lt7; have nb7 : (Value.slice ao' no G').ownBlock = none ∨ (Value.slice ao' no G').ownBlock ≠ some g6 := apartBlk own5 B6 (by decide); have zb7 := belowGrown (belowNew (belowCall bel5 zb6) _) (own6.alloc _) grow7 (Nat.le_succ _) (belowNew (belowCall bel5 zb6) _).size; have B67 := ((B6.keep zb6 B6.lt).alc (.cells #[.int .i64 st, .int .i64 X.n, .int .i64 X.lo, .int .i64 X.hi, .int .i64 X.tot] 63)).grown grow7 (fun j hj => by rcases nb7 with h | h; rw [h] at hj; cases hj; rintro rfl; exact h hj); have z7 := B67.cell 0; have zl7 := B67.lt; have BS7 := (((BS.keep belD BS.lt).keep zb6 (BS.keep belD BS.lt).lt).alc (.cells #[.int .i64 st, .int .i64 X.n, .int .i64 X.lo, .int .i64 X.hi, .int .i64 X.tot] 63)).grown grow7 (fun j hj => by have := (own6.lt j hj).1; omega))))
          all_goals (
            rw [show O.flatMap bc ++ [.int .i64 st, .int .i64 X.n, .int .i64 X.lo, .int .i64 X.hi, .int .i64 X.tot] = (O ++ [(⟨st, X⟩ : Bu)]).flatMap bc by rw [List.flatMap_append]; rfl] at own7
            have eno : Hid (no + 1 = (O ++ [(⟨st, X⟩ : Bu)]).length) := by rw [List.length_append, ← hno.out]; exact hide rfl
            have eR2 : Hid (R = (O ++ [(⟨st, X⟩ : Bu)]) ++ runs (startOf f wd) []) := by
              rw [eR.out, hall.out, hX.out.symm, List.take_of_length_le (by rw [← eq.out]; exact Nat.le_refl _), runs_nil]
              simp [Hid]
            by_cases hcq : cap' = q
            · obtain rfl : q = cap' := hcq.symm
              go_wp2_with fail
              go_roundw
              case rel => exact ⟨some ⟨b, off, none⟩, 0, 0, O ++ [⟨st, X⟩], [], _, _, no + 1, by simp, rfl, SZ, hide rfl, by omega, eR2, eno, by omega, fun p hp => by simp at hp, own7, BS7, zb7⟩
              case measure => simp [lenOf]; omega
            · have hcq' : q < cap' := by omega
              go_wp2_with fail
              go_roundw
              case rel => exact ⟨some ⟨b, off + q * 2, none⟩, cap' - q, 0, O ++ [⟨st, X⟩], [], _, _, no + 1, by simp, rfl, ⟨.inl rfl, by simp, by have := SA.max; omega, fun e => by cases e⟩, hide rfl, by omega, eR2, eno, by omega, fun p hp => by simp at hp, own7, BS7, zb7⟩
              case measure => simp [lenOf]; omega)
        · have belD := belowCall belC b5
          replace B6 := B6.keep b5 B6.lt
          have hkq : k < q := by rw [eq.out]; exact (List.getElem?_eq_some_iff.1 hz).1
          have hk0 : 0 < k := by
            rcases Nat.eq_zero_or_pos k with rfl | h
            · exfalso
              have e := hx.out.symm.trans hz
              simp only [Option.some.injEq] at e
              rw [← e] at hpz
              unfold otherS at hpz
              rw [← hst.out] at hpz
              simp at hpz
            · exact h
          have hall : Hid (runs (startOf f wd) l' = ⟨st, sumS (l'.take k)⟩ :: runs (startOf f wd) (l'.drop k)) := by
            have hd : l'.drop k = z :: l'.drop (k + 1) := by
              obtain ⟨hk', rfl⟩ := List.getElem?_eq_some_iff.1 hz
              exact List.drop_eq_getElem_cons hk'
            have := runs_split (startOf f wd) st (l'.take k) (l'.drop k) (fun p hp => by have := hal p hp; unfold otherS at this; simpa using this) (fun p h => by rw [hd] at h; simp at h; subst h; unfold otherS at hpz; simpa using hpz) (by intro e; have := congrArg List.length e; rw [List.length_take, ← eq.out] at this; simp at this; omega)
            rw [List.take_append_drop] at this
            exact hide this
          have SD : SlP w (some ⟨b, off + k * 2, none⟩) (cap' - k) (l'.drop k) := by
            have := SA.part k l'.length (by rw [← eq.out]; omega) (Nat.le_refl _)
            rw [if_neg (by omega), Option.map_some, Addr.add_lit, List.take_length] at this
            exact this
          replace hal := hide hal
          replace hz := hide hz
          replace hpz := hide hpz
          have hkn : ¬ (k : Int) < 0 := by omega
          have q2 : True := trivial
          have q3 : True := trivial
          clear b5 hl1
          have c7 := fun W (h : SlP W (some ⟨b, off, none⟩) cap' l') => of_any (some ⟨b, off, none⟩) cap' (l'.take k) W (h.front k)
          rw [show (l'.take k).length = k by rw [List.length_take, ← eq.out]; omega] at c7
          unfold smV at c7
          generalize hX : sumS (l'.take k) = X at *
          replace hX := hide hX
          have l6 := B6.lt
          have q6 : w5.cell? ⟨g6, 0, none⟩ = some (.int .i64 st) := B6.cell 0
          have K0 : Below w5.heap.size w5 w5.drew := belowDrew (Below.refl _ _)
          have bel5 : Below w.heap.size w w5 := bel.trans (belD.mono bel.size)
          have own5 := ownCall own belD
          have hone : ∀ u ∈ [Value.int .i64 st, .int .i64 X.n, .int .i64 X.lo, .int .i64 X.hi, .int .i64 X.tot], u.oneCell' = true := by
            intro u hu
            simp only [List.mem_cons, List.not_mem_nil, or_false] at hu
            rcases hu with rfl | rfl | rfl | rfl | rfl <;> rfl
          obtain ⟨i0, hi, hz0, hz1, hz2⟩ := info_parts infoBu
          have cO : Calls Try.prog 39 #[.slice (some ⟨b, off, none⟩) k cap'] w5.drew fun e w' => e = .returned (.agg #[.int .i64 X.n, .int .i64 X.lo, .int .i64 X.hi, .int .i64 X.tot]) ∧ w'.cell? ⟨g6, 0, none⟩ = some (.int .i64 st) ∧ Below w5.heap.size w5 w' := by
            refine (c7 _ ((SA.keep bel5 (Nat.le_refl _)).keep K0 (Nat.le_refl _))).mono ?_
            rintro e w' ⟨rfl, b'⟩
            have hb := belowCall K0 b'
            exact ⟨rfl, (B6.keep hb B6.lt).cell 0, hb⟩
          have hnn : ((k : Nat) : Int) ≤ q := by omega
          have hn0i : (0 : Int) ≤ ((k : Nat) : Int) := by omega
          have hnci : ((k : Nat) : Int) ≤ cap' := by omega
          have hqc : (q : Int) ≤ cap' := by omega
          have hcm : (cap' : Int) ≤ 9223372036854775807 := by omega
          have o5' := hide own5
          have B6' := hide B6
          clear q2 q3 cI
          go_wp2_with fail
          go_region_held3 (fun w' => w'.cell? ⟨g6, 0, none⟩ = some (.int .i64 st)) (first | go_keep | exact z7)
            (first
              | (go_at_call 39; refine cO.mono ?_; rintro e w6 ⟨rfl, z6, zb6⟩; have zl6 := Nat.lt_of_lt_of_le l6 zb6.size; have own6 := ownCall own5 zb6)
              | ((refine step_append_lies _ (by rfl) (.tmp 23) (.tmp 30) 52 (by rfl) (w.heap.size + 1) 63 i0 (.agg #[.int .i64 0, .int .i64 0, .int .i64 0, .int .i64 0, .int .i64 0]) 5 40 Try.underlying52 hi hz0 hz1 hz2 rfl (by decide) (.slice ao' no G') no _ (by rfl) (own6.alloc _) ⟨w6.heap.size, 0, none⟩ 1 1 [.int .i64 st, .int .i64 X.n, .int .i64 X.lo, .int .i64 X.hi, .int .i64 X.tot] (by rfl) (by rfl) (World.news_of_block (cs := #[.int .i64 st, .int .i64 X.n, .int .i64 X.lo, .int .i64 X.hi, .int .i64 X.tot]) (t := 63) (fr := (0, 0)) (heap_alloc_new w6 _)) hone (by decide) (by unfold maxLen; omega) (by omega) (by have := zb6.size; have := belD.size; have := BS.lt; simp; omega) (w6.heap.size + 1) (by simp) ?_; intro g7 c7' w7 own7 grow7 at7 lt7; have nb7 : (Value.slice ao' no G').ownBlock = none ∨ (Value.slice ao' no G').ownBlock ≠ some g6 := apartBlk own5 B6 (by decide); have zb7 := belowGrown (belowNew (belowCall bel5 zb6) _) (own6.alloc _) grow7 (Nat.le_succ _) (belowNew (belowCall bel5 zb6) _).size; have B67 := ((B6.keep zb6 B6.lt).alc (.cells #[.int .i64 st, .int .i64 X.n, .int .i64 X.lo, .int .i64 X.hi, .int .i64 X.tot] 63)).grown grow7 (fun j hj => by rcases nb7 with h | h; rw [h] at hj; cases hj; rintro rfl; exact h hj); have z7 := B67.cell 0; have zl7 := B67.lt; have BS7 := (((BS.keep belD BS.lt).keep zb6 (BS.keep belD BS.lt).lt).alc (.cells #[.int .i64 st, .int .i64 X.n, .int .i64 X.lo, .int .i64 X.hi, .int .i64 X.tot] 63)).grown grow7 (fun j hj => by have := (own6.lt j hj).1; omega))))
          all_goals (
            rw [show O.flatMap bc ++ [.int .i64 st, .int .i64 X.n, .int .i64 X.lo, .int .i64 X.hi, .int .i64 X.tot] = (O ++ [(⟨st, X⟩ : Bu)]).flatMap bc by rw [List.flatMap_append]; rfl] at own7
            have eno : Hid (no + 1 = (O ++ [(⟨st, X⟩ : Bu)]).length) := by rw [List.length_append, ← hno.out]; exact hide rfl
            have eR2 : Hid (R = (O ++ [(⟨st, X⟩ : Bu)]) ++ runs (startOf f wd) (l'.drop k)) := by
              rw [eR.out, hall.out, ← hX.out]
              simp [Hid]
            have hck : ¬ cap' = k := by omega
            have hck' : k < cap' := by omega
            go_wp2_with fail
            go_roundw
            case rel => exact ⟨some ⟨b, off + k * 2, none⟩, cap' - k, q - k, O ++ [⟨st, X⟩], l'.drop k, _, _, no + 1, by simp, rfl, SD, hide (by rw [List.length_drop, ← eq.out]), by omega, eR2, eno, by omega, fun p hp => hp' p (List.mem_of_mem_drop hp), own7, BS7, zb7⟩
            case measure => simp [lenOf]; omega)
    · obtain rfl : q = 0 := by omega
      have e0 : l' = [] := List.eq_nil_of_length_eq_zero eq.out.symm
      have eR' := eR.out
      rw [e0, runs_nil, List.append_nil] at eR'
      subst eR'
      have own' := own_base own (Nat.le_succ _)
      replace e0 := hide e0
      go_wp2_with fail
      go_ret
      exact ⟨_, _, by rw [hno.out]; rfl, by rw [← hno.out]; exact own', bel⟩

end Go.Proofs.Ytnpikbpngohimaa
