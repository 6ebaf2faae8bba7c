/-
  The reference's RecText: the text of a record, or what is wrong with it.
-/
import Derived.Test.YthoclnjfbigdiaaDoorRSay
import Derived.Test.YthoclnjfbigdiaaDoorRCheck
import Derived.Test.YthoclnjfbigdiaaDoorRMap
namespace Go.Proofs.YthoclnjfbigdiaaDoor
open Go.RowKit

theorem numsT_tail (ns : List Int) : Lib.joinTail [32] ((ns.map itB).map (·.data.toList)) = numsT ns := by
  unfold Lib.joinTail numsT
  induction ns with
  | nil => rfl
  | cons n r ih =>
    simp only [List.map_cons, List.flatten_cons, List.flatMap_cons, ih]
    simp [itB]

theorem join_words (b : ByteArray) (ns : List Int) : Lib.join ((b :: ns.map itB).map (·.data.toList)) [32] = b.data.toList ++ numsT ns := by
  rw [List.map_cons, Lib.join_cons, numsT_tail]

theorem ownLaid {w : World} {g base : Nat} {cs : List Value} {t : TypeId} (B : Blk w g cs t) (hb : base ≤ g) (few : cs.length ≤ 1000) : w.ownsRow base t 1 (.slice (some ⟨g, 0, none⟩) cs.length cs.length) cs.length cs :=
  ⟨by rw [Nat.mul_one], .inr ⟨g, cs.length, cs.toArray, rfl, hb, B, Nat.le_refl _, by unfold maxLen; omega, by simp, by simp⟩⟩

/-- strings.Join of words in a slice of the call's own. -/
theorem join_own {w : World} {base n : Nat} {a : Option Addr} {G : Nat} (b : ByteArray) (ns : List Int) (o : w.ownsRow base 9 1 (.slice a n G) n ((b :: ns.map itB).map Value.string)) (few : ns.length ≤ 100) (hb : b.size ≤ 100) (hin : ∀ n ∈ ns, -9223372036854775808 ≤ n ∧ n ≤ 9223372036854775807) :
    Calls Tryd.prog 30 #[.slice a n G, .string ⟨#[32]⟩] w fun e w' => e = .returned (.string ⟨(b.data.toList ++ numsT ns).toArray⟩) ∧ Below w.heap.size w w' := by
  obtain ⟨h1, ⟨h2, h3⟩ | ⟨g, cap, cur, e1, hg, hh, hn, hm, hs, ht⟩⟩ := o
  · subst h3
    simp at h1
  · simp only [Value.slice.injEq, true_and] at e1
    obtain ⟨rfl, rfl⟩ := e1
    have hl := numsT_le ns hin
    have hn' : n = (b :: ns.map itB).length := by have := h1; rw [List.length_map, Nat.mul_one] at this; exact this.symm
    have hl2 : (b :: ns.map itB).length = ns.length + 1 := by rw [List.length_cons, List.length_map]
    have c := Tryd.strings_Join g 0 G (b :: ns.map itB) ⟨#[32]⟩ w (fun j x hx => ?_) (lt_of_block hh) (by omega) (by rw [← hn']; exact hn) (by
      rw [show (⟨#[32]⟩ : ByteArray).data.toList = [32] from rfl, join_words, List.length_append]
      have : b.data.toList.length = b.size := Array.length_toList
      omega)
    · rw [show (⟨#[32]⟩ : ByteArray).data.toList = [32] from rfl, join_words, ← hn'] at c
      exact c
    · have hj : j < n := by rw [hn']; exact (List.getElem?_eq_some_iff.1 hx).1
      have : ((b :: ns.map itB).map Value.string)[j]? = some (.string x) := by rw [List.getElem?_map, hx]; rfl
      rw [← ht, List.getElem?_take, if_pos (by omega)] at this
      simp only [World.cell?, hh, Nat.zero_add]
      simpa using this

theorem first_word (w3 : World) (bw : Nat) (BW0 : Blk w3 bw [.slice none 0 0] 55) (b : ByteArray) :
    Blk ((w3.setCell ⟨bw, 0, none⟩ (.slice (some ⟨w3.heap.size, 0, none⟩) 1 1)).alloc (.cells #[.string b] 9)) bw [.slice (some ⟨w3.heap.size, 0, none⟩) 1 1] 55 ∧
    ((w3.setCell ⟨bw, 0, none⟩ (.slice (some ⟨w3.heap.size, 0, none⟩) 1 1)).alloc (.cells #[.string b] 9)).ownsRow (bw + 1) 9 1 (.slice (some ⟨w3.heap.size, 0, none⟩) 1 1) 1 ([b].map Value.string) ∧
    Below bw w3 ((w3.setCell ⟨bw, 0, none⟩ (.slice (some ⟨w3.heap.size, 0, none⟩) 1 1)).alloc (.cells #[.string b] 9)) := by
  have lb := BW0.lt
  have hs : (w3.setCell ⟨bw, 0, none⟩ (.slice (some ⟨w3.heap.size, 0, none⟩) 1 1)).heap.size = w3.heap.size := by simp
  have K := Blk.laid (w3.setCell ⟨bw, 0, none⟩ (.slice (some ⟨w3.heap.size, 0, none⟩) 1 1)) [.string b] 9 w3.heap.size hs.symm
  exact ⟨(BW0.set 0 _).alc _, ownLaid K lb (by simp), ((Below.refl bw w3).setCell (p := ⟨bw, 0, none⟩) (Nat.le_refl _) _).alloc (by rw [hs]; exact Nat.le_of_lt lb) _⟩

set_option maxHeartbeats 2000000 in
set_option maxRecDepth 100000 in
theorem rtext_is (r : Rc) (a : Option Addr) (cap n : Nat) (w : World) (hg : Gl w) (S : SlW ec w a cap r.e) (hn : n = r.e.length) :
    Calls Tryd.prog 8 #[.agg #[.int .i64 r.k, .int .i64 r.s, .int .i64 r.n, .slice a n cap]] w fun e w' => e = .returned (.tuple #[.string ⟨(recT r).toArray⟩, .int .i64 (recE r)]) ∧ Below w.heap.size w w' := by
  have c1 := fun W h => rcheck_is r a cap n W h hn
  have T0 : recE r ≠ 0 → recT r = [] := fun h => if_neg h
  have S1 := S.alloc (.cells #[.int .i64 r.k, .int .i64 r.s, .int .i64 r.n, .slice a n cap] 24)
  have B0 := Blk.laid w [.int .i64 r.k, .int .i64 r.s, .int .i64 r.n, .slice a n cap] 24 _ rfl
  have bel : Below w.heap.size w (w.alloc (.cells #[.int .i64 r.k, .int .i64 r.s, .int .i64 r.n, .slice a n cap] 24)) := (Below.refl _ _).alloc (Nat.le_refl _) _
  have htab0 := Lib.tabBelow_of_tabIs hg.tab
  by_cases h0 : recE r = 0
  · rw [h0] at c1
    rw [h0]
    by_cases h1 : r.k = 1
    · obtain ⟨e1, e2, e3, e4⟩ := recE_few h0 h1
      have eT : recT r = wBatch ++ numsT (ntNums r.e) := by unfold recT; rw [if_pos h0, if_pos h1]
      rw [eT]
      obtain ⟨k, s, m, l⟩ := r
      simp only at *
      subst h1
      subst e1
      subst e2
      have hin := nums_in e4
      have hnl := ntNums_length l
      clear h0 eT e4 T0
      have few : n ≤ 10 := by omega
      replace hn := hide hn
      replace hin := hide hin
      replace hnl := hide hnl
      clear e3
      go_enter Tryd.func8, Tryd.ntmps8
      go_wp2_with fail
      generalize w.alloc _ = w1 at *
      go_at_call 27
      refine (c1 _ S1).mono ?_
      rintro e w2 ⟨rfl, b2⟩
      have B2 := B0.keep b2 B0.lt
      have q0 := B2.cell 0
      have q3 := B2.cell 3
      have l2 := B2.lt
      have S2 := S1.call b2
      have bel2 := belowCall bel b2
      go_upto_region 10 with fail
      have BW0 := Blk.laid w2 [.slice none 0 0] 55 _ rfl
      have B3 := B2.alc (.cells #[.slice none 0 0] 55)
      have S3 := S2.alloc (.cells #[.slice none 0 0] 55)
      have b3 := newB (Below.refl w2.heap.size w2) (.cells #[.slice none 0 0] 55)
      have lw : w.heap.size ≤ w2.heap.size := bel2.size
      generalize hbw : w2.heap.size = bw at *
      generalize w2.alloc _ = w3 at *
      have fz : w3.frozen? ⟨bw, 0, none⟩ = false := BW0.free 0
      have z0 : w3.cell? ⟨bw, 0, none⟩ = some (.slice none 0 0) := BW0.cell 0
      have lb : bw < w3.heap.size := BW0.lt
      go_upto_region 11 with fail
      obtain ⟨BW, own, bw4⟩ := first_word w3 bw BW0 ⟨#[98, 97, 116, 99, 104]⟩
      have b4 := b3.trans bw4
      have B4 := B3.keep bw4 l2
      have bel4 : Below w.heap.size w _ := bel2.trans (b4.mono lw)
      generalize World.alloc (World.setCell w3 _ _) _ = w4 at *
      have p3 : w4.cell? ⟨w.heap.size, 3, none⟩ = some (.slice a n cap) := B4.cell 3
      have l4 := B4.lt
      have htab : ∀ W, Below bw w4 W → Lib.TabIs Tryd.prog W "internal/strconv.uint64pow10" .u64 Lib.pow10Tab := fun W h => htab0 W (bel4.trans (h.mono lw))
      clear z0 fz q0 q3 BW0 B3 S3 S2 S1 B2 B0 b3 b2 bw4 b4 hbw lb c1
      generalize w3.heap.size = g0 at *
      go_wp2_with fail
      go_loopw [29] (fun i wr => ∃ (k : Nat) (ao : Option Addr) (H kk : Nat), k ≤ n ∧ i = .int .i64 k ∧ kk = 1 + k * 3 ∧ Blk wr bw [.slice ao kk H] 55 ∧ wr.ownsRow (bw + 1) 9 1 (.slice ao kk H) kk ((⟨#[98, 97, 116, 99, 104]⟩ :: (ntNums (l.take k)).map itB).map Value.string) ∧ Below bw w4 wr) (fun i _ => n - (intOf i).toNat)
      case atStart => exact ⟨0, _, _, 1, Nat.zero_le _, rfl, rfl, BW, own, Below.refl _ _⟩
      case round =>
        clear BW own
        obtain ⟨k, ao, H, kk, hk, rfl, hkk, BW, own, bel5⟩ := hrel
        by_cases hlt : k < n
        · have hkl : k < l.length := by rw [← hn.out]; exact hlt
          obtain ⟨b1, o1, rfl, hb1l⟩ := S.where ec_three (by decide) (by intro h; subst h; simp at hkl)
          obtain ⟨x, hx⟩ : ∃ x, l[k]? = some x := ⟨_, List.getElem?_eq_getElem hkl⟩
          have s1 := S.keep (bel4.trans (bel5.mono lw)) (Nat.le_refl _)
          have d0 := s1.cell ec_three k 0 x _ hx rfl
          have d1 := s1.cell ec_three k 1 x _ hx rfl
          have d2 := s1.cell ec_three k 2 x _ hx rfl
          simp only [Nat.add_zero] at d0
          have hT : (ntNums (l.take k)).map itB ++ [x.1, x.2.1, x.2.2].map itB = (ntNums (l.take (k + 1))).map itB := by
            rw [List.take_add_one, hx]
            unfold ntNums
            simp
          have hxin : ∀ m ∈ [x.1, x.2.1, x.2.2], -9223372036854775808 ≤ m ∧ m ≤ 9223372036854775807 := fun m hm => hin.out m (by
            unfold ntNums
            exact List.mem_flatMap.2 ⟨x, List.mem_of_getElem? hx, hm⟩)
          obtain ⟨xs, xt, xv⟩ := x
          simp only at *
          replace hx := hide hx
          clear s1 hkl
          have BX := Blk.laid wr [.int .i64 xs, .int .i64 xt, .int .i64 xv] 59 _ rfl
          have bX := newB (Below.refl wr.heap.size wr) (.cells #[.int .i64 xs, .int .i64 xt, .int .i64 xv] 59)
          have lbw := BW.lt
          have cs := fun g hg => say_laid [xs, xt, xv] bw kk g ao H _ (wr.alloc (.cells #[.int .i64 xs, .int .i64 xt, .int .i64 xv] 59)) (by simp) (by omega) (BW.alc _) (own.alloc _) hg hxin (fun W h => htab W ((bel5.trans (bX.mono (Nat.le_of_lt lbw))).trans h))
          rw [List.cons_append, hT] at cs
          clear hxin hT
          replace hkk := hide hkk
          go_wp2_with fail
          go_at_call 28
          refine (cs _ (by simp)).mono ?_
          rintro e w6 ⟨rfl, a6, G6, BW6, own6, b6⟩
          go_wp2_with fail
          go_roundw
          case rel => exact ⟨k + 1, a6, G6, kk + 3, by omega, by go_num, by rw [hkk.out]; omega, BW6, own6, bel5.trans ((bX.mono (Nat.le_of_lt lbw)).trans b6)⟩
          case measure => simp [intOf]; omega
        · obtain rfl : n = k := by omega
          rw [List.take_of_length_le (by rw [← hn.out]; exact Nat.le_refl _)] at own
          have cJ := join_own ⟨#[98, 97, 116, 99, 104]⟩ (ntNums l) own (by rw [hnl.out, ← hn.out]; omega) (by decide) hin.out
          have e0 : wr.cell? ⟨bw, 0, none⟩ = some (.slice ao kk H) := BW.cell 0
          replace hkk := hide hkk
          go_wp2_with fail
          go_at_call 30
          refine cJ.mono ?_
          rintro e w6 ⟨rfl, b6⟩
          go_wp2_with fail
          go_ret2
          exact ⟨rfl, belowCall (bel4.trans (bel5.mono lw)) b6⟩
    · obtain ⟨hk, e1, e2, e3, e4, e5, e6⟩ := recE_plain h0 h1
      have eT : recT r = (if r.k = 2 then wSeal ++ numsT [r.s, r.n] else if r.k = 3 then wMerge ++ numsT [r.s, r.n] else wDrop ++ numsT [r.n]) := by unfold recT; rw [if_pos h0, if_neg h1]
      rw [eT]
      clear eT T0 h0
      obtain ⟨k, s, m, l⟩ := r
      simp only at *
      subst e1
      replace hn := hide hn
      rcases hk with rfl | rfl | rfl
      · clear e2
        rw [if_pos rfl]
        have hin : ∀ x ∈ [s, m], -9223372036854775808 ≤ x ∧ x ≤ 9223372036854775807 := by simp; omega
        go_enter Tryd.func8, Tryd.ntmps8
        go_wp2_with fail
        generalize w.alloc _ = w1 at *
        go_at_call 27
        refine (c1 _ S1).mono ?_
        rintro e w2 ⟨rfl, b2⟩
        have B2 := B0.keep b2 B0.lt
        have q0 := B2.cell 0
        have l2 := B2.lt
        have bel2 := belowCall bel b2
        go_upto_region 18 with fail
        have BW0 := Blk.laid w2 [.slice none 0 0] 55 _ rfl
        have B3 := B2.alc (.cells #[.slice none 0 0] 55)
        have b3 := newB (Below.refl w2.heap.size w2) (.cells #[.slice none 0 0] 55)
        have lw : w.heap.size ≤ w2.heap.size := bel2.size
        generalize hbw : w2.heap.size = bw at *
        generalize w2.alloc _ = w3 at *
        obtain ⟨W1, W2, r1, r2, lk2, lk3, bM⟩ := lit_map w3
        have hmm := @run_makeMap Tryd.prog
        have BW1 := BW0.keep bM BW0.lt
        have B5 := B3.keep bM B3.lt
        have fz : W2.frozen? ⟨bw, 0, none⟩ = false := BW1.free 0
        have z0 : W2.cell? ⟨bw, 0, none⟩ = some (.slice none 0 0) := BW1.cell 0
        have p0 : W2.cell? ⟨w.heap.size, 0, none⟩ = some (.int .i64 2) := B5.cell 0
        have lb : bw < W2.heap.size := BW1.lt
        have l5 := B5.lt
        go_upto_region 19 with fail
        obtain ⟨BW, own, bw4⟩ := first_word W2 bw BW1 ⟨#[115, 101, 97, 108]⟩
        have b4 := (b3.trans (bM.mono (Nat.le_of_lt BW0.lt))).trans bw4
        have B4 := B5.keep bw4 l2
        have bel4 : Below w.heap.size w _ := bel2.trans (b4.mono lw)
        generalize World.alloc (World.setCell W2 _ _) _ = w4 at *
        have p1 : w4.cell? ⟨w.heap.size, 1, none⟩ = some (.int .i64 s) := B4.cell 1
        have p2 : w4.cell? ⟨w.heap.size, 2, none⟩ = some (.int .i64 m) := B4.cell 2
        have l4 := B4.lt
        have cs := fun g hg => say_laid [s, m] bw 1 g _ _ _ w4 (by simp) (by omega) BW own hg hin (fun W h => htab0 W (bel4.trans (h.mono lw)))
        clear z0 fz q0 BW0 B3 S1 B2 B0 b3 b2 bw4 b4 hbw lb c1 r1 r2 lk2 lk3 bM BW1 B5 p0
        go_wp2_with fail
        go_at_call 28
        refine (cs _ rfl).mono ?_
        rintro e w6 ⟨rfl, a6, G6, BW6, own6, b6⟩
        have e0 : w6.cell? ⟨bw, 0, none⟩ = some (.slice a6 3 G6) := BW6.cell 0
        have cJ := join_own ⟨#[115, 101, 97, 108]⟩ [s, m] own6 (by simp) (by decide) hin
        go_wp2_with fail
        go_at_call 30
        refine cJ.mono ?_
        rintro e w7 ⟨rfl, b7⟩
        go_wp2_with fail
        go_ret2
        exact ⟨rfl, belowCall (bel4.trans (b6.mono lw)) b7⟩
      · clear e2
        rw [if_neg (by decide), if_pos rfl]
        have hin : ∀ x ∈ [s, m], -9223372036854775808 ≤ x ∧ x ≤ 9223372036854775807 := by simp; omega
        go_enter Tryd.func8, Tryd.ntmps8
        go_wp2_with fail
        generalize w.alloc _ = w1 at *
        go_at_call 27
        refine (c1 _ S1).mono ?_
        rintro e w2 ⟨rfl, b2⟩
        have B2 := B0.keep b2 B0.lt
        have q0 := B2.cell 0
        have l2 := B2.lt
        have bel2 := belowCall bel b2
        go_upto_region 18 with fail
        have BW0 := Blk.laid w2 [.slice none 0 0] 55 _ rfl
        have B3 := B2.alc (.cells #[.slice none 0 0] 55)
        have b3 := newB (Below.refl w2.heap.size w2) (.cells #[.slice none 0 0] 55)
        have lw : w.heap.size ≤ w2.heap.size := bel2.size
        generalize hbw : w2.heap.size = bw at *
        generalize w2.alloc _ = w3 at *
        obtain ⟨W1, W2, r1, r2, lk2, lk3, bM⟩ := lit_map w3
        have hmm := @run_makeMap Tryd.prog
        have BW1 := BW0.keep bM BW0.lt
        have B5 := B3.keep bM B3.lt
        have fz : W2.frozen? ⟨bw, 0, none⟩ = false := BW1.free 0
        have z0 : W2.cell? ⟨bw, 0, none⟩ = some (.slice none 0 0) := BW1.cell 0
        have p0 : W2.cell? ⟨w.heap.size, 0, none⟩ = some (.int .i64 3) := B5.cell 0
        have lb : bw < W2.heap.size := BW1.lt
        have l5 := B5.lt
        go_upto_region 19 with fail
        obtain ⟨BW, own, bw4⟩ := first_word W2 bw BW1 ⟨#[109, 101, 114, 103, 101]⟩
        have b4 := (b3.trans (bM.mono (Nat.le_of_lt BW0.lt))).trans bw4
        have B4 := B5.keep bw4 l2
        have bel4 : Below w.heap.size w _ := bel2.trans (b4.mono lw)
        generalize World.alloc (World.setCell W2 _ _) _ = w4 at *
        have p1 : w4.cell? ⟨w.heap.size, 1, none⟩ = some (.int .i64 s) := B4.cell 1
        have p2 : w4.cell? ⟨w.heap.size, 2, none⟩ = some (.int .i64 m) := B4.cell 2
        have l4 := B4.lt
        have cs := fun g hg => say_laid [s, m] bw 1 g _ _ _ w4 (by simp) (by omega) BW own hg hin (fun W h => htab0 W (bel4.trans (h.mono lw)))
        clear z0 fz q0 BW0 B3 S1 B2 B0 b3 b2 bw4 b4 hbw lb c1 r1 r2 lk2 lk3 bM BW1 B5 p0
        go_wp2_with fail
        go_at_call 28
        refine (cs _ rfl).mono ?_
        rintro e w6 ⟨rfl, a6, G6, BW6, own6, b6⟩
        have e0 : w6.cell? ⟨bw, 0, none⟩ = some (.slice a6 3 G6) := BW6.cell 0
        have cJ := join_own ⟨#[109, 101, 114, 103, 101]⟩ [s, m] own6 (by simp) (by decide) hin
        go_wp2_with fail
        go_at_call 30
        refine cJ.mono ?_
        rintro e w7 ⟨rfl, b7⟩
        go_wp2_with fail
        go_ret2
        exact ⟨rfl, belowCall (bel4.trans (b6.mono lw)) b7⟩
      · obtain rfl : s = 0 := e2 rfl
        clear e2
        rw [if_neg (by decide), if_neg (by decide)]
        have hin : ∀ x ∈ [m], -9223372036854775808 ≤ x ∧ x ≤ 9223372036854775807 := by simp; omega
        go_enter Tryd.func8, Tryd.ntmps8
        go_wp2_with fail
        generalize w.alloc _ = w1 at *
        go_at_call 27
        refine (c1 _ S1).mono ?_
        rintro e w2 ⟨rfl, b2⟩
        have B2 := B0.keep b2 B0.lt
        have q0 := B2.cell 0
        have l2 := B2.lt
        have bel2 := belowCall bel b2
        go_upto_region 7 with fail
        have BW0 := Blk.laid w2 [.slice none 0 0] 55 _ rfl
        have B3 := B2.alc (.cells #[.slice none 0 0] 55)
        have b3 := newB (Below.refl w2.heap.size w2) (.cells #[.slice none 0 0] 55)
        have lw : w.heap.size ≤ w2.heap.size := bel2.size
        generalize hbw : w2.heap.size = bw at *
        generalize w2.alloc _ = w3 at *
        have fz : w3.frozen? ⟨bw, 0, none⟩ = false := BW0.free 0
        have z0 : w3.cell? ⟨bw, 0, none⟩ = some (.slice none 0 0) := BW0.cell 0
        have lb : bw < w3.heap.size := BW0.lt
        go_upto_region 8 with fail
        obtain ⟨BW, own, bw4⟩ := first_word w3 bw BW0 ⟨#[100, 114, 111, 112]⟩
        have b4 := b3.trans bw4
        have B4 := B3.keep bw4 l2
        have bel4 : Below w.heap.size w _ := bel2.trans (b4.mono lw)
        generalize World.alloc (World.setCell w3 _ _) _ = w4 at *
        have p2 : w4.cell? ⟨w.heap.size, 2, none⟩ = some (.int .i64 m) := B4.cell 2
        have l4 := B4.lt
        have cs := fun g hg => say_laid [m] bw 1 g _ _ _ w4 (by simp) (by omega) BW own hg hin (fun W h => htab0 W (bel4.trans (h.mono lw)))
        clear z0 fz q0 BW0 B3 S1 B2 B0 b3 b2 bw4 b4 hbw lb c1
        go_wp2_with fail
        go_at_call 28
        refine (cs _ rfl).mono ?_
        rintro e w6 ⟨rfl, a6, G6, BW6, own6, b6⟩
        have e0 : w6.cell? ⟨bw, 0, none⟩ = some (.slice a6 2 G6) := BW6.cell 0
        have cJ := join_own ⟨#[100, 114, 111, 112]⟩ [m] own6 (by simp) (by decide) hin
        go_wp2_with fail
        go_at_call 30
        refine cJ.mono ?_
        rintro e w7 ⟨rfl, b7⟩
        go_wp2_with fail
        go_ret2
        exact ⟨rfl, belowCall (bel4.trans (b6.mono lw)) b7⟩
  · rw [T0 h0]
    have h0' : ¬ recE r = 0 := h0
    obtain ⟨E, hE'⟩ : ∃ E, E = recE r := ⟨_, rfl⟩
    rw [← hE'] at c1 h0' ⊢
    obtain ⟨k, s, m, l⟩ := r
    simp only at *
    have hd : decide (E = 0) = false := decide_eq_false h0'
    clear T0 h0 hE'
    replace hn := hide hn
    go_enter Tryd.func8, Tryd.ntmps8
    go_wp2_with fail
    generalize w.alloc _ = w1 at *
    go_at_call 27
    refine (c1 _ S1).mono ?_
    rintro e w2 ⟨rfl, b2⟩
    go_wp2_with fail
    go_ret2
    exact ⟨rfl, belowCall bel b2⟩

end Go.Proofs.YthoclnjfbigdiaaDoor
