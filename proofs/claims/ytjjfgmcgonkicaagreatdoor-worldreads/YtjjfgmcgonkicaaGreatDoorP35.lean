/-
  The map literal of the reference's RecText: two words, looked up by their numbers.
-/
import Derived.Maps.OwnSet
import Derived.Maps.Views
import Derived.Maps.StringElems
import Derived.Lib.SliceRun
import Derived.Deep.DeepAppendWide
import Derived.Test.YtjjfgmcgonkicaaGreatDoorP06
import Derived.Test.YtjjfgmcgonkicaaGreatDoorP33
import Derived.Test.YtjjfgmcgonkicaaGreatDoorP32
import Derived.Test.YtjjfgmcgonkicaaGreatDoorP34
import Derived.Test.YtjjfgmcgonkicaaGreatDoorP31
import Derived.Test.YtjjfgmcgonkicaaGreatDoorP05
import Derived.Test.YtjjfgmcgonkicaaGreatDoorP17
import Derived.Test.YtjjfgmcgonkicaaGreatDoorP01
namespace Go.Proofs.YtjjfgmcgonkicaaGreatDoor
open Go.RowKit Go.Maps

theorem mapLaw : Keyed Tryz.prog 3 := int_keyed Tryz.underlying3

def sealB : ByteArray := ⟨#[115, 101, 97, 108]⟩
def mergeWB : ByteArray := ⟨#[109, 101, 114, 103, 101]⟩

theorem zeroS (w : World) : (zeroValue 9).run Tryz.prog w = .ok (.string ⟨#[]⟩) w := by kernel_rfl

theorem lookS {w : World} {b n : Nat} {D : DataW Unit} (h : w.ownsMap Tryz.prog 3 (plainElem Tryz.prog 9) b n D) (k : Int) (hk : (Lit.int .i64 k).wf = true) (s : ByteArray) (hD : D.atKey (.int .i64 k) (.lit (.string [])) = .lit (.string s.data.toList)) :
    (Instr.lookup 162 (.map (some b)) (.int .i64 k) false).run Tryz.prog w = .ok (.string s) w := by
  obtain ⟨v, ps, hrun, hv⟩ := h.lookup mapLaw Tryz.underlying162 (zeroS w) (plainElem_string (s := ⟨#[]⟩) Tryz.underlying9 (by decide)) (keyOf_int_mk Tryz.underlying3 hk)
  obtain ⟨s', rfl, hz, _⟩ := plainElem_string_inv Tryz.underlying9 hv
  simp only [Prod.mk.injEq] at hz
  have e := hz.1.symm.trans hD
  simp only [DataW.lit.injEq, Lit.string.injEq] at e
  rw [hrun]
  have : s' = s := by
    cases s' with | mk d => cases s with | mk d' => simp only [ByteArray.mk.injEq]; exact Array.toList_inj.1 e
  rw [this]

theorem lit_map (w : World) : ∃ W1 W2 : World, (Instr.mapUpdate 162 (.map (some w.heap.size)) (.int .i64 2) (.string ⟨#[115, 101, 97, 108]⟩)).run Tryz.prog (w.alloc (.map #[] 0)) = .ok () W1 ∧
    (Instr.mapUpdate 162 (.map (some w.heap.size)) (.int .i64 3) (.string ⟨#[109, 101, 114, 103, 101]⟩)).run Tryz.prog W1 = .ok () W2 ∧
    (Instr.lookup 162 (.map (some w.heap.size)) (.int .i64 2) false).run Tryz.prog W2 = .ok (.string ⟨#[115, 101, 97, 108]⟩) W2 ∧
    (Instr.lookup 162 (.map (some w.heap.size)) (.int .i64 3) false).run Tryz.prog W2 = .ok (.string ⟨#[109, 101, 114, 103, 101]⟩) W2 ∧ Below w.heap.size w W2 := by
  have h0 : (w.alloc (.map #[] 0)).ownsMap Tryz.prog 3 (plainElem (H := Unit) Tryz.prog 9) w.heap.size 0 (.map []) := World.ownsMap_made _ _ _ _
  obtain ⟨W1, r1, h1, g1⟩ := h0.update mapLaw Tryz.underlying162 (by decide) (keyOf_int_mk Tryz.underlying3 (a := 2) (by decide)) (plainElem_string (s := sealB) Tryz.underlying9 (by decide))
  obtain ⟨W2, r2, h2, g2⟩ := h1.update mapLaw Tryz.underlying162 (by decide) (keyOf_int_mk Tryz.underlying3 (a := 3) (by decide)) (plainElem_string (s := mergeWB) Tryz.underlying9 (by decide))
  refine ⟨W1, W2, r1, r2, lookS h2 2 (by decide) sealB ?_, lookS h2 3 (by decide) mergeWB ?_, ?_⟩
  · rw [atKey_put_other (by intro h; cases h)]
    rfl
  · rfl
  · have b0 : Below w.heap.size w (w.alloc (.map #[] 0)) := (Below.refl _ _).alloc (Nat.le_refl _) _
    have b1 := b0.grown g1 b0.size (fun k hk => by cases hk; exact Nat.le_refl _)
    exact b1.grown g2 b1.size (fun k hk => by cases hk; exact Nat.le_refl _)

end Go.Proofs.YtjjfgmcgonkicaaGreatDoor

/-
  The reference's RecText: the text of a record, or what is wrong with it.
-/
namespace Go.Proofs.YtjjfgmcgonkicaaGreatDoor
open Go.RowKit

theorem numsT_tail (ns : List Int) : Lib.joinTail [32] ((ns.map itB).map (·.data.toList)) = numsT ns := by
  unfold Lib.joinTail numsT
  induction ns with
  | nil => rfl
  | cons n r ih =>
    simp only [List.map_cons, List.flatten_cons, List.flatMap_cons, ih]
    simp [itB]

theorem join_words (b : ByteArray) (ns : List Int) : Lib.join ((b :: ns.map itB).map (·.data.toList)) [32] = b.data.toList ++ numsT ns := by
  rw [List.map_cons, Lib.join_cons, numsT_tail]

theorem ownLaidT {w : World} {g base : Nat} {cs : List Value} {t : TypeId} (B : Blk w g cs t) (hb : base ≤ g) (few : cs.length ≤ 1000) : w.ownsRow base t 1 (.slice (some ⟨g, 0, none⟩) cs.length cs.length) cs.length cs :=
  ⟨by rw [Nat.mul_one], .inr ⟨g, cs.length, cs.toArray, rfl, hb, B, Nat.le_refl _, by unfold maxLen; omega, by simp, by simp⟩⟩

/-- strings.Join of words in a slice of the call's own. -/
theorem join_own {w : World} {base n : Nat} {a : Option Addr} {G : Nat} (b : ByteArray) (ns : List Int) (o : w.ownsRow base 9 1 (.slice a n G) n ((b :: ns.map itB).map Value.string)) (few : ns.length ≤ 100) (hb : b.size ≤ 100) (hin : ∀ n ∈ ns, -9223372036854775808 ≤ n ∧ n ≤ 9223372036854775807) :
    Calls Tryz.prog 116 #[.slice a n G, .string ⟨#[32]⟩] w fun e w' => e = .returned (.string ⟨(b.data.toList ++ numsT ns).toArray⟩) ∧ Below w.heap.size w w' := by
  obtain ⟨h1, ⟨h2, h3⟩ | ⟨g, cap, cur, e1, hg, hh, hn, hm, hs, ht⟩⟩ := o
  · subst h3
    simp at h1
  · simp only [Value.slice.injEq, true_and] at e1
    obtain ⟨rfl, rfl⟩ := e1
    have hl := numsT_le ns hin
    have hn' : n = (b :: ns.map itB).length := by have := h1; rw [List.length_map, Nat.mul_one] at this; exact this.symm
    have hl2 : (b :: ns.map itB).length = ns.length + 1 := by rw [List.length_cons, List.length_map]
    have c := Tryz.strings_Join g 0 G (b :: ns.map itB) ⟨#[32]⟩ w (fun j x hx => ?_) (lt_of_block hh) (by omega) (by rw [← hn']; exact hn) (by
      rw [show (⟨#[32]⟩ : ByteArray).data.toList = [32] from rfl, join_words, List.length_append]
      have : b.data.toList.length = b.size := Array.length_toList
      omega)
    · rw [show (⟨#[32]⟩ : ByteArray).data.toList = [32] from rfl, join_words, ← hn'] at c
      exact c
    · have hj : j < n := by rw [hn']; exact (List.getElem?_eq_some_iff.1 hx).1
      have : ((b :: ns.map itB).map Value.string)[j]? = some (.string x) := by rw [List.getElem?_map, hx]; rfl
      rw [← ht, List.getElem?_take, if_pos (by omega)] at this
      simp only [World.cell?, hh, Nat.zero_add]
      simpa using this

theorem first_word (w3 : World) (bw : Nat) (BW0 : Blk w3 bw [.slice none 0 0] 132) (b : ByteArray) :
    Blk ((w3.setCell ⟨bw, 0, none⟩ (.slice (some ⟨w3.heap.size, 0, none⟩) 1 1)).alloc (.cells #[.string b] 9)) bw [.slice (some ⟨w3.heap.size, 0, none⟩) 1 1] 132 ∧
    ((w3.setCell ⟨bw, 0, none⟩ (.slice (some ⟨w3.heap.size, 0, none⟩) 1 1)).alloc (.cells #[.string b] 9)).ownsRow (bw + 1) 9 1 (.slice (some ⟨w3.heap.size, 0, none⟩) 1 1) 1 ([b].map Value.string) ∧
    Below bw w3 ((w3.setCell ⟨bw, 0, none⟩ (.slice (some ⟨w3.heap.size, 0, none⟩) 1 1)).alloc (.cells #[.string b] 9)) := by
  have lb := BW0.lt
  have hs : (w3.setCell ⟨bw, 0, none⟩ (.slice (some ⟨w3.heap.size, 0, none⟩) 1 1)).heap.size = w3.heap.size := by simp
  have K := Blk.laid (w3.setCell ⟨bw, 0, none⟩ (.slice (some ⟨w3.heap.size, 0, none⟩) 1 1)) [.string b] 9 w3.heap.size hs.symm
  exact ⟨(BW0.set 0 _).alc _, ownLaidT K lb (by simp), ((Below.refl bw w3).setCell (p := ⟨bw, 0, none⟩) (Nat.le_refl _) _).alloc (by rw [hs]; exact Nat.le_of_lt lb) _⟩

set_option maxHeartbeats 2000000 in
set_option maxRecDepth 100000 in
theorem rtext_is (r : Rc) (a : Option Addr) (cap n : Nat) (w : World) (hg : Gl w) (S : SlW ec w a cap r.e) (hn : n = r.e.length) :
    Calls Tryz.prog 89 #[.agg #[.int .i64 r.k, .int .i64 r.s, .int .i64 r.n, .slice a n cap]] w fun e w' => e = .returned (.tuple #[.string ⟨(recT r).toArray⟩, .int .i64 (recE r)]) ∧ Below w.heap.size w w' := by
  have c1 := fun W h => rcheck_is r a cap n W h hn
  have T0 : recE r ≠ 0 → recT r = [] := fun h => if_neg h
  have S1 := S.alloc (.cells #[.int .i64 r.k, .int .i64 r.s, .int .i64 r.n, .slice a n cap] 93)
  have B0 := Blk.laid w [.int .i64 r.k, .int .i64 r.s, .int .i64 r.n, .slice a n cap] 93 _ rfl
  have bel : Below w.heap.size w (w.alloc (.cells #[.int .i64 r.k, .int .i64 r.s, .int .i64 r.n, .slice a n cap] 93)) := (Below.refl _ _).alloc (Nat.le_refl _) _
  have htab0 := Lib.tabBelow_of_tabIs hg.tab
  by_cases h0 : recE r = 0
  · rw [h0] at c1
    rw [h0]
    by_cases h1 : r.k = 1
    · obtain ⟨e1, e2, e3, e4⟩ := recE_few h0 h1
      have eT : recT r = wBatch ++ numsT (ntNums r.e) := by unfold recT; rw [if_pos h0, if_pos h1]
      rw [eT]
      obtain ⟨k, s, m, l⟩ := r
      simp only at *
      subst h1
      subst e1
      subst e2
      have hin := nums_in e4
      have hnl := ntNums_length l
      clear h0 eT e4 T0
      have few : n ≤ 10 := by omega
      replace hn := hide hn
      replace hin := hide hin
      replace hnl := hide hnl
      clear e3
      go_enter Tryz.func89, Tryz.ntmps89
      go_wp2_with fail
      generalize w.alloc _ = w1 at *
      go_at_call 59
      refine (c1 _ S1).mono ?_
      rintro e w2 ⟨rfl, b2⟩
      have B2 := B0.keep b2 B0.lt
      have q0 := B2.cell 0
      have q3 := B2.cell 3
      have l2 := B2.lt
      have S2 := S1.call b2
      have bel2 := belowCall bel b2
      go_upto_region 10 with fail
      have BW0 := Blk.laid w2 [.slice none 0 0] 132 _ rfl
      have B3 := B2.alc (.cells #[.slice none 0 0] 132)
      have S3 := S2.alloc (.cells #[.slice none 0 0] 132)
      have b3 := newB (Below.refl w2.heap.size w2) (.cells #[.slice none 0 0] 132)
      have lw : w.heap.size ≤ w2.heap.size := bel2.size
      generalize hbw : w2.heap.size = bw at *
      generalize w2.alloc _ = w3 at *
      have fz : w3.frozen? ⟨bw, 0, none⟩ = false := BW0.free 0
      have z0 : w3.cell? ⟨bw, 0, none⟩ = some (.slice none 0 0) := BW0.cell 0
      have lb : bw < w3.heap.size := BW0.lt
      go_upto_region 11 with fail
      obtain ⟨BW, own, bw4⟩ := first_word w3 bw BW0 ⟨#[98, 97, 116, 99, 104]⟩
      have b4 := b3.trans bw4
      have B4 := B3.keep bw4 l2
      have bel4 : Below w.heap.size w _ := bel2.trans (b4.mono lw)
      generalize World.alloc (World.setCell w3 _ _) _ = w4 at *
      have p3 : w4.cell? ⟨w.heap.size, 3, none⟩ = some (.slice a n cap) := B4.cell 3
      have l4 := B4.lt
      have htab : ∀ W, Below bw w4 W → Lib.TabIs Tryz.prog W "internal/strconv.uint64pow10" .u64 Lib.pow10Tab := fun W h => htab0 W (bel4.trans (h.mono lw))
      clear z0 fz q0 q3 BW0 B3 S3 S2 S1 B2 B0 b3 b2 bw4 b4 hbw lb c1
      generalize w3.heap.size = g0 at *
      go_wp2_with fail
      go_loopw [29] (fun i wr => ∃ (k : Nat) (ao : Option Addr) (H kk : Nat), k ≤ n ∧ i = .int .i64 k ∧ kk = 1 + k * 3 ∧ Blk wr bw [.slice ao kk H] 132 ∧ wr.ownsRow (bw + 1) 9 1 (.slice ao kk H) kk ((⟨#[98, 97, 116, 99, 104]⟩ :: (ntNums (l.take k)).map itB).map Value.string) ∧ Below bw w4 wr) (fun i _ => n - (intOf i).toNat)
      case atStart => exact ⟨0, _, _, 1, Nat.zero_le _, rfl, rfl, BW, own, Below.refl _ _⟩
      case round =>
        clear BW own
        obtain ⟨k, ao, H, kk, hk, rfl, hkk, BW, own, bel5⟩ := hrel
        by_cases hlt : k < n
        · have hkl : k < l.length := by rw [← hn.out]; exact hlt
          obtain ⟨b1, o1, rfl, hb1l⟩ := S.where ec_three (by decide) (by intro h; subst h; simp at hkl)
          obtain ⟨x, hx⟩ : ∃ x, l[k]? = some x := ⟨_, List.getElem?_eq_getElem hkl⟩
          have s1 := S.keep (bel4.trans (bel5.mono lw)) (Nat.le_refl _)
          have d0 := s1.cell ec_three k 0 x _ hx rfl
          have d1 := s1.cell ec_three k 1 x _ hx rfl
          have d2 := s1.cell ec_three k 2 x _ hx rfl
          simp only [Nat.add_zero] at d0
          have hT : (ntNums (l.take k)).map itB ++ [x.1, x.2.1, x.2.2].map itB = (ntNums (l.take (k + 1))).map itB := by
            rw [List.take_add_one, hx]
            unfold ntNums
            simp
          have hxin : ∀ m ∈ [x.1, x.2.1, x.2.2], -9223372036854775808 ≤ m ∧ m ≤ 9223372036854775807 := fun m hm => hin.out m (by
            unfold ntNums
            exact List.mem_flatMap.2 ⟨x, List.mem_of_getElem? hx, hm⟩)
          obtain ⟨xs, xt, xv⟩ := x
          simp only at *
          replace hx := hide hx
          clear s1 hkl
          have BX := Blk.laid wr [.int .i64 xs, .int .i64 xt, .int .i64 xv] 84 _ rfl
          have bX := newB (Below.refl wr.heap.size wr) (.cells #[.int .i64 xs, .int .i64 xt, .int .i64 xv] 84)
          have lbw := BW.lt
          have cs := fun g hg => say_laid [xs, xt, xv] bw kk g ao H _ (wr.alloc (.cells #[.int .i64 xs, .int .i64 xt, .int .i64 xv] 84)) (by simp) (by omega) (BW.alc _) (own.alloc _) hg hxin (fun W h => htab W ((bel5.trans (bX.mono (Nat.le_of_lt lbw))).trans h))
          rw [List.cons_append, hT] at cs
          clear hxin hT
          replace hkk := hide hkk
          go_wp2_with fail
          go_at_call 114
          refine (cs _ (by simp)).mono ?_
          rintro e w6 ⟨rfl, a6, G6, BW6, own6, b6⟩
          go_wp2_with fail
          go_roundw
          case rel => exact ⟨k + 1, a6, G6, kk + 3, by omega, by go_num, by rw [hkk.out]; omega, BW6, own6, bel5.trans ((bX.mono (Nat.le_of_lt lbw)).trans b6)⟩
          case measure => simp [intOf]; omega
        · obtain rfl : n = k := by omega
          rw [List.take_of_length_le (by rw [← hn.out]; exact Nat.le_refl _)] at own
          have cJ := join_own ⟨#[98, 97, 116, 99, 104]⟩ (ntNums l) own (by rw [hnl.out, ← hn.out]; omega) (by decide) hin.out
          have e0 : wr.cell? ⟨bw, 0, none⟩ = some (.slice ao kk H) := BW.cell 0
          replace hkk := hide hkk
          go_wp2_with fail
          go_at_call 116
          refine cJ.mono ?_
          rintro e w6 ⟨rfl, b6⟩
          go_wp2_with fail
          go_ret2
          exact ⟨rfl, belowCall (bel4.trans (bel5.mono lw)) b6⟩
    · obtain ⟨hk, e1, e2, e3, e4, e5, e6⟩ := recE_plain h0 h1
      have eT : recT r = (if r.k = 2 then wSeal ++ numsT [r.s, r.n] else if r.k = 3 then wMerge ++ numsT [r.s, r.n] else wDrop ++ numsT [r.n]) := by unfold recT; rw [if_pos h0, if_neg h1]
      rw [eT]
      clear eT T0 h0
      obtain ⟨k, s, m, l⟩ := r
      simp only at *
      subst e1
      replace hn := hide hn
      rcases hk with rfl | rfl | rfl
      · clear e2
        rw [if_pos rfl]
        have hin : ∀ x ∈ [s, m], -9223372036854775808 ≤ x ∧ x ≤ 9223372036854775807 := by simp; omega
        go_enter Tryz.func89, Tryz.ntmps89
        go_wp2_with fail
        generalize w.alloc _ = w1 at *
        go_at_call 59
        refine (c1 _ S1).mono ?_
        rintro e w2 ⟨rfl, b2⟩
        have B2 := B0.keep b2 B0.lt
        have q0 := B2.cell 0
        have l2 := B2.lt
        have bel2 := belowCall bel b2
        go_upto_region 18 with fail
        have BW0 := Blk.laid w2 [.slice none 0 0] 132 _ rfl
        have B3 := B2.alc (.cells #[.slice none 0 0] 132)
        have b3 := newB (Below.refl w2.heap.size w2) (.cells #[.slice none 0 0] 132)
        have lw : w.heap.size ≤ w2.heap.size := bel2.size
        generalize hbw : w2.heap.size = bw at *
        generalize w2.alloc _ = w3 at *
        obtain ⟨W1, W2, r1, r2, lk2, lk3, bM⟩ := lit_map w3
        have hmm := @run_makeMap Tryz.prog
        have BW1 := BW0.keep bM BW0.lt
        have B5 := B3.keep bM B3.lt
        have fz : W2.frozen? ⟨bw, 0, none⟩ = false := BW1.free 0
        have z0 : W2.cell? ⟨bw, 0, none⟩ = some (.slice none 0 0) := BW1.cell 0
        have p0 : W2.cell? ⟨w.heap.size, 0, none⟩ = some (.int .i64 2) := B5.cell 0
        have lb : bw < W2.heap.size := BW1.lt
        have l5 := B5.lt
        go_upto_region 19 with fail
        obtain ⟨BW, own, bw4⟩ := first_word W2 bw BW1 ⟨#[115, 101, 97, 108]⟩
        have b4 := (b3.trans (bM.mono (Nat.le_of_lt BW0.lt))).trans bw4
        have B4 := B5.keep bw4 l2
        have bel4 : Below w.heap.size w _ := bel2.trans (b4.mono lw)
        generalize World.alloc (World.setCell W2 _ _) _ = w4 at *
        have p1 : w4.cell? ⟨w.heap.size, 1, none⟩ = some (.int .i64 s) := B4.cell 1
        have p2 : w4.cell? ⟨w.heap.size, 2, none⟩ = some (.int .i64 m) := B4.cell 2
        have l4 := B4.lt
        have cs := fun g hg => say_laid [s, m] bw 1 g _ _ _ w4 (by simp) (by omega) BW own hg hin (fun W h => htab0 W (bel4.trans (h.mono lw)))
        clear z0 fz q0 BW0 B3 S1 B2 B0 b3 b2 bw4 b4 hbw lb c1 r1 r2 lk2 lk3 bM BW1 B5 p0
        go_wp2_with fail
        go_at_call 114
        refine (cs _ rfl).mono ?_
        rintro e w6 ⟨rfl, a6, G6, BW6, own6, b6⟩
        have e0 : w6.cell? ⟨bw, 0, none⟩ = some (.slice a6 3 G6) := BW6.cell 0
        have cJ := join_own ⟨#[115, 101, 97, 108]⟩ [s, m] own6 (by simp) (by decide) hin
        go_wp2_with fail
        go_at_call 116
        refine cJ.mono ?_
        rintro e w7 ⟨rfl, b7⟩
        go_wp2_with fail
        go_ret2
        exact ⟨rfl, belowCall (bel4.trans (b6.mono lw)) b7⟩
      · clear e2
        rw [if_neg (by decide), if_pos rfl]
        have hin : ∀ x ∈ [s, m], -9223372036854775808 ≤ x ∧ x ≤ 9223372036854775807 := by simp; omega
        go_enter Tryz.func89, Tryz.ntmps89
        go_wp2_with fail
        generalize w.alloc _ = w1 at *
        go_at_call 59
        refine (c1 _ S1).mono ?_
        rintro e w2 ⟨rfl, b2⟩
        have B2 := B0.keep b2 B0.lt
        have q0 := B2.cell 0
        have l2 := B2.lt
        have bel2 := belowCall bel b2
        go_upto_region 18 with fail
        have BW0 := Blk.laid w2 [.slice none 0 0] 132 _ rfl
        have B3 := B2.alc (.cells #[.slice none 0 0] 132)
        have b3 := newB (Below.refl w2.heap.size w2) (.cells #[.slice none 0 0] 132)
        have lw : w.heap.size ≤ w2.heap.size := bel2.size
        generalize hbw : w2.heap.size = bw at *
        generalize w2.alloc _ = w3 at *
        obtain ⟨W1, W2, r1, r2, lk2, lk3, bM⟩ := lit_map w3
        have hmm := @run_makeMap Tryz.prog
        have BW1 := BW0.keep bM BW0.lt
        have B5 := B3.keep bM B3.lt
        have fz : W2.frozen? ⟨bw, 0, none⟩ = false := BW1.free 0
        have z0 : W2.cell? ⟨bw, 0, none⟩ = some (.slice none 0 0) := BW1.cell 0
        have p0 : W2.cell? ⟨w.heap.size, 0, none⟩ = some (.int .i64 3) := B5.cell 0
        have lb : bw < W2.heap.size := BW1.lt
        have l5 := B5.lt
        go_upto_region 19 with fail
        obtain ⟨BW, own, bw4⟩ := first_word W2 bw BW1 ⟨#[109, 101, 114, 103, 101]⟩
        have b4 := (b3.trans (bM.mono (Nat.le_of_lt BW0.lt))).trans bw4
        have B4 := B5.keep bw4 l2
        have bel4 : Below w.heap.size w _ := bel2.trans (b4.mono lw)
        generalize World.alloc (World.setCell W2 _ _) _ = w4 at *
        have p1 : w4.cell? ⟨w.heap.size, 1, none⟩ = some (.int .i64 s) := B4.cell 1
        have p2 : w4.cell? ⟨w.heap.size, 2, none⟩ = some (.int .i64 m) := B4.cell 2
        have l4 := B4.lt
        have cs := fun g hg => say_laid [s, m] bw 1 g _ _ _ w4 (by simp) (by omega) BW own hg hin (fun W h => htab0 W (bel4.trans (h.mono lw)))
        clear z0 fz q0 BW0 B3 S1 B2 B0 b3 b2 bw4 b4 hbw lb c1 r1 r2 lk2 lk3 bM BW1 B5 p0
        go_wp2_with fail
        go_at_call 114
        refine (cs _ rfl).mono ?_
        rintro e w6 ⟨rfl, a6, G6, BW6, own6, b6⟩
        have e0 : w6.cell? ⟨bw, 0, none⟩ = some (.slice a6 3 G6) := BW6.cell 0
        have cJ := join_own ⟨#[109, 101, 114, 103, 101]⟩ [s, m] own6 (by simp) (by decide) hin
        go_wp2_with fail
        go_at_call 116
        refine cJ.mono ?_
        rintro e w7 ⟨rfl, b7⟩
        go_wp2_with fail
        go_ret2
        exact ⟨rfl, belowCall (bel4.trans (b6.mono lw)) b7⟩
      · obtain rfl : s = 0 := e2 rfl
        clear e2
        rw [if_neg (by decide), if_neg (by decide)]
        have hin : ∀ x ∈ [m], -9223372036854775808 ≤ x ∧ x ≤ 9223372036854775807 := by simp; omega
        go_enter Tryz.func89, Tryz.ntmps89
        go_wp2_with fail
        generalize w.alloc _ = w1 at *
        go_at_call 59
        refine (c1 _ S1).mono ?_
        rintro e w2 ⟨rfl, b2⟩
        have B2 := B0.keep b2 B0.lt
        have q0 := B2.cell 0
        have l2 := B2.lt
        have bel2 := belowCall bel b2
        go_upto_region 7 with fail
        have BW0 := Blk.laid w2 [.slice none 0 0] 132 _ rfl
        have B3 := B2.alc (.cells #[.slice none 0 0] 132)
        have b3 := newB (Below.refl w2.heap.size w2) (.cells #[.slice none 0 0] 132)
        have lw : w.heap.size ≤ w2.heap.size := bel2.size
        generalize hbw : w2.heap.size = bw at *
        generalize w2.alloc _ = w3 at *
        have fz : w3.frozen? ⟨bw, 0, none⟩ = false := BW0.free 0
        have z0 : w3.cell? ⟨bw, 0, none⟩ = some (.slice none 0 0) := BW0.cell 0
        have lb : bw < w3.heap.size := BW0.lt
        go_upto_region 8 with fail
        obtain ⟨BW, own, bw4⟩ := first_word w3 bw BW0 ⟨#[100, 114, 111, 112]⟩
        have b4 := b3.trans bw4
        have B4 := B3.keep bw4 l2
        have bel4 : Below w.heap.size w _ := bel2.trans (b4.mono lw)
        generalize World.alloc (World.setCell w3 _ _) _ = w4 at *
        have p2 : w4.cell? ⟨w.heap.size, 2, none⟩ = some (.int .i64 m) := B4.cell 2
        have l4 := B4.lt
        have cs := fun g hg => say_laid [m] bw 1 g _ _ _ w4 (by simp) (by omega) BW own hg hin (fun W h => htab0 W (bel4.trans (h.mono lw)))
        clear z0 fz q0 BW0 B3 S1 B2 B0 b3 b2 bw4 b4 hbw lb c1
        go_wp2_with fail
        go_at_call 114
        refine (cs _ rfl).mono ?_
        rintro e w6 ⟨rfl, a6, G6, BW6, own6, b6⟩
        have e0 : w6.cell? ⟨bw, 0, none⟩ = some (.slice a6 2 G6) := BW6.cell 0
        have cJ := join_own ⟨#[100, 114, 111, 112]⟩ [m] own6 (by simp) (by decide) hin
        go_wp2_with fail
        go_at_call 116
        refine cJ.mono ?_
        rintro e w7 ⟨rfl, b7⟩
        go_wp2_with fail
        go_ret2
        exact ⟨rfl, belowCall (bel4.trans (b6.mono lw)) b7⟩
  · rw [T0 h0]
    have h0' : ¬ recE r = 0 := h0
    obtain ⟨E, hE'⟩ : ∃ E, E = recE r := ⟨_, rfl⟩
    rw [← hE'] at c1 h0' ⊢
    obtain ⟨k, s, m, l⟩ := r
    simp only at *
    have hd : decide (E = 0) = false := decide_eq_false h0'
    clear T0 h0 hE'
    replace hn := hide hn
    go_enter Tryz.func89, Tryz.ntmps89
    go_wp2_with fail
    generalize w.alloc _ = w1 at *
    go_at_call 59
    refine (c1 _ S1).mono ?_
    rintro e w2 ⟨rfl, b2⟩
    go_wp2_with fail
    go_ret2
    exact ⟨rfl, belowCall bel b2⟩

end Go.Proofs.YtjjfgmcgonkicaaGreatDoor

/-
  The reference's PutOn, of a right disk.
-/
namespace Go.Proofs.YtjjfgmcgonkicaaGreatDoor
open Go.RowKit
open Go.Lib (byteCells)

/-- What the plain operations of PutOn's last region yield. -/
def pvX (D g : Nat) (s1 s2 : Value) (TX TL : ByteArray) (cp : Nat) : Nat → Value → Prop
  | 0, v => v = .pointer (some ⟨D, 0, none⟩)
  | 1, v => v = s1
  | 2, v => v = .pointer (some ⟨D, 1, none⟩)
  | 3, v => v = s2
  | 4, v => v = .string TX
  | 5, v => v = .string TL
  | 6, v => v = .slice (some ⟨g, 0, none⟩) TL.size cp
  | 7, v => v = .slice (some ⟨g + 1, 0, none⟩) 2 2
  | _, _ => True

/-- What holds while the last region of PutOn comes up in whatever order. -/
structure PutX (w w5 Wa Wb : World) (X M : Nat) (pv : Nat → Value → Prop) (L2 : List UInt8) (d : Nat → Bool) (V : Nat → Value) (W : World) : Prop where
  w0 : d 6 = false → d 7 = false → d 8 = false → d 10 = false → W = w5.drew
  w6 : d 6 = true → d 7 = false → d 8 = false → d 10 = false → W = Wa
  w7 : d 7 = true → d 8 = false → d 10 = false → W = Wb
  bel : d 10 = false → Below w5.heap.size w5 W
  vals : ∀ i, d i = true → pv i (V i)
  v8 : d 8 = true → ∃ ao G, V 8 = .slice ao M G ∧ Sl W ao G (byteCells L2)
  v9 : d 9 = true → V 9 = .agg #[V 1, V 8]
  fin : d 10 = true → Blk W X [V 1, V 8] 27 ∧ Below w.heap.size w W

theorem PutX.pure {w w5 Wa Wb : World} {X M : Nat} {pv : Nat → Value → Prop} {L2 : List UInt8} {d : Nat → Bool} {V : Nat → Value} {W : World} (h : PutX w w5 Wa Wb X M pv L2 d V W) (i : Nat) (h6 : i ≠ 6) (h7 : i ≠ 7) (h8 : i ≠ 8) (h9 : i ≠ 9) (h10 : i ≠ 10) (h1 : i = 1 → d 9 = false ∧ d 10 = false) (v : Value) (hv : pv i v) :
    PutX w w5 Wa Wb X M pv L2 (fun k => k == i || d k) (putV V i v) W := by
  have e : ∀ k, k ≠ i → (k == i || d k) = d k := fun k hk => by simp [hk]
  have e6 := e 6 (Ne.symm h6)
  have e7 := e 7 (Ne.symm h7)
  have e8 := e 8 (Ne.symm h8)
  have e9 := e 9 (Ne.symm h9)
  have e10 := e 10 (Ne.symm h10)
  refine ⟨?_, ?_, ?_, ?_, valsE_put h.vals i v hv, ?_, ?_, ?_⟩
  · intro a b c f; simp only [e6, e7, e8, e10] at a b c f; exact h.w0 a b c f
  · intro a b c f; simp only [e6, e7, e8, e10] at a b c f; exact h.w6 a b c f
  · intro a b c; simp only [e7, e8, e10] at a b c; exact h.w7 a b c
  · intro a; simp only [e10] at a; exact h.bel a
  · intro a; simp only [e8] at a; rw [putV_ne (Ne.symm h8)]; exact h.v8 a
  · intro a
    simp only [e9] at a
    by_cases hi : i = 1
    · rw [(h1 hi).1] at a; cases a
    · rw [putV_ne (Ne.symm h9), putV_ne (Ne.symm h8), putV_ne (Ne.symm hi)]; exact h.v9 a
  · intro a
    simp only [e10] at a
    by_cases hi : i = 1
    · rw [(h1 hi).2] at a; cases a
    · rw [putV_ne (Ne.symm h8), putV_ne (Ne.symm hi)]; exact h.fin a

theorem sumX (n1 n2 tx t tl wl : Nat) (h1 : tx = t) (h2 : tl = t + 1) (few : n1 + n2 ≤ 60000) (ht : t ≤ 60000) (hw : wl = n2 + (t + 1)) :
    ∃ N N1 M : Nat, (n1 : Int) + (n2 : Int) = (N : Int) ∧ (N : Int) + (tx : Int) = (N1 : Int) ∧ (N1 : Int) + 1 = (M : Int) ∧ wrap64 (N : Int) = (N : Int) ∧ wrap64 (N1 : Int) = (N1 : Int) ∧ wrap64 (M : Int) = (M : Int) ∧ n1 + n2 + (t + 1) = M ∧ n2 + tl = wl ∧ (M ≤ 60000 → n2 + tl ≤ 1000000) ∧ tl ≤ 1000000 := by
  refine ⟨n1 + n2, n1 + n2 + tx, n1 + n2 + tx + 1, by omega, by omega, by omega, by unfold wrap64; omega, by unfold wrap64; omega, by unfold wrap64; omega, by omega, by omega, by omega, by omega⟩

set_option maxHeartbeats 2000000 in
set_option maxRecDepth 100000 in
theorem rput_any (d : Dk) (r : Rc) (a1 a2 a3 : Option Addr) (c1 c2 c3 n1 n2 n3 : Nat) (w : World) (hg : Gl w) (s1 : Sl w a1 c1 (byteCells d.safe)) (s2 : Sl w a2 c2 (byteCells d.wait)) (s3 : SlW ec w a3 c3 r.e) (h1 : n1 = d.safe.length) (h2 : n2 = d.wait.length) (h3 : n3 = r.e.length) (h0 : dkE d = 0) :
    Calls Tryz.prog 52 #[.agg #[.slice a1 n1 c1, .slice a2 n2 c2], .agg #[.int .i64 r.k, .int .i64 r.s, .int .i64 r.n, .slice a3 n3 c3]] w (AnsD w (dputD d r) (dputE d r)) := by
  have cP := fun W g s => rtext_is r a3 c3 n3 W g s h3
  have B1 := ((Blk.laid w [.slice a1 n1 c1, .slice a2 n2 c2] 27 _ rfl).alc (.cells #[.int .i64 r.k, .int .i64 r.s, .int .i64 r.n, .slice a3 n3 c3] 93)).alc (.cells #[.slice none 0 0, .slice none 0 0] 27)
  have B3 := (Blk.laid (w.alloc (.cells #[.slice a1 n1 c1, .slice a2 n2 c2] 27)) [.int .i64 r.k, .int .i64 r.s, .int .i64 r.n, .slice a3 n3 c3] 93 (w.heap.size + 1) (by simp)).alc (.cells #[.slice none 0 0, .slice none 0 0] 27)
  have B2 := Blk.laid ((w.alloc (.cells #[.slice a1 n1 c1, .slice a2 n2 c2] 27)).alloc (.cells #[.int .i64 r.k, .int .i64 r.s, .int .i64 r.n, .slice a3 n3 c3] 93)) [.slice none 0 0, .slice none 0 0] 27 (w.heap.size + 1 + 1) (by simp)
  have bel := newB (newB (newB (Below.refl w.heap.size w) (.cells #[.slice a1 n1 c1, .slice a2 n2 c2] 27)) (.cells #[.int .i64 r.k, .int .i64 r.s, .int .i64 r.n, .slice a3 n3 c3] 93)) (.cells #[.slice none 0 0, .slice none 0 0] 27)
  have S1 := s1.keep bel (Nat.le_refl _)
  have S2 := s2.keep bel (Nat.le_refl _)
  have S3 := s3.keep bel (Nat.le_refl _)
  have g := hg.call bel
  have hf := few_of h0
  have few' : n1 + n2 ≤ 60000 := by rw [h1, h2]; exact hf
  by_cases hr0 : recE r = 0
  · have hTl : (recT r).length ≤ 60000 := (back_read hr0).2
    have hE : dputE d r = if 60000 < n1 + n2 + ((recT r).length + 1) then 2 else 0 := by
      unfold dputE
      rw [if_neg (by simp [h0]), if_neg (by simp [hr0]), h1, h2]
    have hD0 : dputE d r ≠ 0 → dputD d r = dk0 := fun h => if_neg h
    have hD1 : dputE d r = 0 → dputD d r = ⟨d.safe, d.wait ++ (recT r ++ [10])⟩ := fun h => if_pos h
    rw [hr0] at cP
    generalize dputE d r = E at *
    generalize dputD d r = D at *
    generalize recT r = T at *
    obtain ⟨TX, hTX⟩ : ∃ TX, TX = (⟨T.toArray⟩ : ByteArray) := ⟨_, rfl⟩
    rw [← hTX] at cP
    have hTs : TX.size = T.length := by rw [hTX]; simp [ByteArray.size]
    have hsum : TX.size + 1 ≤ 9223372036854775807 := by rw [hTs]; exact Nat.le_trans (Nat.succ_le_succ hTl) (by decide)
    obtain ⟨K, s', m', l⟩ := r
    simp only at *
    have hTLb : bytes (TX ++ (⟨#[10]⟩ : ByteArray)) = T ++ [10] := by
      rw [hTX]
      simp [bytes]
    have hTLs : (TX ++ (⟨#[10]⟩ : ByteArray)).size = T.length + 1 := by
      rw [← bytes_len, hTLb]
      simp
    obtain ⟨TL, hTL⟩ : ∃ TL, TX ++ (⟨#[10]⟩ : ByteArray) = TL := ⟨_, rfl⟩
    rw [hTL] at hTLb hTLs
    obtain ⟨N, N1, M, q1, q2, q3, u1, u2, u3, hMe, hWl, hTL6, hTs1⟩ := sumX n1 n2 TX.size T.length TL.size (d.wait ++ (T ++ [10])).length hTs hTLs few' hTl (by rw [List.length_append, List.length_append, h2]; rfl)
    rw [hMe] at hE
    have hlen : TL.size = (bytes TL).length := (bytes_len TL).symm
    have tC : ∀ W : World, TL.size ≤ 1000000 → Sl (Lib.bytesWorld W 5 TL) (some ⟨W.heap.size, 0, none⟩) (grownCap W TL.size 0 5) (byteCells (bytes TL)) := fun W h => slConv W TL h
    have cJ := fun B cp W e0 e1 s t hB hm => concat2 B a2 (some ⟨B - 1, 0, none⟩) c2 cp n2 TL.size d.wait (bytes TL) W e0 e1 s t h2 hlen (hTL6 hm) hB
    rw [hTLb] at cJ
    replace h1 := hide h1
    replace h2 := hide h2
    replace h3 := hide h3
    replace hTs := hide hTs
    replace hTX := hide hTX
    replace hE := hide hE
    replace hTLb := hide hTLb
    replace hTLs := hide hTLs
    replace hMe := hide hMe
    replace hWl := hide hWl
    replace hlen := hide hlen
    clear hr0 hf h0
    have y0 := B3.cell 0
    have y1 := B3.cell 1
    have y2 := B3.cell 2
    have y3 := B3.cell 3
    have ly := B3.lt
    go_enter Tryz.func52, Tryz.ntmps52
    go_wp2_with fail
    generalize World.alloc (World.alloc (World.alloc w _) _) _ = w2 at *
    go_at_call 89
    refine (cP _ g S3).mono ?_
    rintro e w5 ⟨rfl, b5⟩
    clear y0 y1 y2 y3 ly cP
    replace B1 := B1.keep b5 B1.lt
    replace B2 := B2.keep b5 B2.lt
    replace S1 := S1.call b5
    replace S2 := S2.call b5
    replace bel := belowCall bel b5
    have x0 := B1.cell 0
    have x1 := B1.cell 1
    have l1 := B1.lt
    by_cases hm : 60000 < M
    · have hm' : (60000 : Int) < M := Int.ofNat_lt.2 hm
      obtain rfl : E = 2 := by rw [hE.out, if_pos hm]
      obtain rfl := hD0 (by decide)
      have y0 := B2.cell 0
      have y1 := B2.cell 1
      have f0 := B2.free 0
      have f1 := B2.free 1
      have l2 := B2.lt
      clear hD0 hD1 cJ tC
      go_wp2_with fail
      have B9 := put2 B2 (.slice none 0 0) (.slice none 0 0)
      have bel9 := below2s bel (Nat.le_trans (Nat.le_succ _) (Nat.le_succ _)) (.slice none 0 0) (.slice none 0 0)
      have i0 := B9.cell 0
      have i1 := B9.cell 1
      exact bodyPost_ret (v := .tuple #[.agg #[.slice none 0 0, .slice none 0 0], .int .i64 2]) (by simp [results, Tryz.results52, go_sem, i0, i1]) rfl (ans0 bel9)
    · have hm' : ¬ (60000 : Int) < M := fun h => hm (Int.ofNat_lt.1 h)
      obtain rfl : E = 0 := by rw [hE.out, if_neg hm]
      obtain rfl := hD1 rfl
      have hcv := fun W => Lib.run_convert_string_bytes (P := Tryz.prog) W 9 25 5 TL Tryz.underlying9 Tryz.underlying25 Tryz.underlying5
      have k0 : Below w5.heap.size w5 w5.drew := belowDrew (Below.refl _ _)
      have kA : Below w5.heap.size w5 (Lib.bytesWorld w5.drew 5 TL) := belowCall k0 (Lib.bytesWorld_below w5.drew 5 TL)
      have hsA : (Lib.bytesWorld w5.drew 5 TL).heap.size = w5.heap.size + 1 := Lib.bytesWorld_size _ _ _
      have tA := tC w5.drew hTs1
      obtain ⟨cp, hcp⟩ : ∃ cp, cp = grownCap w5.drew TL.size 0 5 := ⟨_, rfl⟩
      have hcvA := hcv w5.drew
      rw [← hcp] at tA hcvA
      have tA' : Sl (Lib.bytesWorld w5.drew 5 TL) (some ⟨w5.heap.size, 0, none⟩) cp (byteCells (bytes TL)) := tA
      generalize Lib.bytesWorld w5.drew 5 TL = WA at *
      have BC := Blk.laid WA [.slice a2 n2 c2, .slice (some ⟨w5.heap.size, 0, none⟩) TL.size cp] 25 (w5.heap.size + 1) hsA.symm
      have kB := newB kA (.cells #[.slice a2 n2 c2, .slice (some ⟨w5.heap.size, 0, none⟩) TL.size cp] 25)
      have tB := tA'.alloc (.cells #[.slice a2 n2 c2, .slice (some ⟨w5.heap.size, 0, none⟩) TL.size cp] 25)
      rw [hTLb.out] at tB
      have cJ' := cJ (w5.heap.size + 1) cp _ (BC.cell 0) (BC.cell 1) (S2.call kB) tB BC.lt (Nat.le_of_not_lt hm)
      clear hcv tC cJ tA hcp
      have l2 := B2.lt
      have hM6 : n2 + TL.size ≤ 1000000 := hTL6 (Nat.le_of_not_lt hm)
      go_upto_region 6 with fail
      refine named (fun A0 hA0 => ?_)
      have a2' : A0.eval (.tmp 2) = .pointer (some ⟨w.heap.size, 0, none⟩) := by rw [hA0]; rfl
      have a4' : A0.eval (.tmp 4) = .pointer (some ⟨w.heap.size + 1 + 1, 0, none⟩) := by rw [hA0]; rfl
      have a6' : A0.eval (.tmp 6) = .string TX := by rw [hA0]; rfl
      have a5' : A0.put (some 5) (.int .i64 0) = A0 := by rw [hA0]; rfl
      have asz : 30 + 10 ≤ A0.tmps.size := by rw [hA0]; simp
      replace hA0 := hide hA0
      refine wp_region_inv (by kernel_rfl) (by kernel_rfl) (fun d' a' W' => ∃ V, a' = pV A0 30 10 V ∧ PutX w w5 WA (WA.alloc (.cells #[.slice a2 n2 c2, .slice (some ⟨w5.heap.size, 0, none⟩) TL.size cp] 25)) (w.heap.size + 1 + 1) (n2 + TL.size) (pvX w.heap.size w5.heap.size (.slice a1 n1 c1) (.slice a2 n2 c2) TX TL cp) (d.wait ++ (T ++ [10])) d' V W') ?step ?fin ?start
      case start =>
        refine ⟨fun i => A0.eval (.tmp (30 + i)), (pV_self _ _ _).symm, ?_⟩
        exact ⟨fun _ _ _ _ => rfl, fun h => Bool.noConfusion h, fun h => Bool.noConfusion h, fun _ => k0, fun i h => Bool.noConfusion h, fun h => Bool.noConfusion h, fun h => Bool.noConfusion h, fun h => Bool.noConfusion h⟩
      case fin =>
        intro d' a' W' hall inv
        obtain ⟨V, rfl, I⟩ := inv
        obtain ⟨ao, G, e8, s8⟩ := I.v8 (hall 8 (by decide))
        have e1 : V 1 = .slice a1 n1 c1 := I.vals 1 (hall 1 (by decide))
        obtain ⟨BXf, belF⟩ := I.fin (hall 10 (by decide))
        rw [e1, e8] at BXf
        rw [← putsV_eq, hA0.out]
        simp only [putsV, Nat.reduceAdd]
        generalize V 0 = V0
        generalize V 1 = V1
        generalize V 2 = V2
        generalize V 3 = V3
        generalize V 4 = V4
        generalize V 5 = V5
        generalize V 6 = V6
        generalize V 7 = V7
        generalize V 8 = V8
        generalize V 9 = V9
        clear a2' a4' a5' a6' asz hcvA cJ' I
        go_wp2_with fail
        have i0 := BXf.cell 0
        have i1 := BXf.cell 1
        exact bodyPost_ret (v := .tuple #[.agg #[.slice a1 n1 c1, .slice ao (n2 + TL.size) G], .int .i64 0]) (by simp [results, Tryz.results52, go_sem, i0, i1]) rfl ⟨_, _, n1, n2 + TL.size, c1, G, rfl, h1.out, hWl.out, s1.keep belF (Nat.le_refl _), s8, belF⟩
      case step =>
        intro i o d' a' W' hi' ho hd hall down inv K' hK
        obtain ⟨V, ha, I⟩ := inv
        have key : i = 0 ∨ i = 1 ∨ i = 2 ∨ i = 3 ∨ i = 4 ∨ i = 5 ∨ i = 6 ∨ i = 7 ∨ i = 8 ∨ i = 9 ∨ i = 10 ∨ i = 11 := by
          have : i < 12 := hi'
          omega
        clear hi'
        have ein : ∀ (q dd : Nat), dd = 30 + q → q < 10 → a'.eval (.tmp dd) = V q := fun q dd h1 h2 => by rw [ha]; exact pV_in q dd h1 h2 asz
        have eout : ∀ (dd : Nat), dd < 30 ∨ 40 ≤ dd → a'.eval (.tmp dd) = A0.eval (.tmp dd) := fun dd h => by rw [ha]; exact pV_out dd h
        rcases key with rfl | rfl | rfl | rfl | rfl | rfl | rfl | rfl | rfl | rfl | rfl | rfl
        · obtain rfl := Option.some.inj ho
          refine step_value (d := 30) (v := .pointer (some ⟨w.heap.size, 0, none⟩)) (W' := W') rfl rfl (fun ρ hρ => ?_) (hK _ _ ⟨putV V 0 _, by rw [ha]; exact pV_put 0 30 rfl (by decide) _, I.pure 0 (by decide) (by decide) (by decide) (by decide) (by decide) (fun h => absurd h (by decide)) _ rfl⟩)
          have p2 : ρ (.tmp 2) = .pointer (some ⟨w.heap.size, 0, none⟩) := by rw [hρ, eout 2 (by decide), a2']
          have qc : ∀ v, ρ (.const v) = v := fun v => by rw [hρ]; rfl
          clear hρ
          go_simp
        · obtain rfl := Option.some.inj ho
          have h9' : d' 9 = false := no down 9 _ rfl ⟨1, .data⟩ (by simp) rfl hd
          have h10' : d' 10 = false := no down 10 _ rfl ⟨9, .data⟩ (by simp) rfl h9'
          have cB := B1.keep (I.bel h10') B1.lt
          have cc : W'.cell? ⟨w.heap.size, 0, none⟩ = some (.slice a1 n1 c1) := cB.cell 0
          have lc := cB.lt
          refine step_value (d := 31) (v := .slice a1 n1 c1) (W' := W') rfl rfl (fun ρ hρ => ?_) (hK _ _ ⟨putV V 1 _, by rw [ha]; exact pV_put 1 31 rfl (by decide) _, I.pure 1 (by decide) (by decide) (by decide) (by decide) (by decide) (fun _ => ⟨h9', h10'⟩) _ rfl⟩)
          have q0 : ρ (.tmp 30) = .pointer (some ⟨w.heap.size, 0, none⟩) := by rw [hρ, ein 0 30 rfl (by decide)]; exact I.vals 0 (hall ⟨0, .data⟩ (by simp) rfl)
          have qc : ∀ v, ρ (.const v) = v := fun v => by rw [hρ]; rfl
          clear hρ
          go_simp
        · obtain rfl := Option.some.inj ho
          refine step_value (d := 32) (v := .pointer (some ⟨w.heap.size, 1, none⟩)) (W' := W') rfl rfl (fun ρ hρ => ?_) (hK _ _ ⟨putV V 2 _, by rw [ha]; exact pV_put 2 32 rfl (by decide) _, I.pure 2 (by decide) (by decide) (by decide) (by decide) (by decide) (fun h => absurd h (by decide)) _ rfl⟩)
          have p2 : ρ (.tmp 2) = .pointer (some ⟨w.heap.size, 0, none⟩) := by rw [hρ, eout 2 (by decide), a2']
          have qc : ∀ v, ρ (.const v) = v := fun v => by rw [hρ]; rfl
          clear hρ
          go_simp
        · obtain rfl := Option.some.inj ho
          have h7' : d' 7 = false := no down 7 _ rfl ⟨3, .data⟩ (by simp) rfl hd
          have h8' : d' 8 = false := no down 8 _ rfl ⟨7, .data⟩ (by simp) rfl h7'
          have h9' : d' 9 = false := no down 9 _ rfl ⟨8, .data⟩ (by simp) rfl h8'
          have h10' : d' 10 = false := no down 10 _ rfl ⟨9, .data⟩ (by simp) rfl h9'
          have cB := B1.keep (I.bel h10') B1.lt
          have cc : W'.cell? ⟨w.heap.size, 1, none⟩ = some (.slice a2 n2 c2) := cB.cell 1
          have lc := cB.lt
          refine step_value (d := 33) (v := .slice a2 n2 c2) (W' := W') rfl rfl (fun ρ hρ => ?_) (hK _ _ ⟨putV V 3 _, by rw [ha]; exact pV_put 3 33 rfl (by decide) _, I.pure 3 (by decide) (by decide) (by decide) (by decide) (by decide) (fun h => absurd h (by decide)) _ rfl⟩)
          have q2 : ρ (.tmp 32) = .pointer (some ⟨w.heap.size, 1, none⟩) := by rw [hρ, ein 2 32 rfl (by decide)]; exact I.vals 2 (hall ⟨2, .data⟩ (by simp) rfl)
          have qc : ∀ v, ρ (.const v) = v := fun v => by rw [hρ]; rfl
          clear hρ
          go_simp
        · obtain rfl := Option.some.inj ho
          refine step_value (d := 34) (v := .string TX) (W' := W') rfl rfl (fun ρ hρ => ?_) (hK _ _ ⟨putV V 4 _, by rw [ha]; exact pV_put 4 34 rfl (by decide) _, I.pure 4 (by decide) (by decide) (by decide) (by decide) (by decide) (fun h => absurd h (by decide)) _ rfl⟩)
          have p6 : ρ (.tmp 6) = .string TX := by rw [hρ, eout 6 (by decide), a6']
          have qc : ∀ v, ρ (.const v) = v := fun v => by rw [hρ]; rfl
          clear hρ
          go_simp
        · obtain rfl := Option.some.inj ho
          refine step_value (d := 35) (v := .string TL) (W' := W') rfl rfl (fun ρ hρ => ?_) (hK _ _ ⟨putV V 5 _, by rw [ha]; exact pV_put 5 35 rfl (by decide) _, I.pure 5 (by decide) (by decide) (by decide) (by decide) (by decide) (fun h => absurd h (by decide)) _ rfl⟩)
          have q4 : ρ (.tmp 34) = .string TX := by rw [hρ, ein 4 34 rfl (by decide)]; exact I.vals 4 (hall ⟨4, .data⟩ (by simp) rfl)
          have qc : ∀ v, ρ (.const v) = v := fun v => by rw [hρ]; rfl
          clear hρ
          go_simp
        · obtain rfl := Option.some.inj ho
          have h7' : d' 7 = false := no down 7 _ rfl ⟨6, .data⟩ (by simp) rfl hd
          have h8' : d' 8 = false := no down 8 _ rfl ⟨7, .data⟩ (by simp) rfl h7'
          have h9' : d' 9 = false := no down 9 _ rfl ⟨8, .data⟩ (by simp) rfl h8'
          have h10' : d' 10 = false := no down 10 _ rfl ⟨9, .data⟩ (by simp) rfl h9'
          obtain rfl := I.w0 hd h7' h8' h10'
          refine step_value (d := 36) (v := .slice (some ⟨w5.heap.size, 0, none⟩) TL.size cp) (W' := WA) rfl rfl (fun ρ hρ => ?_) (hK _ _ ⟨putV V 6 _, by rw [ha]; exact pV_put 6 36 rfl (by decide) _, ?_⟩)
          · have q5 : ρ (.tmp 35) = .string TL := by rw [hρ, ein 5 35 rfl (by decide)]; exact I.vals 5 (hall ⟨5, .data⟩ (by simp) rfl)
            clear hρ
            simp [execOp, q5, hcvA, Result.andThen]
          · exact ⟨fun h => by simp at h, fun _ _ _ _ => rfl, fun h => by simp [h7'] at h, fun _ => kA, valsE_put I.vals 6 _ rfl, fun h => by simp [h8'] at h, fun h => by simp [h9'] at h, fun h => by simp [h10'] at h⟩
        · obtain rfl := Option.some.inj ho
          have h6' : d' 6 = true := hall ⟨6, .data⟩ (by simp) rfl
          have h8' : d' 8 = false := no down 8 _ rfl ⟨7, .data⟩ (by simp) rfl hd
          have h9' : d' 9 = false := no down 9 _ rfl ⟨8, .data⟩ (by simp) rfl h8'
          have h10' : d' 10 = false := no down 10 _ rfl ⟨9, .data⟩ (by simp) rfl h9'
          obtain rfl := I.w6 h6' hd h8' h10'
          refine step_value (d := 37) (v := .slice (some ⟨w5.heap.size + 1, 0, none⟩) 2 2) (W' := W'.alloc (.cells #[.slice a2 n2 c2, .slice (some ⟨w5.heap.size, 0, none⟩) TL.size cp] 25)) rfl rfl (fun ρ hρ => ?_) (hK _ _ ⟨putV V 7 _, by rw [ha]; exact pV_put 7 37 rfl (by decide) _, ?_⟩)
          · have q3' : ρ (.tmp 33) = .slice a2 n2 c2 := by rw [hρ, ein 3 33 rfl (by decide)]; exact I.vals 3 (hall ⟨3, .data⟩ (by simp) rfl)
            have q6' : ρ (.tmp 36) = .slice (some ⟨w5.heap.size, 0, none⟩) TL.size cp := by rw [hρ, ein 6 36 rfl (by decide)]; exact I.vals 6 h6'
            clear hρ
            rw [← hsA]
            go_simp
          · exact ⟨fun _ h => by simp at h, fun _ h => by simp at h, fun _ _ _ => rfl, fun _ => kB, valsE_put I.vals 7 _ rfl, fun h => by simp [h8'] at h, fun h => by simp [h9'] at h, fun h => by simp [h10'] at h⟩
        · obtain rfl := Option.some.inj ho
          have h7' : d' 7 = true := hall ⟨7, .data⟩ (by simp) rfl
          have h9' : d' 9 = false := no down 9 _ rfl ⟨8, .data⟩ (by simp) rfl hd
          have h10' : d' 10 = false := no down 10 _ rfl ⟨9, .data⟩ (by simp) rfl h9'
          obtain rfl := I.w7 h7' hd h10'
          refine step_go_call (by rfl) 57 (.tmp 37) 137 (by rfl) (.slice (some ⟨w5.heap.size + 1, 0, none⟩) 2 2) ?_ (by go_simp) cJ' (by rintro e w' ⟨ao, G, rfl, _⟩; exact ⟨_, rfl⟩) ?_
          · rw [ein 7 37 rfl (by decide)]
            exact I.vals 7 h7'
          rintro u w9 ⟨ao, G, eu, s9, b9⟩
          obtain rfl := Ending.returned.inj eu
          refine hK _ _ ⟨putV V 8 _, by rw [ha]; exact pV_put 8 38 rfl (by decide) _, ?_⟩
          exact ⟨fun _ h => by simp [h7'] at h, fun _ h => by simp [h7'] at h, fun _ h => by simp at h, fun _ => belowCall kB b9, valsE_put I.vals 8 _ trivial, fun _ => ⟨ao, G, rfl, s9⟩, fun h => by simp [h9'] at h, fun h => by simp [h10'] at h⟩
        · obtain rfl := Option.some.inj ho
          have h10' : d' 10 = false := no down 10 _ rfl ⟨9, .data⟩ (by simp) rfl hd
          have h8' : d' 8 = true := hall ⟨8, .data⟩ (by simp) rfl
          obtain ⟨ao, G, e8, s8⟩ := I.v8 h8'
          have e1 : V 1 = .slice a1 n1 c1 := I.vals 1 (hall ⟨1, .data⟩ (by simp) rfl)
          refine step_value (d := 39) (v := .agg #[V 1, V 8]) (W' := W') rfl rfl (fun ρ hρ => ?_) (hK _ _ ⟨putV V 9 _, by rw [ha]; exact pV_put 9 39 rfl (by decide) _, ?_⟩)
          · have q1' : ρ (.tmp 31) = .slice a1 n1 c1 := by rw [hρ, ein 1 31 rfl (by decide)]; exact e1
            have q8' : ρ (.tmp 38) = .slice ao (n2 + TL.size) G := by rw [hρ, ein 8 38 rfl (by decide)]; exact e8
            rw [e1, e8]
            clear hρ
            go_simp
          · exact ⟨fun a b c f => I.w0 (by simpa using a) (by simpa using b) (by simpa using c) h10', fun a b c f => I.w6 (by simpa using a) (by simpa using b) (by simpa using c) h10', fun a b c => I.w7 (by simpa using a) (by simpa using b) h10', fun _ => I.bel h10', valsE_put I.vals 9 _ trivial, fun h => by rw [putV_ne (by decide)]; exact I.v8 h8', fun _ => by simp [putV], fun h => by simp [h10'] at h⟩
        · obtain rfl := Option.some.inj ho
          have bW := I.bel hd
          have h8' : d' 8 = true := hall ⟨8, .chain⟩ (by simp) rfl
          obtain ⟨ao, G, e8, s8⟩ := I.v8 h8'
          have e1 : V 1 = .slice a1 n1 c1 := I.vals 1 (hall ⟨1, .phase⟩ (by simp) rfl)
          have e9 := I.v9 (hall ⟨9, .data⟩ (by simp) rfl)
          have BX := B2.keep bW B2.lt
          refine step_skip (n := .skip) (W' := (W'.setCell ⟨w.heap.size + 1 + 1, 0, none⟩ (V 1)).setCell ⟨w.heap.size + 1 + 1, 1, none⟩ (V 8)) rfl rfl (.inl rfl) (fun ρ hρ => ?_) (hK _ _ ⟨V, ha, ?_⟩)
          · have q4' : ρ (.tmp 4) = .pointer (some ⟨w.heap.size + 1 + 1, 0, none⟩) := by rw [hρ, eout 4 (by decide), a4']
            have q9' : ρ (.tmp 39) = .agg #[.slice a1 n1 c1, .slice ao (n2 + TL.size) G] := by rw [hρ, ein 9 39 rfl (by decide), e9, e1, e8]
            rw [e1, e8]
            have z0 := BX.cell 0
            have z1 := BX.cell 1
            have f0 := BX.free 0
            have f1 := BX.free 1
            have lz := BX.lt
            clear hρ
            go_simp
          · have S9 := slU_set (i := 1) (slU_set (i := 0) s8 BX (slices_plain _ _ _ _ _ _) (V 1)) (BX.set 0 (V 1)) (by rw [e1]; exact slices_plain _ _ _ _ _ _) (V 8)
            exact ⟨fun _ _ _ h => by simp at h, fun _ _ _ h => by simp at h, fun _ _ h => by simp at h, fun h => by simp at h, fun k hk => by
              by_cases e : k = 10
              · subst e; trivial
              · exact I.vals k (by simpa [e] using hk), fun _ => ⟨ao, G, e8, S9⟩, fun _ => e9, fun _ => ⟨put2 BX _ _, below2s (bel.trans (bW.mono bel.size)) (Nat.le_trans (Nat.le_succ _) (Nat.le_succ _)) _ _⟩⟩
        · obtain rfl := Option.some.inj ho
          refine step_value (d := 5) (v := .int .i64 0) (W' := W') rfl rfl (fun ρ hρ => ?_) (hK _ _ ⟨V, ?_, ?_⟩)
          · have qc : ∀ v, ρ (.const v) = v := fun v => by rw [hρ]; rfl
            clear hρ
            go_simp
          · rw [ha, pV_put_out 5 (by decide), a5']
          · exact ⟨fun a b c f => I.w0 (by simpa using a) (by simpa using b) (by simpa using c) (by simpa using f), fun a b c f => I.w6 (by simpa using a) (by simpa using b) (by simpa using c) (by simpa using f), fun a b c => I.w7 (by simpa using a) (by simpa using b) (by simpa using c), fun a => I.bel (by simpa using a), fun k hk => by
              by_cases e : k = 11
              · subst e; trivial
              · exact I.vals k (by simpa [e] using hk), fun h => I.v8 (by simpa using h), fun h => I.v9 (by simpa using h), fun h => I.fin (by simpa using h)⟩
  · have hE : dputE d r = recE r := by unfold dputE; rw [if_neg (by simp [h0]), if_pos hr0]
    have hD : dputD d r = dk0 := if_neg (by rw [hE]; exact hr0)
    rw [hE, hD]
    have hd : decide (recE r = 0) = false := decide_eq_false hr0
    clear hE hD
    generalize recE r = E at *
    generalize (⟨(recT r).toArray⟩ : ByteArray) = TX at *
    obtain ⟨K, s', m', l⟩ := r
    simp only at *
    replace h1 := hide h1
    replace h2 := hide h2
    replace h3 := hide h3
    have y0 := B3.cell 0
    have y1 := B3.cell 1
    have y2 := B3.cell 2
    have y3 := B3.cell 3
    have ly := B3.lt
    go_enter Tryz.func52, Tryz.ntmps52
    go_wp2_with fail
    generalize World.alloc (World.alloc (World.alloc w _) _) _ = w2 at *
    go_at_call 89
    refine (cP _ g S3).mono ?_
    rintro e w4 ⟨rfl, b4⟩
    clear y0 y1 y2 y3 ly
    replace B2 := B2.keep b4 B2.lt
    replace bel := belowCall bel b4
    have y0 := B2.cell 0
    have y1 := B2.cell 1
    have f0 := B2.free 0
    have f1 := B2.free 1
    have l2 := B2.lt
    go_wp2_with fail
    have B9 := put2 B2 (.slice none 0 0) (.slice none 0 0)
    have bel9 := below2s bel (Nat.le_trans (Nat.le_succ _) (Nat.le_succ _)) (.slice none 0 0) (.slice none 0 0)
    have i0 := B9.cell 0
    have i1 := B9.cell 1
    exact bodyPost_ret (v := .tuple #[.agg #[.slice none 0 0, .slice none 0 0], .int .i64 E]) (by simp [results, Tryz.results52, go_sem, i0, i1]) rfl (ans0 bel9)

end Go.Proofs.YtjjfgmcgonkicaaGreatDoor

/-
  The contracts of package disk, and of the reference, over disks in boxes: what they answer as it is laid into a box.
-/
namespace Go.Proofs.YtjjfgmcgonkicaaGreatDoor
open Go.RowKit
open Go.Lib (byteCells)

/-- A disk that was answered, in a box just laid. -/
def LaidD (W : World) (D : Dk) (E : Int) (e : Ending) (w' : World) : Prop :=
  ∃ (a1 : Option Addr) (n1 c1 : Nat) (a2 : Option Addr) (n2 c2 : Nat), e = .returned (.tuple #[.agg #[.slice a1 n1 c1, .slice a2 n2 c2], .int .i64 E]) ∧
    DkB (w'.alloc (.cells #[.slice a1 n1 c1, .slice a2 n2 c2] 27)) w'.heap.size a1 n1 c1 a2 n2 c2 D ∧ Below W.heap.size W (w'.alloc (.cells #[.slice a1 n1 c1, .slice a2 n2 c2] 27))

theorem AnsD.laid {W w' : World} {D : Dk} {E : Int} {e : Ending} (h : AnsD W D E e w') : LaidD W D E e w' := by
  obtain ⟨a1, a2, n1, n2, c1, c2, he, h1, h2, s1, s2, b⟩ := h
  exact ⟨a1, n1, c1, a2, n2, c2, he, ⟨Blk.laid w' [.slice a1 n1 c1, .slice a2 n2 c2] _ _ rfl, h1, h2, s1.alloc _, s2.alloc _⟩, newB b _⟩

def LaidR (W : World) (D : Dk) (L : List Rc) (E : Int) (e : Ending) (w' : World) : Prop :=
  ∃ (a1 : Option Addr) (n1 c1 : Nat) (a2 : Option Addr) (n2 c2 : Nat) (a3 : Option Addr) (n3 G3 : Nat) (l : List Lrc), e = .returned (.tuple #[.agg #[.slice a1 n1 c1, .slice a2 n2 c2], .slice a3 n3 G3, .int .i64 E]) ∧
    DkB (w'.alloc (.cells #[.slice a1 n1 c1, .slice a2 n2 c2] 27)) w'.heap.size a1 n1 c1 a2 n2 c2 D ∧ SlRec (w'.alloc (.cells #[.slice a1 n1 c1, .slice a2 n2 c2] 27)) a3 G3 l ∧ Hid (n3 = l.length) ∧ Hid (l.map (·.r) = L) ∧ Below W.heap.size W (w'.alloc (.cells #[.slice a1 n1 c1, .slice a2 n2 c2] 27))

theorem AnsR.laid {W w' : World} {D : Dk} {L : List Rc} {E : Int} {e : Ending} (h : AnsR W D L E e w') : LaidR W D L E e w' := by
  obtain ⟨a1, a2, a3, n1, n2, c1, c2, n3, G3, l, he, h1, h2, s1, s2, R, hl, b⟩ := h
  exact ⟨a1, n1, c1, a2, n2, c2, a3, n3, G3, l, he, ⟨Blk.laid w' [.slice a1 n1 c1, .slice a2 n2 c2] _ _ rfl, h1, h2, s1.alloc _, s2.alloc _⟩, R.sl.call (newB (Below.refl _ _) _), R.len, hl, newB b _⟩

def LaidQ (W : World) (D : Dk) (L : List Rc) (e : Ending) (w' : World) : Prop :=
  ∃ (a1 : Option Addr) (n1 c1 : Nat) (a2 : Option Addr) (n2 c2 : Nat) (a3 : Option Addr) (n3 G3 : Nat) (l : List Lrc), e = .returned (.tuple #[.agg #[.slice a1 n1 c1, .slice a2 n2 c2], .slice a3 n3 G3]) ∧
    DkB (w'.alloc (.cells #[.slice a1 n1 c1, .slice a2 n2 c2] 27)) w'.heap.size a1 n1 c1 a2 n2 c2 D ∧ SlRec (w'.alloc (.cells #[.slice a1 n1 c1, .slice a2 n2 c2] 27)) a3 G3 l ∧ Hid (n3 = l.length) ∧ Hid (l.map (·.r) = L) ∧ Below W.heap.size W (w'.alloc (.cells #[.slice a1 n1 c1, .slice a2 n2 c2] 27))

theorem AnsQ.laid {W w' : World} {D : Dk} {L : List Rc} {e : Ending} (h : AnsQ W D L e w') : LaidQ W D L e w' := by
  obtain ⟨a1, a2, a3, n1, n2, c1, c2, n3, G3, l, he, h1, h2, s1, s2, R, hn, hl, b⟩ := h
  exact ⟨a1, n1, c1, a2, n2, c2, a3, n3, G3, l, he, ⟨Blk.laid w' [.slice a1 n1 c1, .slice a2 n2 c2] _ _ rfl, h1, h2, s1.alloc _, s2.alloc _⟩, R.call (newB (Below.refl _ _) _), hn, hl, newB b _⟩

variable {W : World} {g : Nat} {a1 : Option Addr} {n1 c1 : Nat} {a2 : Option Addr} {n2 c2 : Nat} {d : Dk}

theorem put_box (D : DkB W g a1 n1 c1 a2 n2 c2 d) (hg : Gl W) (few : d.safe.length + d.wait.length ≤ 9223372036854775807) (r : Rc) {a3 : Option Addr} {c3 n3 : Nat} (s3 : SlW ec W a3 c3 r.e) (h3 : Hid (n3 = r.e.length)) :
    Calls Tryz.prog 136 #[.agg #[.slice a1 n1 c1, .slice a2 n2 c2], .agg #[.int .i64 r.k, .int .i64 r.s, .int .i64 r.n, .slice a3 n3 c3]] W (LaidD W (dputD d r) (dputE d r)) :=
  (dput_any d r a1 a2 a3 c1 c2 c3 n1 n2 n3 W hg D.s1 D.s2 s3 D.e1 D.e2 h3 (by rw [D.e1, D.e2]; exact few)).mono fun _ _ h => h.laid

theorem sync_box (D : DkB W g a1 n1 c1 a2 n2 c2 d) (hg : Gl W) (few : d.safe.length + d.wait.length ≤ 9223372036854775807) :
    Calls Tryz.prog 108 #[.agg #[.slice a1 n1 c1, .slice a2 n2 c2]] W (LaidD W (syncD d) (syncE d)) :=
  (sync_any d a1 a2 c1 c2 n1 n2 W hg D.s1 D.s2 D.e1 D.e2 (by rw [D.e1, D.e2]; exact few)).mono fun _ _ h => h.laid

theorem crash_box (D : DkB W g a1 n1 c1 a2 n2 c2 d) (hg : Gl W) (few : d.safe.length + d.wait.length ≤ 9223372036854775807) (n : Int) :
    Calls Tryz.prog 107 #[.agg #[.slice a1 n1 c1, .slice a2 n2 c2], .int .i64 n] W (LaidD W (crashD d n) (crashE d n)) :=
  (crash_any d n a1 a2 c1 c2 n1 n2 W hg D.s1 D.s2 D.e1 D.e2 (by rw [D.e1, D.e2]; exact few)).mono fun _ _ h => h.laid

theorem recover_box (D : DkB W g a1 n1 c1 a2 n2 c2 d) (hg : Gl W) (few : d.safe.length + d.wait.length ≤ 9223372036854775807) :
    Calls Tryz.prog 84 #[.agg #[.slice a1 n1 c1, .slice a2 n2 c2]] W (LaidR W (recD d) (recL d) (dkE d)) :=
  (recover_any d a1 a2 c1 c2 n1 n2 W hg D.s1 D.s2 D.e1 D.e2 (by rw [D.e1, D.e2]; exact few)).mono fun _ _ h => h.laid

theorem check_box (D : DkB W g a1 n1 c1 a2 n2 c2 d) (hg : Gl W) (few : d.safe.length + d.wait.length ≤ 9223372036854775807) :
    Calls Tryz.prog 137 #[.agg #[.slice a1 n1 c1, .slice a2 n2 c2]] W fun e w' => e = .returned (.int .i64 (dkE d)) ∧ Below W.heap.size W w' :=
  dcheck_any d a1 a2 c1 c2 n1 n2 W hg D.s1 D.e1 D.e2 (by rw [D.e1, D.e2]; exact few)

theorem rcheck_box (D : DkB W g a1 n1 c1 a2 n2 c2 d) (hg : Gl W) :
    Calls Tryz.prog 38 #[.agg #[.slice a1 n1 c1, .slice a2 n2 c2]] W fun e w' => e = .returned (.int .i64 (dkE d)) ∧ Below W.heap.size W w' :=
  rcheckD_any d a1 a2 c1 c2 n1 n2 W hg D.s1 D.e1 D.e2

theorem same_box {h : Nat} {b1 : Option Addr} {m1 e1 : Nat} {b2 : Option Addr} {m2 e2 : Nat} {x : Dk} (D : DkB W g a1 n1 c1 a2 n2 c2 d) (X : DkB W h b1 m1 e1 b2 m2 e2 x) :
    Calls Tryz.prog 27 #[.agg #[.slice a1 n1 c1, .slice a2 n2 c2], .agg #[.slice b1 m1 e1, .slice b2 m2 e2]] W fun e w' => e = .returned (.bool (decide (d.safe = x.safe ∧ d.wait = x.wait))) ∧ Below W.heap.size W w' :=
  dsame_any d x a1 a2 b1 b2 c1 c2 e1 e2 n1 n2 m1 m2 W D.s1 D.s2 X.s1 X.s2 D.e1 D.e2 X.e1 X.e2

theorem rsame_box {h : Nat} {b1 : Option Addr} {m1 e1 : Nat} {b2 : Option Addr} {m2 e2 : Nat} {x : Dk} (D : DkB W g a1 n1 c1 a2 n2 c2 d) (X : DkB W h b1 m1 e1 b2 m2 e2 x) :
    Calls Tryz.prog 44 #[.agg #[.slice a1 n1 c1, .slice a2 n2 c2], .agg #[.slice b1 m1 e1, .slice b2 m2 e2]] W fun e w' => e = .returned (.bool (decide (d.safe = x.safe ∧ d.wait = x.wait))) ∧ Below W.heap.size W w' :=
  rsameD_any d x a1 a2 b1 b2 c1 c2 e1 e2 n1 n2 m1 m2 W D.s1 D.s2 X.s1 X.s2 D.e1 D.e2 X.e1 X.e2

theorem rself_box {h : Nat} {b1 : Option Addr} {m1 e1 : Nat} {b2 : Option Addr} {m2 e2 : Nat} (D : DkB W g a1 n1 c1 a2 n2 c2 d) (X : DkB W h b1 m1 e1 b2 m2 e2 d) :
    Calls Tryz.prog 44 #[.agg #[.slice a1 n1 c1, .slice a2 n2 c2], .agg #[.slice b1 m1 e1, .slice b2 m2 e2]] W fun e w' => e = .returned (.bool true) ∧ Below W.heap.size W w' := by
  have := rsame_box D X
  simpa only [and_self, decide_true] using this

theorem rput_box (D : DkB W g a1 n1 c1 a2 n2 c2 d) (hg : Gl W) (h0 : dkE d = 0) (r : Rc) {a3 : Option Addr} {c3 n3 : Nat} (s3 : SlW ec W a3 c3 r.e) (h3 : Hid (n3 = r.e.length)) :
    Calls Tryz.prog 52 #[.agg #[.slice a1 n1 c1, .slice a2 n2 c2], .agg #[.int .i64 r.k, .int .i64 r.s, .int .i64 r.n, .slice a3 n3 c3]] W (LaidD W (dputD d r) (dputE d r)) :=
  (rput_any d r a1 a2 a3 c1 c2 c3 n1 n2 n3 W hg D.s1 D.s2 s3 D.e1 D.e2 h3 h0).mono fun _ _ h => h.laid

theorem rsync_box (D : DkB W g a1 n1 c1 a2 n2 c2 d) (hg : Gl W) (h0 : dkE d = 0) :
    Calls Tryz.prog 53 #[.agg #[.slice a1 n1 c1, .slice a2 n2 c2]] W (LaidD W (syncD d) (syncE d)) :=
  (rsync_any d a1 a2 c1 c2 n1 n2 W hg D.s1 D.s2 D.e1 D.e2 h0).mono fun _ _ h => h.laid

theorem rrecov_box (D : DkB W g a1 n1 c1 a2 n2 c2 d) (hg : Gl W) (h0 : dkE d = 0) :
    Calls Tryz.prog 21 #[.agg #[.slice a1 n1 c1, .slice a2 n2 c2]] W (LaidQ W (recD d) (recL d)) :=
  (rrecov_any d a1 a2 c1 c2 n1 n2 W hg D.s1 D.s2 D.e1 D.e2 h0).mono fun _ _ h => h.laid

end Go.Proofs.YtjjfgmcgonkicaaGreatDoor

/-
  slices.Clone at rows, whatever is handed: a slice of the call's own with the same cells.
-/
namespace Go.Proofs.YtjjfgmcgonkicaaGreatDoor
open Go.RowKit

set_option maxHeartbeats 400000 in
set_option maxRecDepth 100000 in
theorem cloneR (ao : Option Addr) (cap : Nat) (C : List Value) (n : Nat) (w : World) (hrow : Row w ao C) (hle : n ≤ cap) (hnil : ao = none → cap = 0) (hlen : C.length = n * 2) (one : ∀ v ∈ C, v.oneCell' = true) (hl : n ≤ 1000000000000) :
    Calls Tryz.prog 127 #[.slice ao n cap] w fun e w' =>
      ∃ v', e = .returned v' ∧ w'.ownsRow w.heap.size 53 2 v' n C ∧ Below w.heap.size w w' := by
  obtain ⟨i0, hi, hz0, hz1, hz2⟩ := info_parts infoR
  have q : ∀ (w : World) (a : Option Addr) (n c n' c' : Nat), (binOp .eql 22 (.slice a n c) (.slice none n' c')).run Tryz.prog w = .ok (.bool a.isNone) w := fun w a n c n' c' => Lib.run_eql_slice_nil w _ _ a n c n' c' Tryz.underlying22
  cases ao with
  | none =>
    obtain rfl := hnil rfl
    obtain rfl : n = 0 := by omega
    obtain rfl : C = [] := List.eq_nil_of_length_eq_zero hlen
    clear hlen
    go_enter Tryz.func127, Tryz.ntmps127
    go_wp2_with fail
    go_ret
    exact ⟨_, rfl, World.ownsRow_nil _ _ _ _, Below.refl _ _⟩
  | some ad =>
    have own0 : (w.alloc (.cells #[] 53)).ownsRow w.heap.size 53 2 (.slice (some ⟨w.heap.size, 0, none⟩) 0 0) 0 [] :=
      ⟨rfl, .inr ⟨w.heap.size, 0, #[], rfl, Nat.le_refl _, heap_alloc_new w _, Nat.le_refl _, by decide, rfl, rfl⟩⟩
    have belA := (Below.refl w.heap.size w).alloc (Nat.le_refl _) (Obj.cells #[] 53)
    have hs := hrow.alloc (.cells #[] 53)
    have hsrc : ∀ j u, C[j]? = some u → (w.alloc (.cells #[] 53)).cell? (ad.add j) = some u := by
      intro j u hu
      obtain ⟨b', off', e, _, hc⟩ := hs.at (by intro e; rw [e] at hu; simp at hu)
      obtain rfl := Option.some.inj e
      rw [Addr.add_lit]
      exact hc j u hu
    have bA : w.heap.size ≤ (w.alloc (.cells #[] 53)).heap.size := by simp
    replace hlen := hide hlen
    clear hrow hs hnil
    go_enter Tryz.func127, Tryz.ntmps127
    go_wp2_with (at_builtin; refine wpList_append_own_wide _ rfl (.tmp 5) (.tmp 6) 22 rfl w.heap.size 53 i0 (.agg #[.slice none 0 0, .slice none 0 0]) 2 48 Tryz.underlying22 hi hz0 hz1 hz2 rfl (by decide) _ 0 _ rfl own0 ad n cap C rfl hlen.out hsrc one (by unfold maxLen; omega) (by omega) bA ?_)
    intro v' w1 own1 grow1 _
    have bel1 := belowGrown belA own0 grow1 (Nat.le_refl _) bA
    obtain ⟨a1, c1, rfl⟩ : ∃ a1 c1, v' = .slice a1 n c1 := by
      rcases own1.2 with ⟨rfl, h0⟩ | ⟨g, cp, cur, rfl, _⟩
      · subst h0
        exact ⟨_, _, rfl⟩
      · exact ⟨_, _, rfl⟩
    go_wp2_with fail
    go_ret
    exact ⟨_, rfl, own1, bel1⟩

/-- What append lays onto an empty literal: the elements, and zeros behind them. -/
theorem wpList_append_fresh {P : Program} (w : World) {ops : Array Oper} {rest : List Oper} {o : Oper} {a : Act} {Q : Exit → Act → World → Prop} (hgd : o.guard = none) (s x : Operand) (t : TypeId)
    (ho : o.op = .call { callee := .builtin .append, args := #[s, x], argTypes := #[t, t] })
    (e : TypeId) (i : TypeInfo) (z : Value) (ht : P.underlying t = some (.slice e)) (hi : P.info? e = some i) (hz : i.zero = some z) (hzs : z.cells.size = i.size) (hsz : 0 < i.size)
    (b : Addr) (hs : a.eval s = .slice (some b) 0 0)
    (ad : Addr) (m c : Nat) (news : List Value) (hx : a.eval x = .slice (some ad) m c) (hl : news.length = m * i.size) (hnews : ∀ j u, news[j]? = some u → w.cell? (ad.add j) = some u)
    (hm : 0 < m) (h63 : m ≤ maxLen) (hbytes : m * i.bytes ≤ 140737488355328)
    (h : ∀ G L w', Blk w' w.heap.size (news ++ L) e → (∀ v ∈ L, v ∈ z.cells.toList) → news.length + L.length = G * i.size → m ≤ G → G ≤ maxLen → w.grownBy w' none → wpList P ops Q rest (a.put o.dst (.slice (some ⟨w.heap.size, 0, none⟩) m G)) w') : wpList P ops Q (o :: rest) a w := by
  refine wpList_plain hgd fun K hK => ?_
  have h63' : ((0 + m : Nat) : Int) ≤ 9223372036854775807 := by unfold maxLen at h63; omega
  have hrun := run_append_grow (P := P) w t o.type e i z ht hi hz b 0 0 [] (by simp) (by simp) ad m c news hl hnews (by omega) h63' (growslice_fits (by omega) (by rw [Nat.zero_add]; exact hbytes))
  have hge := grownCap_ge w (0 + m) 0 e
  have hcm : grownCap w (0 + m) 0 e ≤ maxLen := grownCap_le_maxLen w (0 + m) 0 e (by rw [Nat.zero_add]; exact h63)
  rw [Nat.zero_add] at hrun hge hcm
  unfold Oper.wp
  simp only [execOp, ho, resolve, invoke, builtin, Sem.run_bind, Sem.run_pure, Result.andThen_ok, List.map_toArray, List.map_cons, List.map_nil, hs, hx, hrun]
  refine hK _ _ (h _ (Builtin.zeroCells z.cells (grownCap w m 0 e - m)).toList _ ?_ ?_ ?_ hge hcm ⟨rfl, rfl, rfl, by simp, fun k hk _ => heap_alloc_old w.drew _ hk⟩)
  · unfold Blk
    have hn := heap_alloc_new w.drew (.cells (([] : List Value).toArray ++ news.toArray ++ Builtin.zeroCells z.cells (grownCap w m 0 e - m)) e)
    rw [show w.drew.heap.size = w.heap.size from rfl] at hn
    rw [hn]
    congr 2
    apply Array.toList_inj.1
    simp
  · intro v hv
    simp only [Builtin.zeroCells, Array.toList_map, List.mem_map] at hv
    obtain ⟨j, _, rfl⟩ := hv
    have hj : j % z.cells.size < z.cells.size := Nat.mod_lt _ (by omega)
    rw [getElem!_pos z.cells _ hj]
    exact Array.getElem_mem_toList hj
  · rw [hl, Array.length_toList, size_zeroCells, hzs, ← Nat.add_mul]
    congr 1
    omega

set_option maxHeartbeats 400000 in
set_option maxRecDepth 100000 in
/-- slices.Clone of some rows: the whole block that it lays. -/
theorem cloneR2 (ad : Addr) (cap : Nat) (C : List Value) (n : Nat) (w : World) (hrow : Row w (some ad) C) (hlen : C.length = n * 2) (hn : 0 < n) (hl : n ≤ 1000000000000) :
    Calls Tryz.prog 127 #[.slice (some ad) n cap] w fun e w' =>
      ∃ g G L, e = .returned (.slice (some ⟨g, 0, none⟩) n G) ∧ Blk w' g (C ++ L) 53 ∧ (∀ v ∈ L, v = .slice none 0 0) ∧ n ≤ G ∧ G ≤ 9223372036854775807 ∧ w.heap.size ≤ g ∧ Below w.heap.size w w' := by
  obtain ⟨i0, hi, hz0, hz1, hz2⟩ := info_parts infoR
  have q : ∀ (w : World) (a : Option Addr) (n c n' c' : Nat), (binOp .eql 22 (.slice a n c) (.slice none n' c')).run Tryz.prog w = .ok (.bool a.isNone) w := fun w a n c n' c' => Lib.run_eql_slice_nil w _ _ a n c n' c' Tryz.underlying22
  have belA := (Below.refl w.heap.size w).alloc (Nat.le_refl _) (Obj.cells #[] 53)
  have hs := hrow.alloc (.cells #[] 53)
  have hsrc : ∀ j u, C[j]? = some u → (w.alloc (.cells #[] 53)).cell? (ad.add j) = some u := by
    intro j u hu
    obtain ⟨b', off', e, _, hc⟩ := hs.at (by intro e; rw [e] at hu; simp at hu)
    obtain rfl := Option.some.inj e
    rw [Addr.add_lit]
    exact hc j u hu
  have e1 : C.length = n * i0.size := by rw [hz1]; exact hlen
  have e2 : (Value.agg #[.slice none 0 0, .slice none 0 0]).cells.size = i0.size := by rw [hz1]; rfl
  have e3 : n * i0.bytes ≤ 140737488355328 := by rw [hz2]; omega
  replace hlen := hide hlen
  replace e1 := hide e1
  replace e2 := hide e2
  clear hrow hs
  go_enter Tryz.func127, Tryz.ntmps127
  go_wp2_with (at_builtin; refine wpList_append_fresh _ rfl (.tmp 5) (.tmp 6) 22 rfl 53 i0 (.agg #[.slice none 0 0, .slice none 0 0]) Tryz.underlying22 hi hz0 e2.out (by rw [hz1]; decide) ⟨w.heap.size, 0, none⟩ rfl ad n cap C rfl e1.out hsrc hn (by unfold maxLen; omega) e3 ?_)
  intro G L w1 B1 hL _ hG hGm grow1
  have bel1 : Below w.heap.size w w1 := belA.grown grow1 (by simp) (fun k h => by cases h)
  go_wp2_with fail
  go_ret
  refine ⟨_, G, L, rfl, B1, ?_, hG, by unfold maxLen at hGm; exact hGm, by simp, bel1⟩
  intro v hv
  have := hL v hv
  simpa [Value.cells] using this

end Go.Proofs.YtjjfgmcgonkicaaGreatDoor
