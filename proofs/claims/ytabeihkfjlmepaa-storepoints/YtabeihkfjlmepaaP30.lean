/-
  rainbookref.Sealed, of a shelf that is right: all cases in one.
-/
import Derived.Lib.AppendZeros
import Derived.Test.YtabeihkfjlmepaaHRefSeal
import Derived.Test.YtabeihkfjlmepaaP26
import Derived.Test.YtabeihkfjlmepaaP24
import Derived.Test.YtabeihkfjlmepaaP06
namespace Go.Proofs.Ytabeihkfjlmepaa
open Go.RowKit

theorem rw_at {l : List Lr} {k : Nat} {r : Lr} (hr : l[k]? = some r) : (l.map Lr.rw).getD k rw0 = r.rw := by
  rw [List.getD, List.getElem?_map, hr]
  rfl

/-- Sealed, of a shelf that is right. -/
theorem refSeal_any (l : List Lr) (ao : Option Addr) (cap : Nat) (s n : Int) (w : World) (hs : SlR w ao cap l) (hR : Right (l.map Lr.rw)) :
    Calls Try.prog 51 #[.agg #[.slice ao l.length cap], .int .i64 s, .int .i64 n] w fun e w' =>
      ∃ rs a' G, e = .returned (.tuple #[.agg #[.slice a' rs.length G], .int .i64 (sealE (l.map Lr.rw) s n)]) ∧ rs.map Lr.rw = sealL (l.map Lr.rw) s n ∧ SlR w' a' G rs ∧ Below w.heap.size w w' := by
  have h4 : l.length = 4 := by have := hR.four; rwa [List.length_map] at this
  have no : ∀ E : Int, E ≠ 0 → sealE (l.map Lr.rw) s n = E → (Calls Try.prog 51 #[.agg #[.slice ao l.length cap], .int .i64 s, .int .i64 n] w fun e w' => e = .returned (.tuple #[.agg #[.slice none 0 0], .int .i64 E]) ∧ Below w.heap.size w w') →
      Calls Try.prog 51 #[.agg #[.slice ao l.length cap], .int .i64 s, .int .i64 n] w fun e w' =>
      ∃ rs a' G, e = .returned (.tuple #[.agg #[.slice a' rs.length G], .int .i64 (sealE (l.map Lr.rw) s n)]) ∧ rs.map Lr.rw = sealL (l.map Lr.rw) s n ∧ SlR w' a' G rs ∧ Below w.heap.size w w' := by
    intro E hE hS h
    refine h.mono ?_
    rintro e w' ⟨rfl, hb⟩
    refine ⟨[], none, 0, by rw [hS]; rfl, ?_, SlR.ofNil _, hb⟩
    unfold sealL
    rw [hS, if_neg hE]
    rfl
  by_cases h0 : inI s 0 3 = false
  · exact no 5 (by decide) (by unfold sealE; rw [if_pos h0]) (refSeal_who _ _ _ _ _ _ h0)
  · have hs3 : 0 ≤ s ∧ s ≤ 3 := by
      have : inI s 0 3 = true := by simpa using h0
      exact of_decide_eq_true this
    obtain ⟨k, rfl⟩ := Int.eq_ofNat_of_zero_le hs3.1
    have hk : k < 4 := by omega
    obtain ⟨r, hr⟩ : ∃ r, l[k]? = some r := ⟨_, List.getElem?_eq_getElem (by rw [h4]; exact hk)⟩
    have hg := rw_at hr
    have hf := hR.few r.rw (List.mem_map.2 ⟨r, List.mem_of_getElem? hr, rfl⟩)
    have hf1 : r.bs.length ≤ 8 := by have := hf.1; unfold Lr.rw at this; simpa using this
    have hf2 : r.hd.length ≤ 40 := hf.2
    have hh : r.rw.head = r.hd := rfl
    have hkn : ((k : Int)).toNat = k := Int.toNat_natCast k
    rw [h4] at no ⊢
    by_cases h1 : inI n 1 r.hd.length = false
    · exact no 3 (by decide) (by unfold sealE; rw [if_neg h0, hkn, hg, hh, if_pos h1]) (refSeal_range l ao cap k n w hs h4 hk r hr h1)
    · have hn1 : inI n 1 r.hd.length = true := by simpa using h1
      have hn : 1 ≤ n ∧ n ≤ r.hd.length := of_decide_eq_true hn1
      obtain ⟨q, rfl⟩ := Int.eq_ofNat_of_zero_le (show 0 ≤ n by omega)
      by_cases h8 : 8 ≤ r.bs.length
      · exact no 2 (by decide) (by unfold sealE; rw [if_neg h0, hkn, hg, hh, if_neg h1, if_pos (by unfold Lr.rw; simpa using h8)]) (refSeal_many l ao cap k q w hs h4 hk r hr hn1 h8 hf1)
      · have hE : sealE (l.map Lr.rw) k q = 0 := by unfold sealE; rw [if_neg h0, hkn, hg, hh, if_neg h1, if_neg (by unfold Lr.rw; simpa using h8)]
        refine (refSeal_ok l ao cap k q w hs h4 hk r hr hf2 (by omega) (by omega) (by omega)).mono ?_
        rintro e w' ⟨rs, a', G, rfl, hrs, hS, hb⟩
        have hl : rs.length = 4 := by
          have := congrArg List.length hrs
          rw [List.length_map, List.length_set, List.length_map, h4] at this
          exact this
        refine ⟨rs, a', G, by rw [hE, hl], ?_, hS, hb⟩
        unfold sealL
        rw [hE, if_pos rfl, hkn, hg, hrs]
        rfl

end Go.Proofs.Ytabeihkfjlmepaa

/-
  slices.Concat of three slices of blocks that are some: the new row, in new memory.
-/
namespace Go.Proofs.Ytabeihkfjlmepaa
open Go.RowKit

set_option maxHeartbeats 400000 in
set_option maxRecDepth 100000 in
theorem growB (n : Nat) (w : World) (h0 : 0 < n) (hn : n ≤ 1000000000000) :
    Calls Try.prog 81 #[.slice none 0 0, .int .i64 n] w fun e w' => ∃ G, e = .returned (.slice (some ⟨w.heap.size, 0, none⟩) 0 G) ∧ n ≤ G ∧ G ≤ maxLen ∧ w'.ownsRow w.heap.size 60 4 (.slice (some ⟨w.heap.size, 0, none⟩) 0 G) 0 [] ∧ Below w.heap.size w w' := by
  obtain ⟨i0, hi, hz0, hz1, hz2⟩ := info_parts infoB
  have hrz := fun ty => Lib.run_append_nil_zeros (P := Try.prog) w 54 3 ty 60 i0 (.agg #[.int .i64 0, .int .i64 0, .int .i64 0, .slice none 0 0]) .i64 .i64 Try.underlying54 Try.underlying3 hi hz0 n h0 (by omega) (by omega) (by rw [hz2]; omega)
  have hG1 : n ≤ grownCap w n 0 60 := grownCap_ge w _ _ _
  have hG2 : grownCap w n 0 60 ≤ maxLen := grownCap_le_maxLen w n 0 _ (by unfold maxLen; omega)
  generalize grownCap w n 0 60 = G at *
  have hG3 := hG2
  unfold maxLen at hG3
  go_enter Try.func81, Try.ntmps81
  go_wp2_with (at_builtin; refine Lib.wpList_append_run _ rfl _ _ _ _ rfl _ _ rfl rfl _ _ (hrz _) ?_)
  go_ret
  refine ⟨G, rfl, hG1, hG2, ?_, ?_⟩
  · refine ⟨rfl, .inr ⟨w.heap.size, G, _, rfl, Nat.le_refl _, heap_alloc_new _ _, Nat.zero_le _, hG2, ?_, by simp⟩⟩
    rw [Array.size_append, size_zeroCells, size_zeroCells]
    show n * 4 + (G - n) * 4 = G * 4
    omega
  · repeat (first | exact Below.refl _ _ | apply Below.drew | refine Below.alloc ?_ (by simp) _)

/-- A source of an append: where its cells lie. -/
theorem Row.src {w : World} {ao : Option Addr} {cs : List Value} (h : Row w ao cs) : ∀ ad, ao = some ad → ∀ j u, cs[j]? = some u → w.cell? (ad.add j) = some u := by
  intro ad had j u hu
  obtain ⟨b, off, e, _, hc⟩ := h.at (by intro e; rw [e] at hu; simp at hu)
  rw [e] at had
  obtain rfl := Option.some.inj had
  rw [Addr.add_lit]
  exact hc j u hu

set_option maxHeartbeats 1000000 in
set_option maxRecDepth 100000 in
theorem concatB3 (B : Nat) (a1 a2 a3 : Option Addr) (c1 c2 c3 n1 n2 n3 : Nat) (C1 C2 C3 : List Value) (w : World) (e0 : w.cell? ⟨B, 0, none⟩ = some (.slice a1 n1 c1)) (e1 : w.cell? ⟨B, 1, none⟩ = some (.slice a2 n2 c2)) (e2 : w.cell? ⟨B, 2, none⟩ = some (.slice a3 n3 c3))
    (s1 : Row w a1 C1) (s2 : Row w a2 C2) (s3 : Row w a3 C3) (h1 : C1.length = n1 * 4) (h2 : C2.length = n2 * 4) (h3 : C3.length = n3 * 4) (y1 : a1 = none → n1 = 0 ∧ c1 = 0) (y2 : a2 = none → n2 = 0 ∧ c2 = 0) (y3 : a3 = none → n3 = 0 ∧ c3 = 0)
    (o1 : ∀ v ∈ C1, v.oneCell' = true) (o2 : ∀ v ∈ C2, v.oneCell' = true) (o3 : ∀ v ∈ C3, v.oneCell' = true) (h0 : 0 < n1 + n2 + n3) (hm : n1 + n2 + n3 ≤ 1000000000000) (hB : B < w.heap.size) :
    Calls Try.prog 70 #[.slice (some ⟨B, 0, none⟩) 3 3] w fun e w' => ∃ g G, e = .returned (.slice (some ⟨g, 0, none⟩) (n1 + n2 + n3) G) ∧ w'.ownsRow w.heap.size 60 4 (.slice (some ⟨g, 0, none⟩) (n1 + n2 + n3) G) (n1 + n2 + n3) (C1 ++ (C2 ++ C3)) ∧ Below w.heap.size w w' := by
  obtain ⟨i0, hi, hz0, hz1, hz2⟩ := info_parts infoB
  replace h1 := hide h1
  replace h2 := hide h2
  replace h3 := hide h3
  go_enter Try.func70, Try.ntmps70
  go_wp2_with fail
  refine wp_loop_rounds 4 ?_
  rw [rounds_succ]
  go_wp2_with fail
  rw [rounds_succ]
  go_wp2_with fail
  rw [rounds_succ]
  go_wp2_with fail
  rw [rounds_succ]
  go_wp2_with fail
  have hg := growB (n1 + n2 + n3) w h0 hm
  rw [Int.natCast_add, Int.natCast_add] at hg
  refine hg.mono ?_
  rintro e w1 ⟨G, rfl, hG1, hG2, own0, bel⟩
  clear hg
  have f0 : w1.cell? ⟨B, 0, none⟩ = some (.slice a1 n1 c1) := (bel.cell (p := ⟨B, 0, none⟩) hB).trans e0
  have f1 : w1.cell? ⟨B, 1, none⟩ = some (.slice a2 n2 c2) := (bel.cell (p := ⟨B, 1, none⟩) hB).trans e1
  have f2 : w1.cell? ⟨B, 2, none⟩ = some (.slice a3 n3 c3) := (bel.cell (p := ⟨B, 2, none⟩) hB).trans e2
  have t1 := (s1.keep bel (Nat.le_refl _)).src
  have hlt := (own0.lt w.heap.size rfl).2
  clear e0 e1 e2
  have b1 : 0 + n1 ≤ G := by omega
  go_wp2_with fail
  refine wp_loop_rounds 4 ?_
  rw [rounds_succ]
  go_wp2_with (at_builtin; refine wpList_append_fits_any _ rfl (.tmp 31) (.tmp 32) 54 rfl w.heap.size 60 i0 4 Try.underlying54 hi hz1 w.heap.size 0 G [] rfl own0 a1 n1 c1 C1 rfl h1.out y1 t1 o1 b1 ?_)
  intro w2 own1 grow1
  have bel2 : Below w.heap.size w w2 := bel.grown grow1 (by omega) (fun k h => by cases h; exact Nat.le_refl _)
  have f3 : w2.cell? ⟨B, 1, none⟩ = some (.slice a2 n2 c2) := grow1.cell f1 (by intro e; have h : B = w.heap.size := Option.some.inj e; omega)
  have f4 : w2.cell? ⟨B, 2, none⟩ = some (.slice a3 n3 c3) := grow1.cell f2 (by intro e; have h : B = w.heap.size := Option.some.inj e; omega)
  have t2 := (s2.keep bel2 (Nat.le_refl _)).src
  clear f0 f1 f2 t1 own0 bel grow1 b1
  have b2 : n1 + n2 ≤ G := by omega
  go_wp2_with fail
  rw [rounds_succ]
  go_wp2_with (at_builtin; refine wpList_append_fits_any _ rfl (.tmp 31) (.tmp 32) 54 rfl w.heap.size 60 i0 4 Try.underlying54 hi hz1 w.heap.size n1 G C1 rfl own1 a2 n2 c2 C2 rfl h2.out y2 t2 o2 b2 ?_)
  intro w3 own2 grow2
  have bel3 : Below w.heap.size w w3 := bel2.grown grow2 (bel2.size) (fun k h => by cases h; exact Nat.le_refl _)
  have f5 : w3.cell? ⟨B, 2, none⟩ = some (.slice a3 n3 c3) := grow2.cell f4 (by intro e; have h : B = w.heap.size := Option.some.inj e; omega)
  have t3 := (s3.keep bel3 (Nat.le_refl _)).src
  clear f3 f4 t2 own1 bel2 grow2
  have b3 : n1 + n2 + n3 ≤ G := by omega
  go_wp2_with fail
  rw [rounds_succ]
  go_wp2_with (at_builtin; refine wpList_append_fits_any _ rfl (.tmp 31) (.tmp 32) 54 rfl w.heap.size 60 i0 4 Try.underlying54 hi hz1 w.heap.size (n1 + n2) G (C1 ++ C2) rfl own2 a3 n3 c3 C3 rfl h3.out y3 t3 o3 b3 ?_)
  intro w4 own3 grow3
  have bel4 : Below w.heap.size w w4 := bel3.grown grow3 (bel3.size) (fun k h => by cases h; exact Nat.le_refl _)
  go_wp2_with fail
  rw [rounds_succ]
  go_wp2_with fail
  go_ret
  exact ⟨w.heap.size, G, rfl, own3, bel4⟩

end Go.Proofs.Ytabeihkfjlmepaa

/-
  rainbookref.Merged: what it answers, whatever it is handed; nothing that was there is written.
-/
namespace Go.Proofs.Ytabeihkfjlmepaa
open Go.RowKit

set_option maxHeartbeats 400000 in
set_option maxRecDepth 100000 in
theorem refMerge_no1 (a b : Bk) (ao bo : Option Addr) (ca cb : Nat) (w : World) (ha : Sl w ao ca (a.bits.map Value.bool)) (la : a.bits.length ≤ 140737488355328) (h : ¬ ptsE a = 0) :
    Calls Try.prog 69 #[bkV a ao ca, bkV b bo cb] w fun e w' => e = .returned (.tuple #[.agg #[.int .i64 0, .int .i64 0, .int .i64 0, .slice none 0 0], .int .i64 (ptsE a)]) ∧ Below w.heap.size w w' := by
  have c1 := fun W h => refPoints_any a ao ca W h la
  generalize ptsE a = E at *
  generalize ptsL a = P at *
  obtain ⟨an, af, aT, X⟩ := a
  obtain ⟨bn, bf, bT, Y⟩ := b
  unfold bkV at *
  simp only at *
  have h3 := three w [.int .i64 an, .int .i64 af, .int .i64 aT, .slice ao X.length ca] [.int .i64 bn, .int .i64 bf, .int .i64 bT, .slice bo Y.length cb] [.int .i64 0, .int .i64 0, .int .i64 0, .slice none 0 0] 60
  have sa := fun o1 o2 o3 => ((ha.alloc o1).alloc o2).alloc o3
  clear la ha
  go_enter Try.func69, Try.ntmps69
  go_wp2_with fail
  go_at_call 63
  refine (c1 _ (sa _ _ _)).mono ?_
  rintro e w1 ⟨a1, G1, rfl, s1, b1⟩
  obtain ⟨_, BR, bel⟩ := h3
  have BR := BR.keep b1 BR.lt
  have bel := belowCall bel b1
  clear c1 b1 sa
  have f0 := BR.free 0
  have f1 := BR.free 1
  have f2 := BR.free 2
  have f3 := BR.free 3
  have d0 : w1.cell? ⟨w.heap.size + 2, 0, none⟩ = some (.int .i64 0) := BR.cell 0
  have d1 : w1.cell? ⟨w.heap.size + 2, 1, none⟩ = some (.int .i64 0) := BR.cell 1
  have d2 : w1.cell? ⟨w.heap.size + 2, 2, none⟩ = some (.int .i64 0) := BR.cell 2
  have d3 : w1.cell? ⟨w.heap.size + 2, 3, none⟩ = some (.slice none 0 0) := BR.cell 3
  have hgl := BR.lt
  go_wp2_with fail
  have B4 := BR.put4 (.int .i64 0) (.int .i64 0) (.int .i64 0) (.slice none 0 0)
  have bel4 := below4 bel (g := w.heap.size + 2) (by omega) (.int .i64 0) (.int .i64 0) (.int .i64 0) (.slice none 0 0)
  generalize World.setCell _ _ _ = w5 at *
  have i0 : w5.cell? ⟨w.heap.size + 2, 0, none⟩ = some (.int .i64 0) := B4.cell 0
  have i1 : w5.cell? ⟨w.heap.size + 2, 1, none⟩ = some (.int .i64 0) := B4.cell 1
  have i2 : w5.cell? ⟨w.heap.size + 2, 2, none⟩ = some (.int .i64 0) := B4.cell 2
  have i3 : w5.cell? ⟨w.heap.size + 2, 3, none⟩ = some (.slice none 0 0) := B4.cell 3
  exact bodyPost_ret (v := .tuple #[.agg #[.int .i64 0, .int .i64 0, .int .i64 0, .slice none 0 0], .int .i64 E]) (by simp [results, Try.results69, go_sem, i0, i1, i2, i3]) rfl ⟨rfl, bel4⟩

set_option maxHeartbeats 400000 in
set_option maxRecDepth 100000 in
theorem refMerge_no2 (a b : Bk) (ao bo : Option Addr) (ca cb : Nat) (w : World) (ha : Sl w ao ca (a.bits.map Value.bool)) (hb : Sl w bo cb (b.bits.map Value.bool)) (la : a.bits.length ≤ 140737488355328) (lb : b.bits.length ≤ 140737488355328) (h0 : ptsE a = 0) (h : ¬ ptsE b = 0) :
    Calls Try.prog 69 #[bkV a ao ca, bkV b bo cb] w fun e w' => e = .returned (.tuple #[.agg #[.int .i64 0, .int .i64 0, .int .i64 0, .slice none 0 0], .int .i64 (ptsE b)]) ∧ Below w.heap.size w w' := by
  have c1 := fun W h => refPoints_any a ao ca W h la
  have c2 := fun W h => refPoints_any b bo cb W h lb
  rw [h0] at c1
  generalize ptsE b = E at *
  generalize ptsL a = P at *
  generalize ptsL b = Q at *
  clear h0
  obtain ⟨an, af, aT, X⟩ := a
  obtain ⟨bn, bf, bT, Y⟩ := b
  unfold bkV at *
  simp only at *
  have h3 := three w [.int .i64 an, .int .i64 af, .int .i64 aT, .slice ao X.length ca] [.int .i64 bn, .int .i64 bf, .int .i64 bT, .slice bo Y.length cb] [.int .i64 0, .int .i64 0, .int .i64 0, .slice none 0 0] 60
  have sa := fun o1 o2 o3 => ((ha.alloc o1).alloc o2).alloc o3
  clear la lb ha
  go_enter Try.func69, Try.ntmps69
  go_wp2_with fail
  go_at_call 63
  refine (c1 _ (sa _ _ _)).mono ?_
  rintro e w1 ⟨a1, G1, rfl, s1, b1⟩
  obtain ⟨BB, BR, bel⟩ := h3
  have BB := BB.keep b1 BB.lt
  have BR := BR.keep b1 BR.lt
  have bel := belowCall bel b1
  have hb := hb.keep bel (Nat.le_refl _)
  clear c1 b1 sa
  have m0 : w1.cell? ⟨w.heap.size + 1, 0, none⟩ = some (.int .i64 bn) := BB.cell 0
  have m1 : w1.cell? ⟨w.heap.size + 1, 1, none⟩ = some (.int .i64 bf) := BB.cell 1
  have m2 : w1.cell? ⟨w.heap.size + 1, 2, none⟩ = some (.int .i64 bT) := BB.cell 2
  have m3 : w1.cell? ⟨w.heap.size + 1, 3, none⟩ = some (.slice bo Y.length cb) := BB.cell 3
  go_wp2_with fail
  go_at_call 63
  refine (c2 _ hb).mono ?_
  rintro e w2 ⟨a2, G2, rfl, s2, b2⟩
  have BR := BR.keep b2 BR.lt
  have bel := belowCall bel b2
  clear c2 b2 m0 m1 m2 m3 BB hb s1 s2
  have f0 := BR.free 0
  have f1 := BR.free 1
  have f2 := BR.free 2
  have f3 := BR.free 3
  have d0 : w2.cell? ⟨w.heap.size + 2, 0, none⟩ = some (.int .i64 0) := BR.cell 0
  have d1 : w2.cell? ⟨w.heap.size + 2, 1, none⟩ = some (.int .i64 0) := BR.cell 1
  have d2 : w2.cell? ⟨w.heap.size + 2, 2, none⟩ = some (.int .i64 0) := BR.cell 2
  have d3 : w2.cell? ⟨w.heap.size + 2, 3, none⟩ = some (.slice none 0 0) := BR.cell 3
  have hgl := BR.lt
  go_wp2_with fail
  have B4 := BR.put4 (.int .i64 0) (.int .i64 0) (.int .i64 0) (.slice none 0 0)
  have bel4 := below4 bel (g := w.heap.size + 2) (by omega) (.int .i64 0) (.int .i64 0) (.int .i64 0) (.slice none 0 0)
  generalize World.setCell _ _ _ = w5 at *
  have i0 : w5.cell? ⟨w.heap.size + 2, 0, none⟩ = some (.int .i64 0) := B4.cell 0
  have i1 : w5.cell? ⟨w.heap.size + 2, 1, none⟩ = some (.int .i64 0) := B4.cell 1
  have i2 : w5.cell? ⟨w.heap.size + 2, 2, none⟩ = some (.int .i64 0) := B4.cell 2
  have i3 : w5.cell? ⟨w.heap.size + 2, 3, none⟩ = some (.slice none 0 0) := B4.cell 3
  exact bodyPost_ret (v := .tuple #[.agg #[.int .i64 0, .int .i64 0, .int .i64 0, .slice none 0 0], .int .i64 E]) (by simp [results, Try.results69, go_sem, i0, i1, i2, i3]) rfl ⟨rfl, bel4⟩

set_option maxHeartbeats 400000 in
set_option maxRecDepth 100000 in
theorem refMerge_ok (a b : Bk) (ao bo : Option Addr) (ca cb : Nat) (w : World) (ha : Sl w ao ca (a.bits.map Value.bool)) (hb : Sl w bo cb (b.bits.map Value.bool)) (la : a.bits.length ≤ 140737488355328) (lb : b.bits.length ≤ 140737488355328) (h0 : ptsE a = 0) (h1 : ptsE b = 0) :
    Calls Try.prog 69 #[bkV a ao ca, bkV b bo cb] w fun e w' =>
      ∃ a' G, e = .returned (.tuple #[bkV (makeB (ptsL a ++ ptsL b)) a' G, .int .i64 (makeE (ptsL a ++ ptsL b))]) ∧ Sl w' a' G ((makeB (ptsL a ++ ptsL b)).bits.map Value.bool) ∧ Below w.heap.size w w' := by
  have c1 := fun W h => refPoints_any a ao ca W h la
  have c2 := fun W h => refPoints_any b bo cb W h lb
  rw [h0] at c1
  rw [h1] at c2
  have p1 := ptsL_pos h0
  have p2 := ptsL_pos h1
  have q1 := ptsL_length a
  have q2 := ptsL_length b
  generalize ptsL a = P at *
  generalize ptsL b = Q at *
  have c3 := fun a cap W h => refMake_any a cap (P ++ Q) W h
  have c4 := fun b off cap W h => clonePt b off cap P W h p1 (by omega)
  clear h0 h1
  generalize makeE (P ++ Q) = E at *
  generalize makeB (P ++ Q) = M at *
  obtain ⟨an, af, aT, X⟩ := a
  obtain ⟨bn, bf, bT, Y⟩ := b
  obtain ⟨mn, mf, mT, Z⟩ := M
  unfold bkV at *
  simp only at *
  have hP : P ≠ [] := by intro e; rw [e] at p1; simp at p1
  have hQ : Q ≠ [] := by intro e; rw [e] at p2; simp at p2
  obtain ⟨n, hn⟩ : ∃ n, n = P.length := ⟨_, rfl⟩
  obtain ⟨m, hm⟩ : ∃ m, m = Q.length := ⟨_, rfl⟩
  have hnm : (P ++ Q).length = n + m := by rw [List.length_append, hn, hm]
  rw [hnm] at c3
  rw [← hn] at c1 p1 q1 c4
  rw [← hm] at c2 p2 q2
  replace hn := hide hn
  replace hm := hide hm
  replace hnm := hide hnm
  obtain ⟨i0, hi, hz0, hz1, hz2⟩ := info_parts infoPoint
  have h3 := three w [.int .i64 an, .int .i64 af, .int .i64 aT, .slice ao X.length ca] [.int .i64 bn, .int .i64 bf, .int .i64 bT, .slice bo Y.length cb] [.int .i64 0, .int .i64 0, .int .i64 0, .slice none 0 0] 60
  have sa := fun o1 o2 o3 => ((ha.alloc o1).alloc o2).alloc o3
  clear la lb ha
  go_enter Try.func69, Try.ntmps69
  go_wp2_with fail
  go_at_call 63
  refine (c1 _ (sa _ _ _)).mono ?_
  rintro e w1 ⟨a1, G1, rfl, s1, b1⟩
  obtain ⟨BB, BR, bel⟩ := h3
  have BB := BB.keep b1 BB.lt
  have BR := BR.keep b1 BR.lt
  have bel := belowCall bel b1
  have hb := hb.keep bel (Nat.le_refl _)
  clear c1 b1 sa
  have m0 : w1.cell? ⟨w.heap.size + 1, 0, none⟩ = some (.int .i64 bn) := BB.cell 0
  have m1 : w1.cell? ⟨w.heap.size + 1, 1, none⟩ = some (.int .i64 bf) := BB.cell 1
  have m2 : w1.cell? ⟨w.heap.size + 1, 2, none⟩ = some (.int .i64 bT) := BB.cell 2
  have m3 : w1.cell? ⟨w.heap.size + 1, 3, none⟩ = some (.slice bo Y.length cb) := BB.cell 3
  go_wp2_with fail
  go_at_call 63
  refine (c2 _ hb).mono ?_
  rintro e w2 ⟨a2, G2, rfl, s2, b2⟩
  have BR := BR.keep b2 BR.lt
  have bel := belowCall bel b2
  have s1 := s1.call b2
  clear c2 b2 m0 m1 m2 m3 BB hb
  obtain ⟨xb, xo, rfl, hxb⟩ := s1.where hP
  obtain ⟨yb, yo, rfl, hyb⟩ := s2.where hQ
  have yl : (cellsP Q).length = m * 2 := by rw [cellsP_length, ← hm.out]
  replace yl := hide yl
  have yone := cellsP_one Q
  go_wp2_with fail
  go_at_call 66
  refine (c4 _ _ _ _ s1).mono ?_
  rintro e w3 ⟨v3, rfl, own3, bel3⟩
  have s3 := s2.call bel3
  have hsz := bel3.size
  have hrl := BR.lt
  obtain ⟨a3, c3', rfl⟩ : ∃ a3 c3', v3 = .slice a3 n c3' := by
    rcases own3.2 with ⟨rfl, rfl⟩ | ⟨g, cp, cur, rfl, _⟩
    · exact ⟨_, _, rfl⟩
    · exact ⟨_, _, rfl⟩
  have ysrc : ∀ j u, (cellsP Q)[j]? = some u → w3.cell? ((⟨yb, yo, none⟩ : Addr).add j) = some u := by
    intro j u hu
    obtain ⟨b', off', e, _, hc⟩ := s3.row.at (by intro e; rw [e] at hu; simp at hu)
    simp only [Option.some.injEq, Addr.mk.injEq, and_true] at e
    obtain ⟨rfl, rfl⟩ := e
    rw [Addr.add_lit]
    exact hc j u hu
  clear c4 s3
  go_wp2_with (at_builtin; refine wpList_append_went _ rfl (.tmp 28) (.tmp 29) 37 rfl w2.heap.size 43 i0 (.agg #[.int .i64 0, .int .i64 0]) 2 16 Try.underlying37 hi hz0 hz1 hz2 rfl (by decide) _ n _ rfl own3 ⟨yb, yo, none⟩ m _ (cellsP Q) rfl yl.out ysrc yone p2 (by unfold maxLen; omega) (by omega) hsz ?_)
  intro v5 w5 own5 grow5 _
  have bel5 := belowGrown bel3 own3 grow5 (Nat.le_refl _) hsz
  rw [← cellsP_append] at own5
  obtain ⟨a5, c5, rfl, s5, _, _⟩ := SlP.ofOwn own5
  have BR5 := BR.keep bel5 hrl
  have belA := bel.trans (bel5.mono (by omega))
  clear own5 grow5 own3 bel3 bel5 bel BR s1 s2 hn hm
  go_wp2_with fail
  go_at_call 67
  refine (c3 _ _ _ s5).mono ?_
  rintro e w6 ⟨a6, G6, rfl, t6, b6⟩
  have BR6 := BR5.keep b6 BR5.lt
  have bel6 := belowCall belA b6
  clear c3 b6 BR5 belA s5
  have f0 := BR6.free 0
  have f1 := BR6.free 1
  have f2 := BR6.free 2
  have f3 := BR6.free 3
  have d0 : w6.cell? ⟨w.heap.size + 2, 0, none⟩ = some (.int .i64 0) := BR6.cell 0
  have d1 : w6.cell? ⟨w.heap.size + 2, 1, none⟩ = some (.int .i64 0) := BR6.cell 1
  have d2 : w6.cell? ⟨w.heap.size + 2, 2, none⟩ = some (.int .i64 0) := BR6.cell 2
  have d3 : w6.cell? ⟨w.heap.size + 2, 3, none⟩ = some (.slice none 0 0) := BR6.cell 3
  have hgl6 := BR6.lt
  go_wp2_with fail
  have B4 := BR6.put4 (.int .i64 mn) (.int .i64 mf) (.int .i64 mT) (.slice a6 Z.length G6)
  have bel4 := below4 bel6 (g := w.heap.size + 2) (by omega) (.int .i64 mn) (.int .i64 mf) (.int .i64 mT) (.slice a6 Z.length G6)
  have t4 := t6.put4 BR6 (.int .i64 mn) (.int .i64 mf) (.int .i64 mT) (.slice a6 Z.length G6)
  generalize World.setCell _ _ _ = w7 at *
  have i0 : w7.cell? ⟨w.heap.size + 2, 0, none⟩ = some (.int .i64 mn) := B4.cell 0
  have i1 : w7.cell? ⟨w.heap.size + 2, 1, none⟩ = some (.int .i64 mf) := B4.cell 1
  have i2 : w7.cell? ⟨w.heap.size + 2, 2, none⟩ = some (.int .i64 mT) := B4.cell 2
  have i3 : w7.cell? ⟨w.heap.size + 2, 3, none⟩ = some (.slice a6 Z.length G6) := B4.cell 3
  exact bodyPost_ret (v := .tuple #[.agg #[.int .i64 mn, .int .i64 mf, .int .i64 mT, .slice a6 Z.length G6], .int .i64 E]) (by simp [results, Try.results69, go_sem, i0, i1, i2, i3]) rfl ⟨a6, G6, rfl, t4, bel4⟩

/-- Merged, whatever it is handed. -/
theorem refMerge_any (a b : Bk) (ao bo : Option Addr) (ca cb : Nat) (w : World) (ha : Sl w ao ca (a.bits.map Value.bool)) (hb : Sl w bo cb (b.bits.map Value.bool)) (la : a.bits.length ≤ 140737488355328) (lb : b.bits.length ≤ 140737488355328) :
    Calls Try.prog 69 #[bkV a ao ca, bkV b bo cb] w fun e w' =>
      ∃ a' G, e = .returned (.tuple #[bkV (mergeB a b) a' G, .int .i64 (mergeE a b)]) ∧ Sl w' a' G ((mergeB a b).bits.map Value.bool) ∧ Below w.heap.size w w' := by
  by_cases h0 : ptsE a = 0
  · by_cases h1 : ptsE b = 0
    · have hB : mergeB a b = makeB (ptsL a ++ ptsL b) := if_pos ⟨h0, h1⟩
      have hE : mergeE a b = makeE (ptsL a ++ ptsL b) := by unfold mergeE; rw [if_pos h0, if_pos h1]
      rw [hB, hE]
      exact refMerge_ok a b ao bo ca cb w ha hb la lb h0 h1
    · have hB : mergeB a b = bk0 := if_neg (fun h => h1 h.2)
      have hE : mergeE a b = ptsE b := by unfold mergeE; rw [if_pos h0, if_neg h1]
      rw [hB, hE]
      refine (refMerge_no2 a b ao bo ca cb w ha hb la lb h0 h1).mono ?_
      rintro e w' ⟨rfl, hb⟩
      exact ⟨none, 0, rfl, Sl.ofNil _, hb⟩
  · have hB : mergeB a b = bk0 := if_neg (fun h => h0 h.1)
    have hE : mergeE a b = ptsE a := by unfold mergeE; rw [if_neg h0]
    rw [hB, hE]
    refine (refMerge_no1 a b ao bo ca cb w ha la h0).mono ?_
    rintro e w' ⟨rfl, hb⟩
    exact ⟨none, 0, rfl, Sl.ofNil _, hb⟩

end Go.Proofs.Ytabeihkfjlmepaa
