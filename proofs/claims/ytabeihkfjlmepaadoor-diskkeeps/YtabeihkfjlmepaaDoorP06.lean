/-
  note.read: the record that a text tells.
-/
import Derived.Lib.Split
import Derived.Deep.RegionHeld3
import Derived.Deep.Cut
import Derived.Deep.CutRange
import Derived.Lib.IndexMore
import Derived.Lib.MinMax
import Derived.Test.YtabeihkfjlmepaaDoorP05
import Derived.Test.YtabeihkfjlmepaaDoorP03
import Derived.Test.YtabeihkfjlmepaaDoorP02
import Derived.Test.YtabeihkfjlmepaaDoorP01
namespace Go.Proofs.YtabeihkfjlmepaaDoor
open Go.RowKit

theorem put4r {w : World} {g : Nat} {c0 c1 c2 c3 : Value} {t : TypeId} (h : Blk w g [c0, c1, c2, c3] t) (u0 u1 u2 u3 : Value) :
    Blk ((((w.setCell ⟨g, 0, none⟩ u0).setCell ⟨g, 1, none⟩ u1).setCell ⟨g, 2, none⟩ u2).setCell ⟨g, 3, none⟩ u3) g [u0, u1, u2, u3] t :=
  (((h.set 0 u0).set 1 u1).set 2 u2).set 3 u3

theorem below4r {B : Nat} {w W : World} (h : Below B w W) {g : Nat} (hg : B ≤ g) (u0 u1 u2 u3 : Value) : Below B w ((((W.setCell ⟨g, 0, none⟩ u0).setCell ⟨g, 1, none⟩ u1).setCell ⟨g, 2, none⟩ u2).setCell ⟨g, 3, none⟩ u3) :=
  (((h.setCell (p := ⟨g, 0, none⟩) hg u0).setCell (p := ⟨g, 1, none⟩) hg u1).setCell (p := ⟨g, 2, none⟩) hg u2).setCell (p := ⟨g, 3, none⟩) hg u3

theorem own4r {w : World} {base n g : Nat} {e t : TypeId} {size : Nat} {v : Value} {xs cs : List Value} (h : w.ownsRow base e size v n xs) (B : Blk w g cs t) (ht : e ≠ t) (u0 u1 u2 u3 : Value) : ((((w.setCell ⟨g, 0, none⟩ u0).setCell ⟨g, 1, none⟩ u1).setCell ⟨g, 2, none⟩ u2).setCell ⟨g, 3, none⟩ u3).ownsRow base e size v n xs := by
  have hne : v.ownBlock ≠ some g := by
    rcases h.2 with ⟨rfl, _⟩ | ⟨g1, c1, cur1, rfl, _, h1, _⟩
    · intro e; cases e
    · intro e
      have e1 : g1 = g := by simpa [Value.ownBlock] using e
      subst e1
      have h2 := h1.symm.trans B
      simp only [Option.some.injEq, Obj.cells.injEq] at h2
      exact ht h2.2.1
  exact ownsRow_setCell_other (ownsRow_setCell_other (ownsRow_setCell_other (ownsRow_setCell_other h (a := ⟨g, 0, none⟩) hne u0) (a := ⟨g, 1, none⟩) hne u1) (a := ⟨g, 2, none⟩) hne u2) (a := ⟨g, 3, none⟩) hne u3

theorem strs_laid (w : World) (l : List ByteArray) (T : TypeId) (h : l.length ≤ 1000000) : Sl (w.alloc (.cells (l.map Value.string).toArray T)) (some ⟨w.heap.size, 0, none⟩) l.length (l.map Value.string) := by
  have B := Blk.laid w (l.map Value.string) T _ rfl
  refine ⟨.inr ⟨_, 0, rfl, B.lt, fun i v hv => ?_⟩, by simp, by omega, fun h => by cases h⟩
  rw [Nat.zero_add]
  exact (B.cell i).trans hv

theorem strs_tail {w : World} {g c : Nat} {x : ByteArray} {r : List ByteArray} (S : Sl w (some ⟨g, 0, none⟩) c ((x :: r).map Value.string)) : Sl w (some ⟨g, 1, none⟩) (c - 1) (r.map Value.string) := by
  obtain ⟨b, off, e, hb, hc⟩ := S.row.at (by simp)
  simp only [Option.some.injEq, Addr.mk.injEq, and_true] at e
  obtain ⟨rfl, rfl⟩ := e
  have h1 := S.le
  have h2 := S.max
  simp only [List.length_map, List.length_cons] at h1
  refine ⟨.inr ⟨g, 1, rfl, hb, fun i v hv => ?_⟩, by rw [List.length_map]; omega, by omega, fun h => by cases h⟩
  have := hc (i + 1) v (by simpa using hv)
  rw [Nat.zero_add] at this
  rw [Nat.add_comm 1 i]
  exact this

set_option maxHeartbeats 4000000 in
set_option maxRecDepth 100000 in
theorem read_any (s : ByteArray) (w : World) (hg : Gl w) (hs : s.size ≤ 60000) :
    Calls Tryd.prog 26 #[.string s] w fun e w' => ((∃ r a' G, textR s = some r ∧ e = .returned (.tuple #[.agg #[.int .i64 r.k, .int .i64 r.s, .int .i64 r.n, .slice a' r.e.length G], .bool true]) ∧ w'.ownsRow w.heap.size 59 3 (.slice a' r.e.length G) r.e.length (r.e.flatMap ec)) ∨ (textR s = none ∧ e = .returned (.tuple #[.agg #[.int .i64 0, .int .i64 0, .int .i64 0, .slice none 0 0], .bool false]))) ∧ Below w.heap.size w w' := by
  have hlen : (wordsB s).length = Lib.countB s blank + 1 := Lib.splitB_all blank (by decide) 0 _ s rfl
  have hsm : ∀ b ∈ wordsB s, b.size ≤ 60000 := fun b hb => Nat.le_trans (split_small blank 0 _ s b hb) hs
  have hcl : Lib.countB s blank ≤ 60000 := Nat.le_trans (Lib.countB_le blank (by decide) s.size s (Nat.le_refl _)) hs
  obtain ⟨m, hmax⟩ := (hg.alloc (.cells #[.int .i64 0, .int .i64 0, .int .i64 0, .slice none 0 0] 24)).max
  have cS := Tryd.strings_Split s blank m (w.alloc (.cells #[.int .i64 0, .int .i64 0, .int .i64 0, .slice none 0 0] 24)) (by omega) hmax (by decide)
  rw [show Lib.splitB blank 0 (Lib.countB s blank) s = wordsB s from rfl, ← hlen] at cS
  have hT : textR s = readR ((wordsB s).map bytes) := rfl
  generalize textR s = TR at *
  generalize wordsB s = WS at *
  cases WS with
  | nil => simp at hlen
  | cons x r =>
    obtain ⟨c, hc⟩ : ∃ c, c = r.length := ⟨_, rfl⟩
    rw [List.length_cons, ← hc] at cS
    rw [List.length_cons] at hlen
    have B0 := Blk.laid w [.int .i64 0, .int .i64 0, .int .i64 0, .slice none 0 0] 24 _ rfl
    have bel : Below w.heap.size w (w.alloc (.cells #[.int .i64 0, .int .i64 0, .int .i64 0, .slice none 0 0] 24)) := (Below.refl _ _).alloc (Nat.le_refl _) _
    have g1 := hg.alloc (.cells #[.int .i64 0, .int .i64 0, .int .i64 0, .slice none 0 0] 24)
    generalize hw1 : w.alloc (.cells #[.int .i64 0, .int .i64 0, .int .i64 0, .slice none 0 0] 24) = w1 at *
    have S1 := strs_laid w1 (x :: r) 9 (by rw [List.length_cons]; omega)
    rw [List.length_cons, ← hc] at S1
    have bel2 := newB bel (.cells ((x :: r).map Value.string).toArray 9)
    have g2 := g1.alloc (.cells ((x :: r).map Value.string).toArray 9)
    have B2 := B0.keep (newB (Below.refl w1.heap.size w1) (.cells ((x :: r).map Value.string).toArray 9)) B0.lt
    have x0 : (w1.alloc (.cells ((x :: r).map Value.string).toArray 9)).cell? ⟨w1.heap.size, 0, none⟩ = some (.string x) := (Blk.laid w1 ((x :: r).map Value.string) 9 _ rfl).cell 0
    have l1 : w1.heap.size < (w1.alloc (.cells ((x :: r).map Value.string).toArray 9)).heap.size := by simp
    generalize hw2 : w1.alloc (.cells ((x :: r).map Value.string).toArray 9) = w2 at *
    have cN := fun a' cap' (h : Sl w2 a' cap' (r.map Value.string)) => readNumbers_any r a' cap' c w2 g2 h hc (by omega) (fun b hb => Nat.le_trans (hsm b (List.mem_cons_of_mem _ hb)) (by decide))
    have hc60 : c ≤ 60000 := by omega
    replace hc := hide hc
    replace hT := hide hT
    clear hlen hsm hcl hmax
    go_enter Tryd.func26, Tryd.ntmps26
    go_wp2_with fail
    go_at_call 48
    refine cS.mono ?_
    rintro e w2' ⟨rfl, hw2'⟩
    clear hw2 hw1
    obtain rfl := hw2'
    have p0 : w2'.cell? ⟨w.heap.size, 0, none⟩ = some (.int .i64 0) := B2.cell 0
    have lR := B2.lt
    by_cases hr : c = 0
    · subst hr
      obtain rfl := List.length_eq_zero_iff.1 hc.out.symm
      go_wp2_with fail
      go_at_call 49
      refine (cN (some ⟨w1.heap.size, 0, none⟩) 0 ⟨.inl rfl, by simp, by decide, fun h => by cases h⟩).mono ?_
      rintro e w3 ⟨(⟨vs, a3, G3, hvs, rfl, o3⟩ | ⟨hvs, rfl⟩), b3⟩
      · have B3 := B2.keep b3 B2.lt
        have r0 := B3.cell 0
        have r1 := B3.cell 1
        have r2 := B3.cell 2
        have r3 := B3.cell 3
        have f0 := B3.free 0
        have f1 := B3.free 1
        have f2 := B3.free 2
        have f3 := B3.free 3
        have lR3 := B3.lt
        have x3 := (b3.cell (p := ⟨w1.heap.size, 0, none⟩) l1).trans x0
        have lx3 : w1.heap.size < w3.heap.size := Nat.lt_of_lt_of_le l1 b3.size
        have bel3 := belowCall bel2 b3
        have hvl : vs.length = 0 := by rw [readNums_length _ _ hvs, List.length_map]; exact hc.out.symm
        have hTR : TR = (if bytes x = wBatch ∧ vs.length % 3 = 0 then some ⟨1, 0, 0, chunkL vs⟩ else if bytes x = wSeal ∧ vs.length = 2 then some ⟨2, vs.getD 0 0, vs.getD 1 0, []⟩ else if bytes x = wMerge ∧ vs.length = 2 then some ⟨3, vs.getD 0 0, vs.getD 1 0, []⟩ else if bytes x = wDrop ∧ vs.length = 1 then some ⟨4, 0, vs.getD 0 0, []⟩ else none) := by
          rw [hT.out]
          simp only [readR, List.map_cons, hvs, Option.bind_some]
        replace hvs := hide hvs
        have SV := ints_own o3
        by_cases kB : bytes x = wBatch
        · by_cases m3 : 0 % 3 = 0
          · rw [if_pos ⟨kB, by omega⟩] at hTR
            have bB : (x.toList == [98, 97, 116, 99, 104]) = true := by rw [toList_bytes, kB]; rfl
            have bS : (x.toList == [115, 101, 97, 108]) = false := by rw [toList_bytes, kB]; rfl
            have bM : (x.toList == [109, 101, 114, 103, 101]) = false := by rw [toList_bytes, kB]; rfl
            have bD : (x.toList == [100, 114, 111, 112]) = false := by rw [toList_bytes, kB]; rfl
            replace hTR := hide hTR
            obtain ⟨mm, hmm⟩ : ∃ mm, 0 = mm * 3 := ⟨0 / 3, by omega⟩
            have cE := fun W (h : Sl W a3 G3 (vs.map (Value.int .i64))) => entries_any vs mm 0 G3 a3 W h hvl.symm hmm (by omega)
            have hcl : (chunkL vs).length = mm := chunk_length mm vs (by omega)
            replace hmm := hide hmm
            clear hvl hT
            go_wp2_with fail
            go_at_call 50
            refine (cE _ SV).mono ?_
            rintro e w4 ⟨v4, rfl, o4, b4⟩
            obtain ⟨a4, G4, rfl, -, -, -⟩ := SlW.ofOwn ec_three (by decide) o4
            have B4 := B3.keep b4 B3.lt
            have s0 := B4.cell 0
            have s1 := B4.cell 1
            have s2 := B4.cell 2
            have s3 := B4.cell 3
            have u0 := B4.free 0
            have u1 := B4.free 1
            have u2 := B4.free 2
            have u3 := B4.free 3
            have lR4 := B4.lt
            have bel4' := belowCall bel3 b4
            go_wp2_with fail
            have B5 := put4r B4 (.int .i64 1) (.int .i64 0) (.int .i64 0) (.slice a4 mm G4)
            have bel5 := below4r bel4' (Nat.le_refl _) (.int .i64 1) (.int .i64 0) (.int .i64 0) (.slice a4 mm G4)
            have o5 := own4r o4 B4 (by decide) (.int .i64 1) (.int .i64 0) (.int .i64 0) (.slice a4 mm G4)
            have i0 := B5.cell 0
            have i1 := B5.cell 1
            have i2 := B5.cell 2
            have i3 := B5.cell 3
            have le3 : w.heap.size ≤ w3.heap.size := bel3.size
            exact bodyPost_ret (v := .tuple #[.agg #[.int .i64 1, .int .i64 0, .int .i64 0, .slice a4 mm G4], .bool true]) (by simp [results, Tryd.results26, go_sem, i0, i1, i2, i3]) rfl ⟨.inl ⟨⟨1, 0, 0, chunkL vs⟩, a4, G4, hTR.out, by rw [hcl], by rw [hcl]; exact owndown o5 le3⟩, bel5⟩
          · rw [if_neg (fun h => m3 (by have := h.2; omega)), if_neg (fun h => by rw [kB] at h; exact absurd h.1 (by decide)), if_neg (fun h => by rw [kB] at h; exact absurd h.1 (by decide)), if_neg (fun h => by rw [kB] at h; exact absurd h.1 (by decide))] at hTR
            exact absurd rfl m3
        · rw [if_neg (fun h => kB h.1)] at hTR
          by_cases kS : bytes x = wSeal
          · by_cases hc2 : 0 = 2
            · rw [if_pos ⟨kS, by omega⟩] at hTR
              cases hc2
            · rw [if_neg (fun h => hc2 (by have := h.2; omega)), if_neg (fun h => by rw [kS] at h; exact absurd h.1 (by decide)), if_neg (fun h => by rw [kS] at h; exact absurd h.1 (by decide))] at hTR
              have bB : (x.toList == [98, 97, 116, 99, 104]) = false := by rw [toList_bytes, kS]; rfl
              have bS : (x.toList == [115, 101, 97, 108]) = true := by rw [toList_bytes, kS]; rfl
              have bM : (x.toList == [109, 101, 114, 103, 101]) = false := by rw [toList_bytes, kS]; rfl
              have bD : (x.toList == [100, 114, 111, 112]) = false := by rw [toList_bytes, kS]; rfl
              replace hTR := hide hTR
              clear hvl hT
              go_wp2_with fail
              have B4 := put4r B3 (.int .i64 0) (.int .i64 0) (.int .i64 0) (.slice none 0 0)
              have bel4 := below4r bel3 (Nat.le_refl _) (.int .i64 0) (.int .i64 0) (.int .i64 0) (.slice none 0 0)
              have i0 := B4.cell 0
              have i1 := B4.cell 1
              have i2 := B4.cell 2
              have i3 := B4.cell 3
              exact bodyPost_ret (v := .tuple #[.agg #[.int .i64 0, .int .i64 0, .int .i64 0, .slice none 0 0], .bool false]) (by simp [results, Tryd.results26, go_sem, i0, i1, i2, i3]) rfl ⟨.inr ⟨hTR.out, rfl⟩, bel4⟩
          · rw [if_neg (fun h => kS h.1)] at hTR
            by_cases kM : bytes x = wMerge
            · by_cases hc2 : 0 = 2
              · rw [if_pos ⟨kM, by omega⟩] at hTR
                cases hc2
              · rw [if_neg (fun h => hc2 (by have := h.2; omega)), if_neg (fun h => by rw [kM] at h; exact absurd h.1 (by decide))] at hTR
                have bB : (x.toList == [98, 97, 116, 99, 104]) = false := by rw [toList_bytes, kM]; rfl
                have bS : (x.toList == [115, 101, 97, 108]) = false := by rw [toList_bytes, kM]; rfl
                have bM : (x.toList == [109, 101, 114, 103, 101]) = true := by rw [toList_bytes, kM]; rfl
                have bD : (x.toList == [100, 114, 111, 112]) = false := by rw [toList_bytes, kM]; rfl
                replace hTR := hide hTR
                clear hvl hT
                go_wp2_with fail
                have B4 := put4r B3 (.int .i64 0) (.int .i64 0) (.int .i64 0) (.slice none 0 0)
                have bel4 := below4r bel3 (Nat.le_refl _) (.int .i64 0) (.int .i64 0) (.int .i64 0) (.slice none 0 0)
                have i0 := B4.cell 0
                have i1 := B4.cell 1
                have i2 := B4.cell 2
                have i3 := B4.cell 3
                exact bodyPost_ret (v := .tuple #[.agg #[.int .i64 0, .int .i64 0, .int .i64 0, .slice none 0 0], .bool false]) (by simp [results, Tryd.results26, go_sem, i0, i1, i2, i3]) rfl ⟨.inr ⟨hTR.out, rfl⟩, bel4⟩
            · rw [if_neg (fun h => kM h.1)] at hTR
              by_cases kD : bytes x = wDrop
              · by_cases hc1 : 0 = 1
                · rw [if_pos ⟨kD, by omega⟩] at hTR
                  cases hc1
                · rw [if_neg (fun h => hc1 (by have := h.2; omega))] at hTR
                  have bB : (x.toList == [98, 97, 116, 99, 104]) = false := by rw [toList_bytes, kD]; rfl
                  have bS : (x.toList == [115, 101, 97, 108]) = false := by rw [toList_bytes, kD]; rfl
                  have bM : (x.toList == [109, 101, 114, 103, 101]) = false := by rw [toList_bytes, kD]; rfl
                  have bD : (x.toList == [100, 114, 111, 112]) = true := by rw [toList_bytes, kD]; rfl
                  replace hTR := hide hTR
                  clear hvl hT
                  go_wp2_with fail
                  have B4 := put4r B3 (.int .i64 0) (.int .i64 0) (.int .i64 0) (.slice none 0 0)
                  have bel4 := below4r bel3 (Nat.le_refl _) (.int .i64 0) (.int .i64 0) (.int .i64 0) (.slice none 0 0)
                  have i0 := B4.cell 0
                  have i1 := B4.cell 1
                  have i2 := B4.cell 2
                  have i3 := B4.cell 3
                  exact bodyPost_ret (v := .tuple #[.agg #[.int .i64 0, .int .i64 0, .int .i64 0, .slice none 0 0], .bool false]) (by simp [results, Tryd.results26, go_sem, i0, i1, i2, i3]) rfl ⟨.inr ⟨hTR.out, rfl⟩, bel4⟩
              · rw [if_neg (fun h => kD h.1)] at hTR
                have bB : (x.toList == [98, 97, 116, 99, 104]) = false := by rw [toList_bytes]; exact beq_eq_false_iff_ne.2 kB
                have bS : (x.toList == [115, 101, 97, 108]) = false := by rw [toList_bytes]; exact beq_eq_false_iff_ne.2 kS
                have bM : (x.toList == [109, 101, 114, 103, 101]) = false := by rw [toList_bytes]; exact beq_eq_false_iff_ne.2 kM
                have bD : (x.toList == [100, 114, 111, 112]) = false := by rw [toList_bytes]; exact beq_eq_false_iff_ne.2 kD
                replace hTR := hide hTR
                clear hvl hT
                go_wp2_with fail
                have B4 := put4r B3 (.int .i64 0) (.int .i64 0) (.int .i64 0) (.slice none 0 0)
                have bel4 := below4r bel3 (Nat.le_refl _) (.int .i64 0) (.int .i64 0) (.int .i64 0) (.slice none 0 0)
                have i0 := B4.cell 0
                have i1 := B4.cell 1
                have i2 := B4.cell 2
                have i3 := B4.cell 3
                exact bodyPost_ret (v := .tuple #[.agg #[.int .i64 0, .int .i64 0, .int .i64 0, .slice none 0 0], .bool false]) (by simp [results, Tryd.results26, go_sem, i0, i1, i2, i3]) rfl ⟨.inr ⟨hTR.out, rfl⟩, bel4⟩
      · have B3 := B2.keep b3 B2.lt
        have r0 := B3.cell 0
        have r1 := B3.cell 1
        have r2 := B3.cell 2
        have r3 := B3.cell 3
        have f0 := B3.free 0
        have f1 := B3.free 1
        have f2 := B3.free 2
        have f3 := B3.free 3
        have lR3 := B3.lt
        have bel3 := belowCall bel2 b3
        have hTR : TR = none := by
          rw [hT.out]
          simp only [readR, List.map_cons, hvs, Option.bind_none]
        replace hTR := hide hTR
        go_wp2_with fail
        have B4 := put4r B3 (.int .i64 0) (.int .i64 0) (.int .i64 0) (.slice none 0 0)
        have bel4 := below4r bel3 (Nat.le_refl _) (.int .i64 0) (.int .i64 0) (.int .i64 0) (.slice none 0 0)
        have i0 := B4.cell 0
        have i1 := B4.cell 1
        have i2 := B4.cell 2
        have i3 := B4.cell 3
        exact bodyPost_ret (v := .tuple #[.agg #[.int .i64 0, .int .i64 0, .int .i64 0, .slice none 0 0], .bool false]) (by simp [results, Tryd.results26, go_sem, i0, i1, i2, i3]) rfl ⟨.inr ⟨hTR.out, rfl⟩, bel4⟩
    · have hr1 : (1 : Int) ≤ (c : Int) + 1 := by omega
      have hr2 : ¬ c + 1 = 1 := by omega
      have hr3 : ¬ c = 0 := hr
      go_wp2_with fail
      go_at_call 49
      refine (cN (some ⟨w1.heap.size, 1, none⟩) c (strs_tail S1)).mono ?_
      rintro e w3 ⟨(⟨vs, a3, G3, hvs, rfl, o3⟩ | ⟨hvs, rfl⟩), b3⟩
      · have B3 := B2.keep b3 B2.lt
        have r0 := B3.cell 0
        have r1 := B3.cell 1
        have r2 := B3.cell 2
        have r3 := B3.cell 3
        have f0 := B3.free 0
        have f1 := B3.free 1
        have f2 := B3.free 2
        have f3 := B3.free 3
        have lR3 := B3.lt
        have x3 := (b3.cell (p := ⟨w1.heap.size, 0, none⟩) l1).trans x0
        have lx3 : w1.heap.size < w3.heap.size := Nat.lt_of_lt_of_le l1 b3.size
        have bel3 := belowCall bel2 b3
        have hvl : vs.length = c := by rw [readNums_length _ _ hvs, List.length_map]; exact hc.out.symm
        have hTR : TR = (if bytes x = wBatch ∧ vs.length % 3 = 0 then some ⟨1, 0, 0, chunkL vs⟩ else if bytes x = wSeal ∧ vs.length = 2 then some ⟨2, vs.getD 0 0, vs.getD 1 0, []⟩ else if bytes x = wMerge ∧ vs.length = 2 then some ⟨3, vs.getD 0 0, vs.getD 1 0, []⟩ else if bytes x = wDrop ∧ vs.length = 1 then some ⟨4, 0, vs.getD 0 0, []⟩ else none) := by
          rw [hT.out]
          simp only [readR, List.map_cons, hvs, Option.bind_some]
        replace hvs := hide hvs
        have SV := ints_own o3
        by_cases kB : bytes x = wBatch
        · by_cases m3 : c % 3 = 0
          · rw [if_pos ⟨kB, by omega⟩] at hTR
            have bB : (x.toList == [98, 97, 116, 99, 104]) = true := by rw [toList_bytes, kB]; rfl
            have bS : (x.toList == [115, 101, 97, 108]) = false := by rw [toList_bytes, kB]; rfl
            have bM : (x.toList == [109, 101, 114, 103, 101]) = false := by rw [toList_bytes, kB]; rfl
            have bD : (x.toList == [100, 114, 111, 112]) = false := by rw [toList_bytes, kB]; rfl
            replace hTR := hide hTR
            obtain ⟨mm, hmm⟩ : ∃ mm, c = mm * 3 := ⟨c / 3, by omega⟩
            have cE := fun W (h : Sl W a3 G3 (vs.map (Value.int .i64))) => entries_any vs mm c G3 a3 W h hvl.symm hmm (by omega)
            have hcl : (chunkL vs).length = mm := chunk_length mm vs (by omega)
            replace hmm := hide hmm
            clear hvl hT
            have t3 : (c : Int).tmod 3 = 0 := by rw [Int.tmod_eq_emod_of_nonneg (by omega)]; omega
            go_wp2_with fail
            go_at_call 50
            refine (cE _ SV).mono ?_
            rintro e w4 ⟨v4, rfl, o4, b4⟩
            obtain ⟨a4, G4, rfl, -, -, -⟩ := SlW.ofOwn ec_three (by decide) o4
            have B4 := B3.keep b4 B3.lt
            have s0 := B4.cell 0
            have s1 := B4.cell 1
            have s2 := B4.cell 2
            have s3 := B4.cell 3
            have u0 := B4.free 0
            have u1 := B4.free 1
            have u2 := B4.free 2
            have u3 := B4.free 3
            have lR4 := B4.lt
            have bel4' := belowCall bel3 b4
            go_wp2_with fail
            have B5 := put4r B4 (.int .i64 1) (.int .i64 0) (.int .i64 0) (.slice a4 mm G4)
            have bel5 := below4r bel4' (Nat.le_refl _) (.int .i64 1) (.int .i64 0) (.int .i64 0) (.slice a4 mm G4)
            have o5 := own4r o4 B4 (by decide) (.int .i64 1) (.int .i64 0) (.int .i64 0) (.slice a4 mm G4)
            have i0 := B5.cell 0
            have i1 := B5.cell 1
            have i2 := B5.cell 2
            have i3 := B5.cell 3
            have le3 : w.heap.size ≤ w3.heap.size := bel3.size
            exact bodyPost_ret (v := .tuple #[.agg #[.int .i64 1, .int .i64 0, .int .i64 0, .slice a4 mm G4], .bool true]) (by simp [results, Tryd.results26, go_sem, i0, i1, i2, i3]) rfl ⟨.inl ⟨⟨1, 0, 0, chunkL vs⟩, a4, G4, hTR.out, by rw [hcl], by rw [hcl]; exact owndown o5 le3⟩, bel5⟩
          · rw [if_neg (fun h => m3 (by have := h.2; omega)), if_neg (fun h => by rw [kB] at h; exact absurd h.1 (by decide)), if_neg (fun h => by rw [kB] at h; exact absurd h.1 (by decide)), if_neg (fun h => by rw [kB] at h; exact absurd h.1 (by decide))] at hTR
            have bB : (x.toList == [98, 97, 116, 99, 104]) = true := by rw [toList_bytes, kB]; rfl
            have bS : (x.toList == [115, 101, 97, 108]) = false := by rw [toList_bytes, kB]; rfl
            have bM : (x.toList == [109, 101, 114, 103, 101]) = false := by rw [toList_bytes, kB]; rfl
            have bD : (x.toList == [100, 114, 111, 112]) = false := by rw [toList_bytes, kB]; rfl
            replace hTR := hide hTR
            clear hvl hT
            obtain ⟨r3, hr3⟩ : ∃ r3, r3 = (c : Int) % 3 := ⟨_, rfl⟩
            have d3 : decide (r3 = 0) = false := decide_eq_false (by omega)
            have n3 : ¬ r3 = 0 := by omega
            have t3 : (c : Int).tmod 3 = r3 := by rw [Int.tmod_eq_emod_of_nonneg (by omega)]; exact hr3.symm
            clear hr3
            go_wp2_with fail
            have B4 := put4r B3 (.int .i64 0) (.int .i64 0) (.int .i64 0) (.slice none 0 0)
            have bel4 := below4r bel3 (Nat.le_refl _) (.int .i64 0) (.int .i64 0) (.int .i64 0) (.slice none 0 0)
            have i0 := B4.cell 0
            have i1 := B4.cell 1
            have i2 := B4.cell 2
            have i3 := B4.cell 3
            exact bodyPost_ret (v := .tuple #[.agg #[.int .i64 0, .int .i64 0, .int .i64 0, .slice none 0 0], .bool false]) (by simp [results, Tryd.results26, go_sem, i0, i1, i2, i3]) rfl ⟨.inr ⟨hTR.out, rfl⟩, bel4⟩
        · rw [if_neg (fun h => kB h.1)] at hTR
          by_cases kS : bytes x = wSeal
          · by_cases hc2 : c = 2
            · rw [if_pos ⟨kS, by omega⟩] at hTR
              have bB : (x.toList == [98, 97, 116, 99, 104]) = false := by rw [toList_bytes, kS]; rfl
              have bS : (x.toList == [115, 101, 97, 108]) = true := by rw [toList_bytes, kS]; rfl
              have bM : (x.toList == [109, 101, 114, 103, 101]) = false := by rw [toList_bytes, kS]; rfl
              have bD : (x.toList == [100, 114, 111, 112]) = false := by rw [toList_bytes, kS]; rfl
              replace hTR := hide hTR
              obtain ⟨v0, v1, rfl⟩ : ∃ v0 v1, vs = [v0, v1] := by
                match vs, hvl.trans hc2 with
                | [v0, v1], _ => exact ⟨v0, v1, rfl⟩
              subst hc2
              obtain ⟨gv, ov, rfl, hgv, hcv⟩ := SV.row.at (by simp)
              have y0 : w3.cell? ⟨gv, ov, none⟩ = some (.int .i64 v0) := hcv 0 _ rfl
              have y1 : w3.cell? ⟨gv, ov + 1, none⟩ = some (.int .i64 v1) := hcv 1 _ rfl
              have hne : ¬ gv = w.heap.size := by
                rcases o3.2 with ⟨h, _⟩ | ⟨g, cp, cur, h, hb, _⟩
                · cases h
                · simp only [Value.slice.injEq, Option.some.injEq, Addr.mk.injEq] at h
                  obtain ⟨⟨rfl, -, -⟩, -⟩ := h
                  omega
              have hne' : ¬ w.heap.size = gv := fun h => hne h.symm
              clear hvl hT hcv
              go_wp2_with fail
              go_region_held3 (fun w' => w'.cell? ⟨gv, ov, none⟩ = some (.int .i64 v0) ∧ w'.cell? ⟨gv, ov + 1, none⟩ = some (.int .i64 v1)) (go_keep) (fail)
              all_goals go_wp2_with fail
              all_goals (
                have B4 : Blk (World.drew ((((w3.setCell ⟨w.heap.size, 0, none⟩ (.int .i64 2)).setCell ⟨w.heap.size, 1, none⟩ (.int .i64 v0)).setCell ⟨w.heap.size, 2, none⟩ (.int .i64 v1)).setCell ⟨w.heap.size, 3, none⟩ (.slice none 0 0))) w.heap.size [.int .i64 2, .int .i64 v0, .int .i64 v1, .slice none 0 0] 24 := put4r B3 (.int .i64 2) (.int .i64 v0) (.int .i64 v1) (.slice none 0 0)
                have bel4 := belowDrew (below4r bel3 (Nat.le_refl _) (.int .i64 2) (.int .i64 v0) (.int .i64 v1) (.slice none 0 0))
                generalize World.drew _ = w5 at *
                have i0 : w5.cell? ⟨w.heap.size, 0, none⟩ = some (.int .i64 2) := B4.cell 0
                have i1 : w5.cell? ⟨w.heap.size, 1, none⟩ = some (.int .i64 v0) := B4.cell 1
                have i2 : w5.cell? ⟨w.heap.size, 2, none⟩ = some (.int .i64 v1) := B4.cell 2
                have i3 : w5.cell? ⟨w.heap.size, 3, none⟩ = some (.slice none 0 0) := B4.cell 3
                exact bodyPost_ret (v := .tuple #[.agg #[.int .i64 2, .int .i64 v0, .int .i64 v1, .slice none 0 0], .bool true]) (by simp [results, Tryd.results26, go_sem, i0, i1, i2, i3]) rfl ⟨.inl ⟨⟨2, v0, v1, []⟩, none, 0, hTR.out, rfl, World.ownsRow_nil _ _ _ _⟩, bel4⟩)
            · rw [if_neg (fun h => hc2 (by have := h.2; omega)), if_neg (fun h => by rw [kS] at h; exact absurd h.1 (by decide)), if_neg (fun h => by rw [kS] at h; exact absurd h.1 (by decide))] at hTR
              have bB : (x.toList == [98, 97, 116, 99, 104]) = false := by rw [toList_bytes, kS]; rfl
              have bS : (x.toList == [115, 101, 97, 108]) = true := by rw [toList_bytes, kS]; rfl
              have bM : (x.toList == [109, 101, 114, 103, 101]) = false := by rw [toList_bytes, kS]; rfl
              have bD : (x.toList == [100, 114, 111, 112]) = false := by rw [toList_bytes, kS]; rfl
              replace hTR := hide hTR
              clear hvl hT
              have d2 : ¬ (c : Int) = 2 := by omega
              go_wp2_with fail
              have B4 := put4r B3 (.int .i64 0) (.int .i64 0) (.int .i64 0) (.slice none 0 0)
              have bel4 := below4r bel3 (Nat.le_refl _) (.int .i64 0) (.int .i64 0) (.int .i64 0) (.slice none 0 0)
              have i0 := B4.cell 0
              have i1 := B4.cell 1
              have i2 := B4.cell 2
              have i3 := B4.cell 3
              exact bodyPost_ret (v := .tuple #[.agg #[.int .i64 0, .int .i64 0, .int .i64 0, .slice none 0 0], .bool false]) (by simp [results, Tryd.results26, go_sem, i0, i1, i2, i3]) rfl ⟨.inr ⟨hTR.out, rfl⟩, bel4⟩
          · rw [if_neg (fun h => kS h.1)] at hTR
            by_cases kM : bytes x = wMerge
            · by_cases hc2 : c = 2
              · rw [if_pos ⟨kM, by omega⟩] at hTR
                have bB : (x.toList == [98, 97, 116, 99, 104]) = false := by rw [toList_bytes, kM]; rfl
                have bS : (x.toList == [115, 101, 97, 108]) = false := by rw [toList_bytes, kM]; rfl
                have bM : (x.toList == [109, 101, 114, 103, 101]) = true := by rw [toList_bytes, kM]; rfl
                have bD : (x.toList == [100, 114, 111, 112]) = false := by rw [toList_bytes, kM]; rfl
                replace hTR := hide hTR
                obtain ⟨v0, v1, rfl⟩ : ∃ v0 v1, vs = [v0, v1] := by
                  match vs, hvl.trans hc2 with
                  | [v0, v1], _ => exact ⟨v0, v1, rfl⟩
                subst hc2
                obtain ⟨gv, ov, rfl, hgv, hcv⟩ := SV.row.at (by simp)
                have y0 : w3.cell? ⟨gv, ov, none⟩ = some (.int .i64 v0) := hcv 0 _ rfl
                have y1 : w3.cell? ⟨gv, ov + 1, none⟩ = some (.int .i64 v1) := hcv 1 _ rfl
                have hne : ¬ gv = w.heap.size := by
                  rcases o3.2 with ⟨h, _⟩ | ⟨g, cp, cur, h, hb, _⟩
                  · cases h
                  · simp only [Value.slice.injEq, Option.some.injEq, Addr.mk.injEq] at h
                    obtain ⟨⟨rfl, -, -⟩, -⟩ := h
                    omega
                have hne' : ¬ w.heap.size = gv := fun h => hne h.symm
                clear hvl hT hcv
                go_wp2_with fail
                go_region_held3 (fun w' => w'.cell? ⟨gv, ov, none⟩ = some (.int .i64 v0) ∧ w'.cell? ⟨gv, ov + 1, none⟩ = some (.int .i64 v1)) (go_keep) (fail)
                all_goals go_wp2_with fail
                all_goals (
                  have B4 : Blk (World.drew ((((w3.setCell ⟨w.heap.size, 0, none⟩ (.int .i64 3)).setCell ⟨w.heap.size, 1, none⟩ (.int .i64 v0)).setCell ⟨w.heap.size, 2, none⟩ (.int .i64 v1)).setCell ⟨w.heap.size, 3, none⟩ (.slice none 0 0))) w.heap.size [.int .i64 3, .int .i64 v0, .int .i64 v1, .slice none 0 0] 24 := put4r B3 (.int .i64 3) (.int .i64 v0) (.int .i64 v1) (.slice none 0 0)
                  have bel4 := belowDrew (below4r bel3 (Nat.le_refl _) (.int .i64 3) (.int .i64 v0) (.int .i64 v1) (.slice none 0 0))
                  generalize World.drew _ = w5 at *
                  have i0 : w5.cell? ⟨w.heap.size, 0, none⟩ = some (.int .i64 3) := B4.cell 0
                  have i1 : w5.cell? ⟨w.heap.size, 1, none⟩ = some (.int .i64 v0) := B4.cell 1
                  have i2 : w5.cell? ⟨w.heap.size, 2, none⟩ = some (.int .i64 v1) := B4.cell 2
                  have i3 : w5.cell? ⟨w.heap.size, 3, none⟩ = some (.slice none 0 0) := B4.cell 3
                  exact bodyPost_ret (v := .tuple #[.agg #[.int .i64 3, .int .i64 v0, .int .i64 v1, .slice none 0 0], .bool true]) (by simp [results, Tryd.results26, go_sem, i0, i1, i2, i3]) rfl ⟨.inl ⟨⟨3, v0, v1, []⟩, none, 0, hTR.out, rfl, World.ownsRow_nil _ _ _ _⟩, bel4⟩)
              · rw [if_neg (fun h => hc2 (by have := h.2; omega)), if_neg (fun h => by rw [kM] at h; exact absurd h.1 (by decide))] at hTR
                have bB : (x.toList == [98, 97, 116, 99, 104]) = false := by rw [toList_bytes, kM]; rfl
                have bS : (x.toList == [115, 101, 97, 108]) = false := by rw [toList_bytes, kM]; rfl
                have bM : (x.toList == [109, 101, 114, 103, 101]) = true := by rw [toList_bytes, kM]; rfl
                have bD : (x.toList == [100, 114, 111, 112]) = false := by rw [toList_bytes, kM]; rfl
                replace hTR := hide hTR
                clear hvl hT
                have d2 : ¬ (c : Int) = 2 := by omega
                go_wp2_with fail
                have B4 := put4r B3 (.int .i64 0) (.int .i64 0) (.int .i64 0) (.slice none 0 0)
                have bel4 := below4r bel3 (Nat.le_refl _) (.int .i64 0) (.int .i64 0) (.int .i64 0) (.slice none 0 0)
                have i0 := B4.cell 0
                have i1 := B4.cell 1
                have i2 := B4.cell 2
                have i3 := B4.cell 3
                exact bodyPost_ret (v := .tuple #[.agg #[.int .i64 0, .int .i64 0, .int .i64 0, .slice none 0 0], .bool false]) (by simp [results, Tryd.results26, go_sem, i0, i1, i2, i3]) rfl ⟨.inr ⟨hTR.out, rfl⟩, bel4⟩
            · rw [if_neg (fun h => kM h.1)] at hTR
              by_cases kD : bytes x = wDrop
              · by_cases hc1 : c = 1
                · rw [if_pos ⟨kD, by omega⟩] at hTR
                  have bB : (x.toList == [98, 97, 116, 99, 104]) = false := by rw [toList_bytes, kD]; rfl
                  have bS : (x.toList == [115, 101, 97, 108]) = false := by rw [toList_bytes, kD]; rfl
                  have bM : (x.toList == [109, 101, 114, 103, 101]) = false := by rw [toList_bytes, kD]; rfl
                  have bD : (x.toList == [100, 114, 111, 112]) = true := by rw [toList_bytes, kD]; rfl
                  replace hTR := hide hTR
                  obtain ⟨v0, rfl⟩ : ∃ v0, vs = [v0] := by
                    match vs, hvl.trans hc1 with
                    | [v0], _ => exact ⟨v0, rfl⟩
                  subst hc1
                  obtain ⟨gv, ov, rfl, hgv, hcv⟩ := SV.row.at (by simp)
                  have y0 : w3.cell? ⟨gv, ov, none⟩ = some (.int .i64 v0) := hcv 0 _ rfl
                  have hne : ¬ gv = w.heap.size := by
                    rcases o3.2 with ⟨h, _⟩ | ⟨g, cp, cur, h, hb, _⟩
                    · cases h
                    · simp only [Value.slice.injEq, Option.some.injEq, Addr.mk.injEq] at h
                      obtain ⟨⟨rfl, -, -⟩, -⟩ := h
                      omega
                  have hne' : ¬ w.heap.size = gv := fun h => hne h.symm
                  clear hvl hT hcv
                  go_wp2_with fail
                  have B4 := put4r B3 (.int .i64 4) (.int .i64 0) (.int .i64 v0) (.slice none 0 0)
                  have bel4 := below4r bel3 (Nat.le_refl _) (.int .i64 4) (.int .i64 0) (.int .i64 v0) (.slice none 0 0)
                  have i0 := B4.cell 0
                  have i1 := B4.cell 1
                  have i2 := B4.cell 2
                  have i3 := B4.cell 3
                  exact bodyPost_ret (v := .tuple #[.agg #[.int .i64 4, .int .i64 0, .int .i64 v0, .slice none 0 0], .bool true]) (by simp [results, Tryd.results26, go_sem, i0, i1, i2, i3]) rfl ⟨.inl ⟨⟨4, 0, v0, []⟩, none, 0, hTR.out, rfl, World.ownsRow_nil _ _ _ _⟩, bel4⟩
                · rw [if_neg (fun h => hc1 (by have := h.2; omega))] at hTR
                  have bB : (x.toList == [98, 97, 116, 99, 104]) = false := by rw [toList_bytes, kD]; rfl
                  have bS : (x.toList == [115, 101, 97, 108]) = false := by rw [toList_bytes, kD]; rfl
                  have bM : (x.toList == [109, 101, 114, 103, 101]) = false := by rw [toList_bytes, kD]; rfl
                  have bD : (x.toList == [100, 114, 111, 112]) = true := by rw [toList_bytes, kD]; rfl
                  replace hTR := hide hTR
                  clear hvl hT
                  have d1 : ¬ (c : Int) = 1 := by omega
                  go_wp2_with fail
                  have B4 := put4r B3 (.int .i64 0) (.int .i64 0) (.int .i64 0) (.slice none 0 0)
                  have bel4 := below4r bel3 (Nat.le_refl _) (.int .i64 0) (.int .i64 0) (.int .i64 0) (.slice none 0 0)
                  have i0 := B4.cell 0
                  have i1 := B4.cell 1
                  have i2 := B4.cell 2
                  have i3 := B4.cell 3
                  exact bodyPost_ret (v := .tuple #[.agg #[.int .i64 0, .int .i64 0, .int .i64 0, .slice none 0 0], .bool false]) (by simp [results, Tryd.results26, go_sem, i0, i1, i2, i3]) rfl ⟨.inr ⟨hTR.out, rfl⟩, bel4⟩
              · rw [if_neg (fun h => kD h.1)] at hTR
                have bB : (x.toList == [98, 97, 116, 99, 104]) = false := by rw [toList_bytes]; exact beq_eq_false_iff_ne.2 kB
                have bS : (x.toList == [115, 101, 97, 108]) = false := by rw [toList_bytes]; exact beq_eq_false_iff_ne.2 kS
                have bM : (x.toList == [109, 101, 114, 103, 101]) = false := by rw [toList_bytes]; exact beq_eq_false_iff_ne.2 kM
                have bD : (x.toList == [100, 114, 111, 112]) = false := by rw [toList_bytes]; exact beq_eq_false_iff_ne.2 kD
                replace hTR := hide hTR
                clear hvl hT
                go_wp2_with fail
                have B4 := put4r B3 (.int .i64 0) (.int .i64 0) (.int .i64 0) (.slice none 0 0)
                have bel4 := below4r bel3 (Nat.le_refl _) (.int .i64 0) (.int .i64 0) (.int .i64 0) (.slice none 0 0)
                have i0 := B4.cell 0
                have i1 := B4.cell 1
                have i2 := B4.cell 2
                have i3 := B4.cell 3
                exact bodyPost_ret (v := .tuple #[.agg #[.int .i64 0, .int .i64 0, .int .i64 0, .slice none 0 0], .bool false]) (by simp [results, Tryd.results26, go_sem, i0, i1, i2, i3]) rfl ⟨.inr ⟨hTR.out, rfl⟩, bel4⟩
      · have B3 := B2.keep b3 B2.lt
        have r0 := B3.cell 0
        have r1 := B3.cell 1
        have r2 := B3.cell 2
        have r3 := B3.cell 3
        have f0 := B3.free 0
        have f1 := B3.free 1
        have f2 := B3.free 2
        have f3 := B3.free 3
        have lR3 := B3.lt
        have bel3 := belowCall bel2 b3
        have hTR : TR = none := by
          rw [hT.out]
          simp only [readR, List.map_cons, hvs, Option.bind_none]
        replace hTR := hide hTR
        go_wp2_with fail
        have B4 := put4r B3 (.int .i64 0) (.int .i64 0) (.int .i64 0) (.slice none 0 0)
        have bel4 := below4r bel3 (Nat.le_refl _) (.int .i64 0) (.int .i64 0) (.int .i64 0) (.slice none 0 0)
        have i0 := B4.cell 0
        have i1 := B4.cell 1
        have i2 := B4.cell 2
        have i3 := B4.cell 3
        exact bodyPost_ret (v := .tuple #[.agg #[.int .i64 0, .int .i64 0, .int .i64 0, .slice none 0 0], .bool false]) (by simp [results, Tryd.results26, go_sem, i0, i1, i2, i3]) rfl ⟨.inr ⟨hTR.out, rfl⟩, bel4⟩

end Go.Proofs.YtabeihkfjlmepaaDoor

/-
  note.Parse: the record of a text, or what is wrong with it.
-/
namespace Go.Proofs.YtabeihkfjlmepaaDoor
open Go.RowKit

/-- What Parse tells of a text: what is wrong, and the record. -/
def parseE (s : ByteArray) : Int := if 60000 < s.size then 2 else match textR s with
  | none => 1
  | some r => recE r

def rec0 : Rc := ⟨0, 0, 0, []⟩

def parseR (s : ByteArray) : Rc := if 60000 < s.size then rec0 else match textR s with
  | none => rec0
  | some r => if recE r = 0 then r else rec0

set_option maxHeartbeats 1000000 in
set_option maxRecDepth 100000 in
theorem parse_is (s : ByteArray) (w : World) (hg : Gl w) (hs : s.size ≤ 9223372036854775807) :
    Calls Tryd.prog 7 #[.string s] w fun e w' => ∃ a' G, e = .returned (.tuple #[.agg #[.int .i64 (parseR s).k, .int .i64 (parseR s).s, .int .i64 (parseR s).n, .slice a' (parseR s).e.length G], .int .i64 (parseE s)]) ∧ w'.ownsRow w.heap.size 59 3 (.slice a' (parseR s).e.length G) (parseR s).e.length ((parseR s).e.flatMap ec) ∧ Below w.heap.size w w' := by
  have BX := Blk.laid w [.int .i64 0, .int .i64 0, .int .i64 0, .slice none 0 0] 24 _ rfl
  have belX : Below w.heap.size w (w.alloc (.cells #[.int .i64 0, .int .i64 0, .int .i64 0, .slice none 0 0] 24)) := (Below.refl _ _).alloc (Nat.le_refl _) _
  have g1 := hg.alloc (.cells #[.int .i64 0, .int .i64 0, .int .i64 0, .slice none 0 0] 24)
  by_cases hb : 60000 < s.size
  · rw [show parseR s = rec0 from if_pos hb, show parseE s = 2 from if_pos hb]
    have hb' : (60000 : Int) < s.size := by omega
    show Calls Tryd.prog 7 #[.string s] w fun e w' => ∃ a' G, e = .returned (.tuple #[.agg #[.int .i64 0, .int .i64 0, .int .i64 0, .slice a' 0 G], .int .i64 2]) ∧ w'.ownsRow w.heap.size 59 3 (.slice a' 0 G) 0 [] ∧ Below w.heap.size w w'
    go_enter Tryd.func7, Tryd.ntmps7
    go_wp2_with fail
    generalize w.alloc _ = w1 at *
    have r0 := BX.cell 0
    have r1 := BX.cell 1
    have r2 := BX.cell 2
    have r3 := BX.cell 3
    have f0 := BX.free 0
    have f1 := BX.free 1
    have f2 := BX.free 2
    have f3 := BX.free 3
    have lX := BX.lt
    go_wp2_with fail
    have i0 : w1.cell? ⟨w.heap.size, 0, none⟩ = some (.int .i64 0) := r0
    have i1 : w1.cell? ⟨w.heap.size, 1, none⟩ = some (.int .i64 0) := r1
    have i2 : w1.cell? ⟨w.heap.size, 2, none⟩ = some (.int .i64 0) := r2
    have i3 : w1.cell? ⟨w.heap.size, 3, none⟩ = some (.slice none 0 0) := r3
    exact bodyPost_ret (v := .tuple #[.agg #[.int .i64 0, .int .i64 0, .int .i64 0, .slice none 0 0], .int .i64 2]) (by simp [results, Tryd.results7, go_sem, i0, i1, i2, i3]) rfl ⟨none, 0, rfl, World.ownsRow_nil _ _ _ _, belX⟩
  · have hb' : ¬ (60000 : Int) < s.size := by omega
    have cR := fun W h => read_any s W h (by omega)
    have eE : parseE s = match textR s with
      | none => 1
      | some r => recE r := if_neg hb
    have eR : parseR s = match textR s with
      | none => rec0
      | some r => if recE r = 0 then r else rec0 := if_neg hb
    rw [eE, eR]
    clear eE eR
    cases hT : textR s with
    | none =>
      simp only
      show Calls Tryd.prog 7 #[.string s] w fun e w' => ∃ a' G, e = .returned (.tuple #[.agg #[.int .i64 0, .int .i64 0, .int .i64 0, .slice a' 0 G], .int .i64 1]) ∧ w'.ownsRow w.heap.size 59 3 (.slice a' 0 G) 0 [] ∧ Below w.heap.size w w'
      have cR1 : ∀ W, Gl W → Calls Tryd.prog 26 #[.string s] W fun e w' => e = .returned (.tuple #[.agg #[.int .i64 0, .int .i64 0, .int .i64 0, .slice none 0 0], .bool false]) ∧ Below W.heap.size W w' := by
        intro W h
        refine (cR W h).mono ?_
        rintro e w' ⟨(⟨r, a', G, h1, _, _⟩ | ⟨_, h2⟩), b⟩
        · rw [hT] at h1
          cases h1
        · exact ⟨h2, b⟩
      clear cR hT
      go_enter Tryd.func7, Tryd.ntmps7
      go_wp2_with fail
      generalize w.alloc _ = w1 at *
      go_at_call 26
      refine (cR1 _ g1).mono ?_
      rintro e w2 ⟨rfl, b2⟩
      replace BX := BX.keep (newB (belowCall (Below.refl w1.heap.size w1) b2) (.cells #[.int .i64 0, .int .i64 0, .int .i64 0, .slice none 0 0] 24)) BX.lt
      replace belX := newB (belowCall belX b2) (.cells #[.int .i64 0, .int .i64 0, .int .i64 0, .slice none 0 0] 24)
      go_upto_region 4 with fail
      generalize w2.alloc _ = w3 at *
      have r0 := BX.cell 0
      have r1 := BX.cell 1
      have r2 := BX.cell 2
      have r3 := BX.cell 3
      have f0 := BX.free 0
      have f1 := BX.free 1
      have f2 := BX.free 2
      have f3 := BX.free 3
      have lX := BX.lt
      go_wp2_with fail
      have B9 := put4r BX (.int .i64 0) (.int .i64 0) (.int .i64 0) (.slice none 0 0)
      have bel9 := below4r belX (Nat.le_refl _) (.int .i64 0) (.int .i64 0) (.int .i64 0) (.slice none 0 0)
      generalize World.setCell _ _ _ = w9 at *
      have i0 : w9.cell? ⟨w.heap.size, 0, none⟩ = some (.int .i64 0) := B9.cell 0
      have i1 : w9.cell? ⟨w.heap.size, 1, none⟩ = some (.int .i64 0) := B9.cell 1
      have i2 : w9.cell? ⟨w.heap.size, 2, none⟩ = some (.int .i64 0) := B9.cell 2
      have i3 : w9.cell? ⟨w.heap.size, 3, none⟩ = some (.slice none 0 0) := B9.cell 3
      exact bodyPost_ret (v := .tuple #[.agg #[.int .i64 0, .int .i64 0, .int .i64 0, .slice none 0 0], .int .i64 1]) (by simp [results, Tryd.results7, go_sem, i0, i1, i2, i3]) rfl ⟨none, 0, rfl, World.ownsRow_nil _ _ _ _, bel9⟩
    | some r =>
      simp only
      have cR1 : ∀ W, Gl W → Calls Tryd.prog 26 #[.string s] W fun e w' => ∃ a' G, e = .returned (.tuple #[.agg #[.int .i64 r.k, .int .i64 r.s, .int .i64 r.n, .slice a' r.e.length G], .bool true]) ∧ w'.ownsRow W.heap.size 59 3 (.slice a' r.e.length G) r.e.length (r.e.flatMap ec) ∧ Below W.heap.size W w' := by
        intro W h
        refine (cR W h).mono ?_
        rintro e w' ⟨(⟨r', a', G, h1, h2, h3⟩ | ⟨h1, _⟩), b⟩
        · rw [hT] at h1
          obtain rfl := Option.some.inj h1
          exact ⟨a', G, h2, h3, b⟩
        · rw [hT] at h1
          cases h1
      clear cR hT
      obtain ⟨n, hn⟩ : ∃ n, n = r.e.length := ⟨_, rfl⟩
      have cC := fun a' G W h => check_is r a' G n W h hn
      by_cases h0 : recE r = 0
      · rw [if_pos h0, h0]
        simp only [h0] at cC
        rw [← hn] at cR1 ⊢
        obtain ⟨k, sr, m, l⟩ := r
        simp only at *
        replace hn := hide hn
        replace h0 := hide h0
        go_enter Tryd.func7, Tryd.ntmps7
        go_wp2_with fail
        generalize w.alloc _ = w1 at *
        go_at_call 26
        refine (cR1 _ g1).mono ?_
        rintro e w2 ⟨a2, G2, rfl, o2, b2⟩
        have BQ := Blk.laid w2 [.int .i64 k, .int .i64 sr, .int .i64 m, .slice a2 n G2] 24 _ rfl
        have bq := newB (Below.refl w2.heap.size w2) (.cells #[.int .i64 k, .int .i64 sr, .int .i64 m, .slice a2 n G2] 24)
        have lt1 := BX.lt
        have le1 : w.heap.size ≤ w1.heap.size := belX.size
        replace BX := (BX.keep b2 BX.lt).keep bq (BX.keep b2 BX.lt).lt
        replace belX := belowCall (belowCall belX b2) bq
        have o3 := ownCall o2 bq
        have ltX : w.heap.size < w2.heap.size := Nat.lt_of_lt_of_le lt1 b2.size
        go_upto_region 4 with fail
        generalize hgQ : w2.heap.size = gQ at *
        generalize w2.alloc _ = w3 at *
        have q0 : w3.cell? ⟨gQ, 0, none⟩ = some (.int .i64 k) := BQ.cell 0
        have q1 : w3.cell? ⟨gQ, 1, none⟩ = some (.int .i64 sr) := BQ.cell 1
        have q2 : w3.cell? ⟨gQ, 2, none⟩ = some (.int .i64 m) := BQ.cell 2
        have q3 : w3.cell? ⟨gQ, 3, none⟩ = some (.slice a2 n G2) := BQ.cell 3
        have lQ := BQ.lt
        have S3 : SlW ec w3 a2 G2 l := by
          obtain ⟨a4, G4, e4, s4, _, _⟩ := SlW.ofOwn ec_three (by decide) o3
          simp only [Value.slice.injEq, true_and] at e4
          obtain ⟨rfl, rfl⟩ := e4
          exact s4
        go_wp2_with fail
        go_at_call 10
        refine (cC _ _ _ S3).mono ?_
        rintro e w4 ⟨rfl, b4⟩
        have BQ4 := BQ.keep b4 BQ.lt
        have t0 := BQ4.cell 0
        have t1 := BQ4.cell 1
        have t2 := BQ4.cell 2
        have t3 := BQ4.cell 3
        have lQ4 := BQ4.lt
        replace BX := BX.keep b4 BX.lt
        replace belX := belowCall belX b4
        have o4 := ownCall o3 b4
        have ner : ¬ w.heap.size = gQ := by omega
        have ner' : ¬ gQ = w.heap.size := by omega
        have r0 := BX.cell 0
        have r1 := BX.cell 1
        have r2 := BX.cell 2
        have r3 := BX.cell 3
        have f0 := BX.free 0
        have f1 := BX.free 1
        have f2 := BX.free 2
        have f3 := BX.free 3
        have lX := BX.lt
        go_wp2_with fail
        have B9 := put4r BX (.int .i64 k) (.int .i64 sr) (.int .i64 m) (.slice a2 n G2)
        have bel9 := below4r belX (Nat.le_refl _) (.int .i64 k) (.int .i64 sr) (.int .i64 m) (.slice a2 n G2)
        have o9 := owndown (own4r o4 BX (by decide) (.int .i64 k) (.int .i64 sr) (.int .i64 m) (.slice a2 n G2)) le1
        generalize World.setCell _ _ _ = w9 at *
        have i0 : w9.cell? ⟨w.heap.size, 0, none⟩ = some (.int .i64 k) := B9.cell 0
        have i1 : w9.cell? ⟨w.heap.size, 1, none⟩ = some (.int .i64 sr) := B9.cell 1
        have i2 : w9.cell? ⟨w.heap.size, 2, none⟩ = some (.int .i64 m) := B9.cell 2
        have i3 : w9.cell? ⟨w.heap.size, 3, none⟩ = some (.slice a2 n G2) := B9.cell 3
        exact bodyPost_ret (v := .tuple #[.agg #[.int .i64 k, .int .i64 sr, .int .i64 m, .slice a2 n G2], .int .i64 0]) (by simp [results, Tryd.results7, go_sem, i0, i1, i2, i3]) rfl ⟨a2, G2, rfl, o9, bel9⟩
      · rw [if_neg h0]
        obtain ⟨E, hE⟩ : ∃ E, E = recE r := ⟨_, rfl⟩
        rw [← hE] at cC h0 ⊢
        show Calls Tryd.prog 7 #[.string s] w fun e w' => ∃ a' G, e = .returned (.tuple #[.agg #[.int .i64 0, .int .i64 0, .int .i64 0, .slice a' 0 G], .int .i64 E]) ∧ w'.ownsRow w.heap.size 59 3 (.slice a' 0 G) 0 [] ∧ Below w.heap.size w w'
        rw [← hn] at cR1
        obtain ⟨k, sr, m, l⟩ := r
        simp only at *
        replace hn := hide hn
        replace hE := hide hE
        have hd : decide (E = 0) = false := decide_eq_false h0
        go_enter Tryd.func7, Tryd.ntmps7
        go_wp2_with fail
        generalize w.alloc _ = w1 at *
        go_at_call 26
        refine (cR1 _ g1).mono ?_
        rintro e w2 ⟨a2, G2, rfl, o2, b2⟩
        have BQ := Blk.laid w2 [.int .i64 k, .int .i64 sr, .int .i64 m, .slice a2 n G2] 24 _ rfl
        have bq := newB (Below.refl w2.heap.size w2) (.cells #[.int .i64 k, .int .i64 sr, .int .i64 m, .slice a2 n G2] 24)
        have lt1 := BX.lt
        have le1 : w.heap.size ≤ w1.heap.size := belX.size
        replace BX := (BX.keep b2 BX.lt).keep bq (BX.keep b2 BX.lt).lt
        replace belX := belowCall (belowCall belX b2) bq
        have o3 := ownCall o2 bq
        have ltX : w.heap.size < w2.heap.size := Nat.lt_of_lt_of_le lt1 b2.size
        go_upto_region 4 with fail
        generalize hgQ : w2.heap.size = gQ at *
        generalize w2.alloc _ = w3 at *
        have q0 : w3.cell? ⟨gQ, 0, none⟩ = some (.int .i64 k) := BQ.cell 0
        have q1 : w3.cell? ⟨gQ, 1, none⟩ = some (.int .i64 sr) := BQ.cell 1
        have q2 : w3.cell? ⟨gQ, 2, none⟩ = some (.int .i64 m) := BQ.cell 2
        have q3 : w3.cell? ⟨gQ, 3, none⟩ = some (.slice a2 n G2) := BQ.cell 3
        have lQ := BQ.lt
        have S3 : SlW ec w3 a2 G2 l := by
          obtain ⟨a4, G4, e4, s4, _, _⟩ := SlW.ofOwn ec_three (by decide) o3
          simp only [Value.slice.injEq, true_and] at e4
          obtain ⟨rfl, rfl⟩ := e4
          exact s4
        go_wp2_with fail
        go_at_call 10
        refine (cC _ _ _ S3).mono ?_
        rintro e w4 ⟨rfl, b4⟩
        have BQ4 := BQ.keep b4 BQ.lt
        have t0 := BQ4.cell 0
        have t1 := BQ4.cell 1
        have t2 := BQ4.cell 2
        have t3 := BQ4.cell 3
        have lQ4 := BQ4.lt
        replace BX := BX.keep b4 BX.lt
        replace belX := belowCall belX b4
        have o4 := ownCall o3 b4
        have ner : ¬ w.heap.size = gQ := by omega
        have ner' : ¬ gQ = w.heap.size := by omega
        have r0 := BX.cell 0
        have r1 := BX.cell 1
        have r2 := BX.cell 2
        have r3 := BX.cell 3
        have f0 := BX.free 0
        have f1 := BX.free 1
        have f2 := BX.free 2
        have f3 := BX.free 3
        have lX := BX.lt
        go_wp2_with fail
        have B9 := put4r BX (.int .i64 0) (.int .i64 0) (.int .i64 0) (.slice none 0 0)
        have bel9 := below4r belX (Nat.le_refl _) (.int .i64 0) (.int .i64 0) (.int .i64 0) (.slice none 0 0)
        generalize World.setCell _ _ _ = w9 at *
        have i0 : w9.cell? ⟨w.heap.size, 0, none⟩ = some (.int .i64 0) := B9.cell 0
        have i1 : w9.cell? ⟨w.heap.size, 1, none⟩ = some (.int .i64 0) := B9.cell 1
        have i2 : w9.cell? ⟨w.heap.size, 2, none⟩ = some (.int .i64 0) := B9.cell 2
        have i3 : w9.cell? ⟨w.heap.size, 3, none⟩ = some (.slice none 0 0) := B9.cell 3
        exact bodyPost_ret (v := .tuple #[.agg #[.int .i64 0, .int .i64 0, .int .i64 0, .slice none 0 0], .int .i64 E]) (by simp [results, Tryd.results7, go_sem, i0, i1, i2, i3]) rfl ⟨none, 0, rfl, World.ownsRow_nil _ _ _ _, bel9⟩

end Go.Proofs.YtabeihkfjlmepaaDoor

/-
  Lines of a log as plain lists: what package disk reckons. No program is named.
-/
namespace Go.Proofs.YtabeihkfjlmepaaDoor
open Go.Lib (index cut)

theorem index_byte (b : UInt8) : ∀ l : List UInt8, (index l [b] = -1 ∧ ∀ c ∈ l, c ≠ b) ∨ (∃ p q, l = p ++ b :: q ∧ (∀ c ∈ p, c ≠ b) ∧ index l [b] = p.length)
  | [] => .inl ⟨rfl, fun c h => by simp at h⟩
  | c :: r => by
    by_cases hc : c = b
    · subst hc
      exact .inr ⟨[], r, rfl, fun c h => by simp at h, by simp [index]⟩
    · have hp : ([b] : List UInt8).isPrefixOf (c :: r) = false := by simp [List.isPrefixOf, Ne.symm hc]
      rcases index_byte b r with ⟨h1, h2⟩ | ⟨p, q, rfl, h2, h3⟩
      · left
        refine ⟨by rw [index, hp, h1]; rfl, fun x hx => ?_⟩
        rcases List.mem_cons.1 hx with rfl | hx
        · exact hc
        · exact h2 x hx
      · right
        refine ⟨c :: p, q, rfl, fun x hx => ?_, ?_⟩
        · rcases List.mem_cons.1 hx with rfl | hx
          · exact hc
          · exact h2 x hx
        · rw [index, hp, h3]
          have : ((p.length : Int) == -1) = false := by simp
          simp [this]

/-- The first line, as strings.Cut tells it: the line, what is behind it, and whether it has an end. -/
def lfT (l : List UInt8) : List UInt8 := (cut l [10]).1
def lfB (l : List UInt8) : List UInt8 := (cut l [10]).2.1
def lfY (l : List UInt8) : Bool := (cut l [10]).2.2

theorem lf_cases (l : List UInt8) : (lfY l = false ∧ lfT l = l ∧ lfB l = [] ∧ ∀ c ∈ l, c ≠ 10) ∨ (lfY l = true ∧ l = lfT l ++ 10 :: lfB l ∧ ∀ c ∈ lfT l, c ≠ 10) := by
  unfold lfY lfT lfB cut
  rcases index_byte 10 l with ⟨h1, h2⟩ | ⟨p, q, rfl, h2, h3⟩
  · left
    rw [h1, if_neg (by decide)]
    exact ⟨rfl, rfl, rfl, h2⟩
  · right
    rw [h3, if_pos (by omega)]
    have hd : (p ++ 10 :: q).drop (p.length + 1) = q := by
      rw [show p.length + 1 = (p ++ [10]).length by simp, show p ++ 10 :: q = (p ++ [10]) ++ q by simp, List.drop_left]
    simp only [Int.toNat_natCast, List.length_cons, List.length_nil, Nat.zero_add, List.take_left, hd]
    exact ⟨trivial, trivial, h2⟩

theorem lf_of {p q : List UInt8} (h : ∀ c ∈ p, c ≠ 10) : lfY (p ++ 10 :: q) = true ∧ lfT (p ++ 10 :: q) = p ∧ lfB (p ++ 10 :: q) = q := by
  have : index (p ++ 10 :: q) [10] = p.length := by
    induction p with
    | nil => simp [index]
    | cons c r ih =>
      have hc : c ≠ 10 := h c List.mem_cons_self
      have hp : ([10] : List UInt8).isPrefixOf (c :: (r ++ 10 :: q)) = false := by simp [List.isPrefixOf, Ne.symm hc]
      rw [List.cons_append, index, hp, ih (fun x hx => h x (List.mem_cons_of_mem _ hx))]
      have : ((r.length : Int) == -1) = false := by simp
      simp [this]
  unfold lfY lfT lfB cut
  rw [this, if_pos (by omega)]
  have hd : (p ++ 10 :: q).drop (p.length + 1) = q := by
    rw [show p.length + 1 = (p ++ [10]).length by simp, show p ++ 10 :: q = (p ++ [10]) ++ q by simp, List.drop_left]
  simp only [Int.toNat_natCast, List.length_cons, List.length_nil, Nat.zero_add, List.take_left, hd]
  exact ⟨trivial, trivial, trivial⟩

def ofB (l : List UInt8) : ByteArray := ⟨l.toArray⟩

theorem bytes_ofB (l : List UInt8) : bytes (ofB l) = l := by simp [bytes, ofB]

theorem ofB_bytes (b : ByteArray) : ofB (bytes b) = b := by simp [bytes, ofB]

theorem ofB_size (l : List UInt8) : (ofB l).size = l.length := by simp [ofB, ByteArray.size]

theorem bytes_len (b : ByteArray) : (bytes b).length = b.size := Array.length_toList

/-- What is wrong with the first line; its record; what is behind it. -/
def lnE (l : List UInt8) : Int := if lfY l = true then parseE (ofB (lfT l)) else 8
def lnR (l : List UInt8) : Rc := if lfY l = true then parseR (ofB (lfT l)) else rec0
def lnB (l : List UInt8) : List UInt8 := if lfY l = true then lfB l else []

theorem lnE_ok {l : List UInt8} (h : lnE l = 0) : lfY l = true := by
  unfold lnE at h
  split at h
  · assumption
  · cases h

theorem lnB_less {l : List UInt8} (h : lnE l = 0) : (lnB l).length < l.length := by
  have hy := lnE_ok h
  unfold lnB
  rw [if_pos hy]
  rcases lf_cases l with ⟨h1, _⟩ | ⟨_, h2, _⟩
  · rw [hy] at h1; cases h1
  · have := congrArg List.length h2
    simp at this
    omega

theorem lnB_le (l : List UInt8) : (lnB l).length ≤ l.length := by
  unfold lnB
  split
  · rename_i hy
    rcases lf_cases l with ⟨h1, _⟩ | ⟨_, h2, _⟩
    · rw [hy] at h1; cases h1
    · have := congrArg List.length h2
      simp at this
      omega
  · simp

theorem lnE_nil : lnE [] = 8 := by
  have : lfY [] = false := rfl
  unfold lnE
  rw [this]
  rfl

/-- Line by line: the records, and what is wrong. -/
def scanF : Nat → Nat → List UInt8 → List Rc × Int
  | 0, _, _ => ([], 0)
  | f + 1, k, l => if l = [] then ([], 0) else if lnE l ≠ 0 then ([], lnE l) else if k = 60 then ([], 2) else (lnR l :: (scanF f (k + 1) (lnB l)).1, (scanF f (k + 1) (lnB l)).2)

theorem scanF_more : ∀ (f : Nat) (k : Nat) (l : List UInt8), l.length < f → scanF f k l = scanF (l.length + 1) k l
  | 0, _, _, h => by omega
  | f + 1, k, l, h => by
    rw [scanF]
    conv => rhs; rw [scanF]
    by_cases h0 : l = []
    · rw [if_pos h0, if_pos h0]
    rw [if_neg h0, if_neg h0]
    by_cases h1 : lnE l ≠ 0
    · rw [if_pos h1, if_pos h1]
    rw [if_neg h1, if_neg h1]
    have hl := lnB_less (Decidable.of_not_not h1)
    by_cases h2 : k = 60
    · rw [if_pos h2, if_pos h2]
    rw [if_neg h2, if_neg h2, scanF_more f (k + 1) (lnB l) (by omega), scanF_more l.length (k + 1) (lnB l) hl]

def scan (k : Nat) (l : List UInt8) : List Rc × Int := scanF (l.length + 1) k l

theorem scan_nil (k : Nat) : scan k [] = ([], 0) := rfl

theorem scan_bad {k : Nat} {l : List UInt8} (h0 : l ≠ []) (h1 : lnE l ≠ 0) : scan k l = ([], lnE l) := by
  unfold scan
  rw [scanF, if_neg h0, if_pos h1]

theorem scan_many {l : List UInt8} (h0 : l ≠ []) (h1 : lnE l = 0) : scan 60 l = ([], 2) := by
  unfold scan
  rw [scanF, if_neg h0, if_neg (by simp [h1]), if_pos rfl]

theorem scan_step {k : Nat} {l : List UInt8} (h0 : l ≠ []) (h1 : lnE l = 0) (h2 : k ≠ 60) : scan k l = (lnR l :: (scan (k + 1) (lnB l)).1, (scan (k + 1) (lnB l)).2) := by
  have hl := lnB_less h1
  unfold scan
  rw [scanF, if_neg h0, if_neg (by simp [h1]), if_neg h2, scanF_more l.length (k + 1) (lnB l) hl]

/-- Whole lines at the begin: the records, and what is left. -/
def tailF : Nat → Nat → List UInt8 → List Rc × List UInt8
  | 0, _, l => ([], l)
  | f + 1, k, l => if k < 60 ∧ lnE l = 0 then (lnR l :: (tailF f (k + 1) (lnB l)).1, (tailF f (k + 1) (lnB l)).2) else ([], l)

theorem tailF_more : ∀ (f : Nat) (k : Nat) (l : List UInt8), l.length < f → tailF f k l = tailF (l.length + 1) k l
  | 0, _, _, h => by omega
  | f + 1, k, l, h => by
    rw [tailF]
    conv => rhs; rw [tailF]
    by_cases h1 : k < 60 ∧ lnE l = 0
    · have hl := lnB_less h1.2
      rw [if_pos h1, if_pos h1, tailF_more f (k + 1) (lnB l) (by omega), tailF_more l.length (k + 1) (lnB l) hl]
    · rw [if_neg h1, if_neg h1]

def tail (k : Nat) (l : List UInt8) : List Rc × List UInt8 := tailF (l.length + 1) k l

theorem tail_stop {k : Nat} {l : List UInt8} (h : ¬ (k < 60 ∧ lnE l = 0)) : tail k l = ([], l) := by
  unfold tail
  rw [tailF, if_neg h]

theorem tail_step {k : Nat} {l : List UInt8} (h : k < 60 ∧ lnE l = 0) : tail k l = (lnR l :: (tail (k + 1) (lnB l)).1, (tail (k + 1) (lnB l)).2) := by
  unfold tail
  rw [tailF, if_pos h, tailF_more l.length (k + 1) (lnB l) (lnB_less h.2)]

theorem lnB_suffix {l : List UInt8} (h : lnE l = 0) : ∃ p, l = p ++ lnB l := by
  have hy := lnE_ok h
  rcases lf_cases l with ⟨h1, _⟩ | ⟨_, h2, _⟩
  · rw [hy] at h1; cases h1
  · refine ⟨lfT l ++ [10], ?_⟩
    unfold lnB
    rw [if_pos hy, List.append_assoc]
    exact h2

/-- A disk. -/
structure Dk where
  safe : List UInt8
  wait : List UInt8

def dk0 : Dk := ⟨[], []⟩

def dkE (d : Dk) : Int := if 60000 < d.safe.length + d.wait.length then 2 else (scan 0 d.safe).2

def dkL (d : Dk) : List Rc := if dkE d = 0 then (scan 0 d.safe).1 else []

def dputE (d : Dk) (r : Rc) : Int := if dkE d ≠ 0 then dkE d else if recE r ≠ 0 then recE r else if 60000 < d.safe.length + d.wait.length + ((recT r).length + 1) then 2 else 0
def dputD (d : Dk) (r : Rc) : Dk := if dputE d r = 0 then ⟨d.safe, d.wait ++ (recT r ++ [10])⟩ else dk0

def syncE (d : Dk) : Int := if dkE d ≠ 0 then dkE d else dkE ⟨d.safe ++ d.wait, []⟩
def syncD (d : Dk) : Dk := if syncE d = 0 then ⟨d.safe ++ d.wait, []⟩ else dk0

def crashE (d : Dk) (n : Int) : Int := if dkE d ≠ 0 then dkE d else if n < 0 ∨ (d.wait.length : Int) < n then 3 else 0
def crashD (d : Dk) (n : Int) : Dk := if crashE d n = 0 then ⟨d.safe, d.wait.take n.toNat⟩ else dk0

/-- What Recover makes safe of what waits. -/
def kept (d : Dk) : List UInt8 := d.wait.take (d.wait.length - (tail (dkL d).length d.wait).2.length)

def recD (d : Dk) : Dk := if dkE d = 0 then ⟨d.safe ++ kept d, []⟩ else dk0
def recL (d : Dk) : List Rc := if dkE d = 0 then dkL d ++ (tail (dkL d).length d.wait).1 else []

theorem scan_le : ∀ (n k : Nat) (l : List UInt8), l.length ≤ n → k ≤ 60 → (scan k l).1.length + k ≤ 60
  | 0, k, l, h, hk => by
    obtain rfl := List.length_eq_zero_iff.1 (Nat.le_zero.1 h)
    rw [scan_nil]
    simpa using hk
  | n + 1, k, l, h, hk => by
    by_cases h0 : l = []
    · subst h0
      rw [scan_nil]
      simpa using hk
    by_cases h1 : lnE l = 0
    · by_cases h2 : k = 60
      · subst h2
        rw [scan_many h0 h1]
        simp
      · rw [scan_step h0 h1 h2]
        have := lnB_less h1
        have := scan_le n (k + 1) (lnB l) (by omega) (by omega)
        simp only [List.length_cons]
        omega
    · rw [scan_bad h0 h1]
      simpa using hk

theorem dkL_le (d : Dk) : (dkL d).length ≤ 60 := by
  unfold dkL
  split
  · have := scan_le d.safe.length 0 d.safe (Nat.le_refl _) (by omega)
    omega
  · simp

end Go.Proofs.YtabeihkfjlmepaaDoor

/-
  Sums of points as plain numbers: how many, the least, the greatest, all together; what one point is, what two sums joined are, what many are.
-/
namespace Go.Proofs.YtabeihkfjlmepaaDoor
open Go.RowKit

theorem below2 (w : World) (a b : Obj) : Below w.heap.size w ((w.alloc a).alloc b) :=
  ((Below.refl _ _).alloc (Nat.le_refl _) _).alloc (by simp) _

theorem below3 (w : World) (a b c : Obj) : Below w.heap.size w (((w.alloc a).alloc b).alloc c) :=
  (below2 w a b).alloc (by simp; omega) _

theorem Blk.alc {w : World} {g : Nat} {cs : List Value} {t : TypeId} (h : Blk w g cs t) (o : Obj) : Blk (w.alloc o) g cs t :=
  h.keep ((Below.refl w.heap.size w).alloc (Nat.le_refl _) o) h.lt

theorem Blk.other {w : World} {g g' : Nat} {cs : List Value} {t : TypeId} (h : Blk w g cs t) (i : Nat) (u : Value) (hne : g' ≠ g) : Blk (w.setCell ⟨g', i, none⟩ u) g cs t :=
  (heap_setCell_other w _ g u (fun e => hne e.symm)).trans h

theorem Blk.drewS {w : World} {g : Nat} {cs : List Value} {t : TypeId} (h : Blk w g cs t) : Blk w.drew g cs t := h

structure Sm where
  n : Int
  lo : Int
  hi : Int
  tot : Int

def Sm.cells (s : Sm) : List Value := [.int .i64 s.n, .int .i64 s.lo, .int .i64 s.hi, .int .i64 s.tot]

def smV (s : Sm) : Value := .agg #[.int .i64 s.n, .int .i64 s.lo, .int .i64 s.hi, .int .i64 s.tot]

def sm0 : Sm := ⟨0, 0, 0, 0⟩

def sm1 (v : Int) : Sm := ⟨1, v, v, v⟩

def joinS (a b : Sm) : Sm := if a.n = 0 then b else if b.n = 0 then a else ⟨wrap64 (a.n + b.n), min a.lo b.lo, max a.hi b.hi, wrap64 (a.tot + b.tot)⟩

def sumFrom (s : Sm) : List Pt → Sm
  | [] => s
  | p :: r => sumFrom (joinS s (sm1 p.2)) r

def sumS (l : List Pt) : Sm := sumFrom sm0 l

/-- The same, one number at a time, but for how many. -/
def accS (s : Sm) : List Pt → Sm
  | [] => s
  | p :: r => accS ⟨s.n, min s.lo p.2, max s.hi p.2, wrap64 (s.tot + p.2)⟩ r

theorem accS_n (m : Int) : ∀ (s : Sm) (l : List Pt), accS ⟨m, s.lo, s.hi, s.tot⟩ l = ⟨m, (accS s l).lo, (accS s l).hi, (accS s l).tot⟩
  | _, [] => rfl
  | s, p :: r => accS_n m ⟨s.n, min s.lo p.2, max s.hi p.2, wrap64 (s.tot + p.2)⟩ r

theorem sumFrom_acc : ∀ (s : Sm) (l : List Pt), 1 ≤ s.n → s.n + l.length ≤ 9223372036854775807 → sumFrom s l = ⟨s.n + l.length, (accS s l).lo, (accS s l).hi, (accS s l).tot⟩
  | s, [], _, _ => by simp [sumFrom, accS]
  | s, p :: r, h1, h2 => by
    have hj : joinS s (sm1 p.2) = ⟨s.n + 1, min s.lo p.2, max s.hi p.2, wrap64 (s.tot + p.2)⟩ := by
      unfold joinS
      rw [if_neg (by omega), if_neg (by simp [sm1])]
      have : wrap64 (s.n + 1) = s.n + 1 := by
        rw [List.length_cons] at h2
        unfold wrap64
        omega
      simp [sm1, this]
    rw [sumFrom, hj, sumFrom_acc _ r (by simp only; omega) (by rw [List.length_cons] at h2; simp only; omega)]
    have ha := accS_n (s.n + 1) ⟨s.n, min s.lo p.2, max s.hi p.2, wrap64 (s.tot + p.2)⟩ r
    rw [ha, accS, List.length_cons]
    simp only [Sm.mk.injEq, and_true]
    omega

theorem wrap_wf {v : Int} (h : (Lit.int .i64 v).wf = true) : wrap64 v = v := by
  simp only [Lit.wf, IntKind.min, IntKind.max, IntKind.signed, IntKind.bits, Bool.and_eq_true, decide_eq_true_eq, if_true] at h
  unfold wrap64
  omega

theorem sumS_cons (p : Pt) (r : List Pt) : sumS (p :: r) = sumFrom (sm1 p.2) r := rfl

theorem sumS_acc (p : Pt) (r : List Pt) (hw : wrap64 p.2 = p.2) (hl : (p :: r).length ≤ 9223372036854775807) : sumS (p :: r) = accS ⟨(p :: r).length, p.2, p.2, 0⟩ (p :: r) := by
  rw [List.length_cons] at hl
  rw [sumS_cons, sumFrom_acc (sm1 p.2) r (by simp [sm1]) (by simp only [sm1]; omega), accS]
  simp only [Int.min_self, Int.max_self, Int.zero_add, hw]
  have ha := accS_n (((p :: r).length : Nat) : Int) (sm1 p.2) r
  simp only [sm1] at ha ⊢
  rw [ha, List.length_cons]
  simp only [Sm.mk.injEq, and_true]
  omega

end Go.Proofs.YtabeihkfjlmepaaDoor
