/-
  note.read: the record that a text tells.
-/
import Derived.Test.YthoclnjfbigdiaaDoorNoteParse
import Derived.Lib.Split
import Derived.Test.YthoclnjfbigdiaaDoorNPrint
import Derived.Deep.RegionHeld3
namespace Go.Proofs.YthoclnjfbigdiaaDoor
open Go.RowKit

theorem put4r {w : World} {g : Nat} {c0 c1 c2 c3 : Value} {t : TypeId} (h : Blk w g [c0, c1, c2, c3] t) (u0 u1 u2 u3 : Value) :
    Blk ((((w.setCell ⟨g, 0, none⟩ u0).setCell ⟨g, 1, none⟩ u1).setCell ⟨g, 2, none⟩ u2).setCell ⟨g, 3, none⟩ u3) g [u0, u1, u2, u3] t :=
  (((h.set 0 u0).set 1 u1).set 2 u2).set 3 u3

theorem below4r {B : Nat} {w W : World} (h : Below B w W) {g : Nat} (hg : B ≤ g) (u0 u1 u2 u3 : Value) : Below B w ((((W.setCell ⟨g, 0, none⟩ u0).setCell ⟨g, 1, none⟩ u1).setCell ⟨g, 2, none⟩ u2).setCell ⟨g, 3, none⟩ u3) :=
  (((h.setCell (p := ⟨g, 0, none⟩) hg u0).setCell (p := ⟨g, 1, none⟩) hg u1).setCell (p := ⟨g, 2, none⟩) hg u2).setCell (p := ⟨g, 3, none⟩) hg u3

theorem own4r {w : World} {base n g : Nat} {e t : TypeId} {size : Nat} {v : Value} {xs cs : List Value} (h : w.ownsRow base e size v n xs) (B : Blk w g cs t) (ht : e ≠ t) (u0 u1 u2 u3 : Value) : ((((w.setCell ⟨g, 0, none⟩ u0).setCell ⟨g, 1, none⟩ u1).setCell ⟨g, 2, none⟩ u2).setCell ⟨g, 3, none⟩ u3).ownsRow base e size v n xs := by
  have hne : v.ownBlock ≠ some g := by
    rcases h.2 with ⟨rfl, _⟩ | ⟨g1, c1, cur1, rfl, _, h1, _⟩
    · intro e; cases e
    · intro e
      have e1 : g1 = g := by simpa [Value.ownBlock] using e
      subst e1
      have h2 := h1.symm.trans B
      simp only [Option.some.injEq, Obj.cells.injEq] at h2
      exact ht h2.2.1
  exact ownsRow_setCell_other (ownsRow_setCell_other (ownsRow_setCell_other (ownsRow_setCell_other h (a := ⟨g, 0, none⟩) hne u0) (a := ⟨g, 1, none⟩) hne u1) (a := ⟨g, 2, none⟩) hne u2) (a := ⟨g, 3, none⟩) hne u3

theorem owndown {w : World} {base base' : Nat} {e : TypeId} {size n : Nat} {v : Value} {xs : List Value} (h : w.ownsRow base e size v n xs) (hb : base' ≤ base) : w.ownsRow base' e size v n xs := by
  refine ⟨h.1, ?_⟩
  rcases h.2 with h0 | ⟨g, cap, cur, e1, h1, h2⟩
  · exact .inl h0
  · exact .inr ⟨g, cap, cur, e1, Nat.le_trans hb h1, h2⟩

theorem strs_laid (w : World) (l : List ByteArray) (T : TypeId) (h : l.length ≤ 1000000) : Sl (w.alloc (.cells (l.map Value.string).toArray T)) (some ⟨w.heap.size, 0, none⟩) l.length (l.map Value.string) := by
  have B := Blk.laid w (l.map Value.string) T _ rfl
  refine ⟨.inr ⟨_, 0, rfl, B.lt, fun i v hv => ?_⟩, by simp, by omega, fun h => by cases h⟩
  rw [Nat.zero_add]
  exact (B.cell i).trans hv

theorem strs_tail {w : World} {g c : Nat} {x : ByteArray} {r : List ByteArray} (S : Sl w (some ⟨g, 0, none⟩) c ((x :: r).map Value.string)) : Sl w (some ⟨g, 1, none⟩) (c - 1) (r.map Value.string) := by
  obtain ⟨b, off, e, hb, hc⟩ := S.row.at (by simp)
  simp only [Option.some.injEq, Addr.mk.injEq, and_true] at e
  obtain ⟨rfl, rfl⟩ := e
  have h1 := S.le
  have h2 := S.max
  simp only [List.length_map, List.length_cons] at h1
  refine ⟨.inr ⟨g, 1, rfl, hb, fun i v hv => ?_⟩, by rw [List.length_map]; omega, by omega, fun h => by cases h⟩
  have := hc (i + 1) v (by simpa using hv)
  rw [Nat.zero_add] at this
  rw [Nat.add_comm 1 i]
  exact this

set_option maxHeartbeats 4000000 in
set_option maxRecDepth 100000 in
theorem read_any (s : ByteArray) (w : World) (hg : Gl w) (hs : s.size ≤ 60000) :
    Calls Tryd.prog 26 #[.string s] w fun e w' => ((∃ r a' G, textR s = some r ∧ e = .returned (.tuple #[.agg #[.int .i64 r.k, .int .i64 r.s, .int .i64 r.n, .slice a' r.e.length G], .bool true]) ∧ w'.ownsRow w.heap.size 59 3 (.slice a' r.e.length G) r.e.length (r.e.flatMap ec)) ∨ (textR s = none ∧ e = .returned (.tuple #[.agg #[.int .i64 0, .int .i64 0, .int .i64 0, .slice none 0 0], .bool false]))) ∧ Below w.heap.size w w' := by
  have hlen : (wordsB s).length = Lib.countB s blank + 1 := Lib.splitB_all blank (by decide) 0 _ s rfl
  have hsm : ∀ b ∈ wordsB s, b.size ≤ 60000 := fun b hb => Nat.le_trans (split_small blank 0 _ s b hb) hs
  have hcl : Lib.countB s blank ≤ 60000 := Nat.le_trans (Lib.countB_le blank (by decide) s.size s (Nat.le_refl _)) hs
  obtain ⟨m, hmax⟩ := (hg.alloc (.cells #[.int .i64 0, .int .i64 0, .int .i64 0, .slice none 0 0] 24)).max
  have cS := Tryd.strings_Split s blank m (w.alloc (.cells #[.int .i64 0, .int .i64 0, .int .i64 0, .slice none 0 0] 24)) (by omega) hmax (by decide)
  rw [show Lib.splitB blank 0 (Lib.countB s blank) s = wordsB s from rfl, ← hlen] at cS
  have hT : textR s = readR ((wordsB s).map bytes) := rfl
  generalize textR s = TR at *
  generalize wordsB s = WS at *
  cases WS with
  | nil => simp at hlen
  | cons x r =>
    obtain ⟨c, hc⟩ : ∃ c, c = r.length := ⟨_, rfl⟩
    rw [List.length_cons, ← hc] at cS
    rw [List.length_cons] at hlen
    have B0 := Blk.laid w [.int .i64 0, .int .i64 0, .int .i64 0, .slice none 0 0] 24 _ rfl
    have bel : Below w.heap.size w (w.alloc (.cells #[.int .i64 0, .int .i64 0, .int .i64 0, .slice none 0 0] 24)) := (Below.refl _ _).alloc (Nat.le_refl _) _
    have g1 := hg.alloc (.cells #[.int .i64 0, .int .i64 0, .int .i64 0, .slice none 0 0] 24)
    generalize hw1 : w.alloc (.cells #[.int .i64 0, .int .i64 0, .int .i64 0, .slice none 0 0] 24) = w1 at *
    have S1 := strs_laid w1 (x :: r) 9 (by rw [List.length_cons]; omega)
    rw [List.length_cons, ← hc] at S1
    have bel2 := newB bel (.cells ((x :: r).map Value.string).toArray 9)
    have g2 := g1.alloc (.cells ((x :: r).map Value.string).toArray 9)
    have B2 := B0.keep (newB (Below.refl w1.heap.size w1) (.cells ((x :: r).map Value.string).toArray 9)) B0.lt
    have x0 : (w1.alloc (.cells ((x :: r).map Value.string).toArray 9)).cell? ⟨w1.heap.size, 0, none⟩ = some (.string x) := (Blk.laid w1 ((x :: r).map Value.string) 9 _ rfl).cell 0
    have l1 : w1.heap.size < (w1.alloc (.cells ((x :: r).map Value.string).toArray 9)).heap.size := by simp
    generalize hw2 : w1.alloc (.cells ((x :: r).map Value.string).toArray 9) = w2 at *
    have cN := fun a' cap' (h : Sl w2 a' cap' (r.map Value.string)) => readNumbers_any r a' cap' c w2 g2 h hc (by omega) (fun b hb => Nat.le_trans (hsm b (List.mem_cons_of_mem _ hb)) (by decide))
    have hc60 : c ≤ 60000 := by omega
    replace hc := hide hc
    replace hT := hide hT
    clear hlen hsm hcl hmax
    go_enter Tryd.func26, Tryd.ntmps26
    go_wp2_with fail
    go_at_call 48
    refine cS.mono ?_
    rintro e w2' ⟨rfl, hw2'⟩
    clear hw2 hw1
    obtain rfl := hw2'
    have p0 : w2'.cell? ⟨w.heap.size, 0, none⟩ = some (.int .i64 0) := B2.cell 0
    have lR := B2.lt
    by_cases hr : c = 0
    · subst hr
      obtain rfl := List.length_eq_zero_iff.1 hc.out.symm
      go_wp2_with fail
      go_at_call 49
      refine (cN (some ⟨w1.heap.size, 0, none⟩) 0 ⟨.inl rfl, by simp, by decide, fun h => by cases h⟩).mono ?_
      rintro e w3 ⟨(⟨vs, a3, G3, hvs, rfl, o3⟩ | ⟨hvs, rfl⟩), b3⟩
      · have B3 := B2.keep b3 B2.lt
        have r0 := B3.cell 0
        have r1 := B3.cell 1
        have r2 := B3.cell 2
        have r3 := B3.cell 3
        have f0 := B3.free 0
        have f1 := B3.free 1
        have f2 := B3.free 2
        have f3 := B3.free 3
        have lR3 := B3.lt
        have x3 := (b3.cell (p := ⟨w1.heap.size, 0, none⟩) l1).trans x0
        have lx3 : w1.heap.size < w3.heap.size := Nat.lt_of_lt_of_le l1 b3.size
        have bel3 := belowCall bel2 b3
        have hvl : vs.length = 0 := by rw [readNums_length _ _ hvs, List.length_map]; exact hc.out.symm
        have hTR : TR = (if bytes x = wBatch ∧ vs.length % 3 = 0 then some ⟨1, 0, 0, chunkL vs⟩ else if bytes x = wSeal ∧ vs.length = 2 then some ⟨2, vs.getD 0 0, vs.getD 1 0, []⟩ else if bytes x = wMerge ∧ vs.length = 2 then some ⟨3, vs.getD 0 0, vs.getD 1 0, []⟩ else if bytes x = wDrop ∧ vs.length = 1 then some ⟨4, 0, vs.getD 0 0, []⟩ else none) := by
          rw [hT.out]
          simp only [readR, List.map_cons, hvs, Option.bind_some]
        replace hvs := hide hvs
        have SV := ints_own o3
        by_cases kB : bytes x = wBatch
        · by_cases m3 : 0 % 3 = 0
          · rw [if_pos ⟨kB, by omega⟩] at hTR
            have bB : (x.toList == [98, 97, 116, 99, 104]) = true := by rw [toList_bytes, kB]; rfl
            have bS : (x.toList == [115, 101, 97, 108]) = false := by rw [toList_bytes, kB]; rfl
            have bM : (x.toList == [109, 101, 114, 103, 101]) = false := by rw [toList_bytes, kB]; rfl
            have bD : (x.toList == [100, 114, 111, 112]) = false := by rw [toList_bytes, kB]; rfl
            replace hTR := hide hTR
            obtain ⟨mm, hmm⟩ : ∃ mm, 0 = mm * 3 := ⟨0 / 3, by omega⟩
            have cE := fun W (h : Sl W a3 G3 (vs.map (Value.int .i64))) => entries_any vs mm 0 G3 a3 W h hvl.symm hmm (by omega)
            have hcl : (chunkL vs).length = mm := chunk_length mm vs (by omega)
            replace hmm := hide hmm
            clear hvl hT
            go_wp2_with fail
            go_at_call 50
            refine (cE _ SV).mono ?_
            rintro e w4 ⟨v4, rfl, o4, b4⟩
            obtain ⟨a4, G4, rfl, -, -, -⟩ := SlW.ofOwn ec_three (by decide) o4
            have B4 := B3.keep b4 B3.lt
            have s0 := B4.cell 0
            have s1 := B4.cell 1
            have s2 := B4.cell 2
            have s3 := B4.cell 3
            have u0 := B4.free 0
            have u1 := B4.free 1
            have u2 := B4.free 2
            have u3 := B4.free 3
            have lR4 := B4.lt
            have bel4' := belowCall bel3 b4
            go_wp2_with fail
            have B5 := put4r B4 (.int .i64 1) (.int .i64 0) (.int .i64 0) (.slice a4 mm G4)
            have bel5 := below4r bel4' (Nat.le_refl _) (.int .i64 1) (.int .i64 0) (.int .i64 0) (.slice a4 mm G4)
            have o5 := own4r o4 B4 (by decide) (.int .i64 1) (.int .i64 0) (.int .i64 0) (.slice a4 mm G4)
            have i0 := B5.cell 0
            have i1 := B5.cell 1
            have i2 := B5.cell 2
            have i3 := B5.cell 3
            have le3 : w.heap.size ≤ w3.heap.size := bel3.size
            exact bodyPost_ret (v := .tuple #[.agg #[.int .i64 1, .int .i64 0, .int .i64 0, .slice a4 mm G4], .bool true]) (by simp [results, Tryd.results26, go_sem, i0, i1, i2, i3]) rfl ⟨.inl ⟨⟨1, 0, 0, chunkL vs⟩, a4, G4, hTR.out, by rw [hcl], by rw [hcl]; exact owndown o5 le3⟩, bel5⟩
          · rw [if_neg (fun h => m3 (by have := h.2; omega)), if_neg (fun h => by rw [kB] at h; exact absurd h.1 (by decide)), if_neg (fun h => by rw [kB] at h; exact absurd h.1 (by decide)), if_neg (fun h => by rw [kB] at h; exact absurd h.1 (by decide))] at hTR
            exact absurd rfl m3
        · rw [if_neg (fun h => kB h.1)] at hTR
          by_cases kS : bytes x = wSeal
          · by_cases hc2 : 0 = 2
            · rw [if_pos ⟨kS, by omega⟩] at hTR
              cases hc2
            · rw [if_neg (fun h => hc2 (by have := h.2; omega)), if_neg (fun h => by rw [kS] at h; exact absurd h.1 (by decide)), if_neg (fun h => by rw [kS] at h; exact absurd h.1 (by decide))] at hTR
              have bB : (x.toList == [98, 97, 116, 99, 104]) = false := by rw [toList_bytes, kS]; rfl
              have bS : (x.toList == [115, 101, 97, 108]) = true := by rw [toList_bytes, kS]; rfl
              have bM : (x.toList == [109, 101, 114, 103, 101]) = false := by rw [toList_bytes, kS]; rfl
              have bD : (x.toList == [100, 114, 111, 112]) = false := by rw [toList_bytes, kS]; rfl
              replace hTR := hide hTR
              clear hvl hT
              go_wp2_with fail
              have B4 := put4r B3 (.int .i64 0) (.int .i64 0) (.int .i64 0) (.slice none 0 0)
              have bel4 := below4r bel3 (Nat.le_refl _) (.int .i64 0) (.int .i64 0) (.int .i64 0) (.slice none 0 0)
              have i0 := B4.cell 0
              have i1 := B4.cell 1
              have i2 := B4.cell 2
              have i3 := B4.cell 3
              exact bodyPost_ret (v := .tuple #[.agg #[.int .i64 0, .int .i64 0, .int .i64 0, .slice none 0 0], .bool false]) (by simp [results, Tryd.results26, go_sem, i0, i1, i2, i3]) rfl ⟨.inr ⟨hTR.out, rfl⟩, bel4⟩
          · rw [if_neg (fun h => kS h.1)] at hTR
            by_cases kM : bytes x = wMerge
            · by_cases hc2 : 0 = 2
              · rw [if_pos ⟨kM, by omega⟩] at hTR
                cases hc2
              · rw [if_neg (fun h => hc2 (by have := h.2; omega)), if_neg (fun h => by rw [kM] at h; exact absurd h.1 (by decide))] at hTR
                have bB : (x.toList == [98, 97, 116, 99, 104]) = false := by rw [toList_bytes, kM]; rfl
                have bS : (x.toList == [115, 101, 97, 108]) = false := by rw [toList_bytes, kM]; rfl
                have bM : (x.toList == [109, 101, 114, 103, 101]) = true := by rw [toList_bytes, kM]; rfl
                have bD : (x.toList == [100, 114, 111, 112]) = false := by rw [toList_bytes, kM]; rfl
                replace hTR := hide hTR
                clear hvl hT
                go_wp2_with fail
                have B4 := put4r B3 (.int .i64 0) (.int .i64 0) (.int .i64 0) (.slice none 0 0)
                have bel4 := below4r bel3 (Nat.le_refl _) (.int .i64 0) (.int .i64 0) (.int .i64 0) (.slice none 0 0)
                have i0 := B4.cell 0
                have i1 := B4.cell 1
                have i2 := B4.cell 2
                have i3 := B4.cell 3
                exact bodyPost_ret (v := .tuple #[.agg #[.int .i64 0, .int .i64 0, .int .i64 0, .slice none 0 0], .bool false]) (by simp [results, Tryd.results26, go_sem, i0, i1, i2, i3]) rfl ⟨.inr ⟨hTR.out, rfl⟩, bel4⟩
            · rw [if_neg (fun h => kM h.1)] at hTR
              by_cases kD : bytes x = wDrop
              · by_cases hc1 : 0 = 1
                · rw [if_pos ⟨kD, by omega⟩] at hTR
                  cases hc1
                · rw [if_neg (fun h => hc1 (by have := h.2; omega))] at hTR
                  have bB : (x.toList == [98, 97, 116, 99, 104]) = false := by rw [toList_bytes, kD]; rfl
                  have bS : (x.toList == [115, 101, 97, 108]) = false := by rw [toList_bytes, kD]; rfl
                  have bM : (x.toList == [109, 101, 114, 103, 101]) = false := by rw [toList_bytes, kD]; rfl
                  have bD : (x.toList == [100, 114, 111, 112]) = true := by rw [toList_bytes, kD]; rfl
                  replace hTR := hide hTR
                  clear hvl hT
                  go_wp2_with fail
                  have B4 := put4r B3 (.int .i64 0) (.int .i64 0) (.int .i64 0) (.slice none 0 0)
                  have bel4 := below4r bel3 (Nat.le_refl _) (.int .i64 0) (.int .i64 0) (.int .i64 0) (.slice none 0 0)
                  have i0 := B4.cell 0
                  have i1 := B4.cell 1
                  have i2 := B4.cell 2
                  have i3 := B4.cell 3
                  exact bodyPost_ret (v := .tuple #[.agg #[.int .i64 0, .int .i64 0, .int .i64 0, .slice none 0 0], .bool false]) (by simp [results, Tryd.results26, go_sem, i0, i1, i2, i3]) rfl ⟨.inr ⟨hTR.out, rfl⟩, bel4⟩
              · rw [if_neg (fun h => kD h.1)] at hTR
                have bB : (x.toList == [98, 97, 116, 99, 104]) = false := by rw [toList_bytes]; exact beq_eq_false_iff_ne.2 kB
                have bS : (x.toList == [115, 101, 97, 108]) = false := by rw [toList_bytes]; exact beq_eq_false_iff_ne.2 kS
                have bM : (x.toList == [109, 101, 114, 103, 101]) = false := by rw [toList_bytes]; exact beq_eq_false_iff_ne.2 kM
                have bD : (x.toList == [100, 114, 111, 112]) = false := by rw [toList_bytes]; exact beq_eq_false_iff_ne.2 kD
                replace hTR := hide hTR
                clear hvl hT
                go_wp2_with fail
                have B4 := put4r B3 (.int .i64 0) (.int .i64 0) (.int .i64 0) (.slice none 0 0)
                have bel4 := below4r bel3 (Nat.le_refl _) (.int .i64 0) (.int .i64 0) (.int .i64 0) (.slice none 0 0)
                have i0 := B4.cell 0
                have i1 := B4.cell 1
                have i2 := B4.cell 2
                have i3 := B4.cell 3
                exact bodyPost_ret (v := .tuple #[.agg #[.int .i64 0, .int .i64 0, .int .i64 0, .slice none 0 0], .bool false]) (by simp [results, Tryd.results26, go_sem, i0, i1, i2, i3]) rfl ⟨.inr ⟨hTR.out, rfl⟩, bel4⟩
      · have B3 := B2.keep b3 B2.lt
        have r0 := B3.cell 0
        have r1 := B3.cell 1
        have r2 := B3.cell 2
        have r3 := B3.cell 3
        have f0 := B3.free 0
        have f1 := B3.free 1
        have f2 := B3.free 2
        have f3 := B3.free 3
        have lR3 := B3.lt
        have bel3 := belowCall bel2 b3
        have hTR : TR = none := by
          rw [hT.out]
          simp only [readR, List.map_cons, hvs, Option.bind_none]
        replace hTR := hide hTR
        go_wp2_with fail
        have B4 := put4r B3 (.int .i64 0) (.int .i64 0) (.int .i64 0) (.slice none 0 0)
        have bel4 := below4r bel3 (Nat.le_refl _) (.int .i64 0) (.int .i64 0) (.int .i64 0) (.slice none 0 0)
        have i0 := B4.cell 0
        have i1 := B4.cell 1
        have i2 := B4.cell 2
        have i3 := B4.cell 3
        exact bodyPost_ret (v := .tuple #[.agg #[.int .i64 0, .int .i64 0, .int .i64 0, .slice none 0 0], .bool false]) (by simp [results, Tryd.results26, go_sem, i0, i1, i2, i3]) rfl ⟨.inr ⟨hTR.out, rfl⟩, bel4⟩
    · have hr1 : (1 : Int) ≤ (c : Int) + 1 := by omega
      have hr2 : ¬ c + 1 = 1 := by omega
      have hr3 : ¬ c = 0 := hr
      go_wp2_with fail
      go_at_call 49
      refine (cN (some ⟨w1.heap.size, 1, none⟩) c (strs_tail S1)).mono ?_
      rintro e w3 ⟨(⟨vs, a3, G3, hvs, rfl, o3⟩ | ⟨hvs, rfl⟩), b3⟩
      · have B3 := B2.keep b3 B2.lt
        have r0 := B3.cell 0
        have r1 := B3.cell 1
        have r2 := B3.cell 2
        have r3 := B3.cell 3
        have f0 := B3.free 0
        have f1 := B3.free 1
        have f2 := B3.free 2
        have f3 := B3.free 3
        have lR3 := B3.lt
        have x3 := (b3.cell (p := ⟨w1.heap.size, 0, none⟩) l1).trans x0
        have lx3 : w1.heap.size < w3.heap.size := Nat.lt_of_lt_of_le l1 b3.size
        have bel3 := belowCall bel2 b3
        have hvl : vs.length = c := by rw [readNums_length _ _ hvs, List.length_map]; exact hc.out.symm
        have hTR : TR = (if bytes x = wBatch ∧ vs.length % 3 = 0 then some ⟨1, 0, 0, chunkL vs⟩ else if bytes x = wSeal ∧ vs.length = 2 then some ⟨2, vs.getD 0 0, vs.getD 1 0, []⟩ else if bytes x = wMerge ∧ vs.length = 2 then some ⟨3, vs.getD 0 0, vs.getD 1 0, []⟩ else if bytes x = wDrop ∧ vs.length = 1 then some ⟨4, 0, vs.getD 0 0, []⟩ else none) := by
          rw [hT.out]
          simp only [readR, List.map_cons, hvs, Option.bind_some]
        replace hvs := hide hvs
        have SV := ints_own o3
        by_cases kB : bytes x = wBatch
        · by_cases m3 : c % 3 = 0
          · rw [if_pos ⟨kB, by omega⟩] at hTR
            have bB : (x.toList == [98, 97, 116, 99, 104]) = true := by rw [toList_bytes, kB]; rfl
            have bS : (x.toList == [115, 101, 97, 108]) = false := by rw [toList_bytes, kB]; rfl
            have bM : (x.toList == [109, 101, 114, 103, 101]) = false := by rw [toList_bytes, kB]; rfl
            have bD : (x.toList == [100, 114, 111, 112]) = false := by rw [toList_bytes, kB]; rfl
            replace hTR := hide hTR
            obtain ⟨mm, hmm⟩ : ∃ mm, c = mm * 3 := ⟨c / 3, by omega⟩
            have cE := fun W (h : Sl W a3 G3 (vs.map (Value.int .i64))) => entries_any vs mm c G3 a3 W h hvl.symm hmm (by omega)
            have hcl : (chunkL vs).length = mm := chunk_length mm vs (by omega)
            replace hmm := hide hmm
            clear hvl hT
            have t3 : (c : Int).tmod 3 = 0 := by rw [Int.tmod_eq_emod_of_nonneg (by omega)]; omega
            go_wp2_with fail
            go_at_call 50
            refine (cE _ SV).mono ?_
            rintro e w4 ⟨v4, rfl, o4, b4⟩
            obtain ⟨a4, G4, rfl, -, -, -⟩ := SlW.ofOwn ec_three (by decide) o4
            have B4 := B3.keep b4 B3.lt
            have s0 := B4.cell 0
            have s1 := B4.cell 1
            have s2 := B4.cell 2
            have s3 := B4.cell 3
            have u0 := B4.free 0
            have u1 := B4.free 1
            have u2 := B4.free 2
            have u3 := B4.free 3
            have lR4 := B4.lt
            have bel4' := belowCall bel3 b4
            go_wp2_with fail
            have B5 := put4r B4 (.int .i64 1) (.int .i64 0) (.int .i64 0) (.slice a4 mm G4)
            have bel5 := below4r bel4' (Nat.le_refl _) (.int .i64 1) (.int .i64 0) (.int .i64 0) (.slice a4 mm G4)
            have o5 := own4r o4 B4 (by decide) (.int .i64 1) (.int .i64 0) (.int .i64 0) (.slice a4 mm G4)
            have i0 := B5.cell 0
            have i1 := B5.cell 1
            have i2 := B5.cell 2
            have i3 := B5.cell 3
            have le3 : w.heap.size ≤ w3.heap.size := bel3.size
            exact bodyPost_ret (v := .tuple #[.agg #[.int .i64 1, .int .i64 0, .int .i64 0, .slice a4 mm G4], .bool true]) (by simp [results, Tryd.results26, go_sem, i0, i1, i2, i3]) rfl ⟨.inl ⟨⟨1, 0, 0, chunkL vs⟩, a4, G4, hTR.out, by rw [hcl], by rw [hcl]; exact owndown o5 le3⟩, bel5⟩
          · rw [if_neg (fun h => m3 (by have := h.2; omega)), if_neg (fun h => by rw [kB] at h; exact absurd h.1 (by decide)), if_neg (fun h => by rw [kB] at h; exact absurd h.1 (by decide)), if_neg (fun h => by rw [kB] at h; exact absurd h.1 (by decide))] at hTR
            have bB : (x.toList == [98, 97, 116, 99, 104]) = true := by rw [toList_bytes, kB]; rfl
            have bS : (x.toList == [115, 101, 97, 108]) = false := by rw [toList_bytes, kB]; rfl
            have bM : (x.toList == [109, 101, 114, 103, 101]) = false := by rw [toList_bytes, kB]; rfl
            have bD : (x.toList == [100, 114, 111, 112]) = false := by rw [toList_bytes, kB]; rfl
            replace hTR := hide hTR
            clear hvl hT
            obtain ⟨r3, hr3⟩ : ∃ r3, r3 = (c : Int) % 3 := ⟨_, rfl⟩
            have d3 : decide (r3 = 0) = false := decide_eq_false (by omega)
            have n3 : ¬ r3 = 0 := by omega
            have t3 : (c : Int).tmod 3 = r3 := by rw [Int.tmod_eq_emod_of_nonneg (by omega)]; exact hr3.symm
            clear hr3
            go_wp2_with fail
            have B4 := put4r B3 (.int .i64 0) (.int .i64 0) (.int .i64 0) (.slice none 0 0)
            have bel4 := below4r bel3 (Nat.le_refl _) (.int .i64 0) (.int .i64 0) (.int .i64 0) (.slice none 0 0)
            have i0 := B4.cell 0
            have i1 := B4.cell 1
            have i2 := B4.cell 2
            have i3 := B4.cell 3
            exact bodyPost_ret (v := .tuple #[.agg #[.int .i64 0, .int .i64 0, .int .i64 0, .slice none 0 0], .bool false]) (by simp [results, Tryd.results26, go_sem, i0, i1, i2, i3]) rfl ⟨.inr ⟨hTR.out, rfl⟩, bel4⟩
        · rw [if_neg (fun h => kB h.1)] at hTR
          by_cases kS : bytes x = wSeal
          · by_cases hc2 : c = 2
            · rw [if_pos ⟨kS, by omega⟩] at hTR
              have bB : (x.toList == [98, 97, 116, 99, 104]) = false := by rw [toList_bytes, kS]; rfl
              have bS : (x.toList == [115, 101, 97, 108]) = true := by rw [toList_bytes, kS]; rfl
              have bM : (x.toList == [109, 101, 114, 103, 101]) = false := by rw [toList_bytes, kS]; rfl
              have bD : (x.toList == [100, 114, 111, 112]) = false := by rw [toList_bytes, kS]; rfl
              replace hTR := hide hTR
              obtain ⟨v0, v1, rfl⟩ : ∃ v0 v1, vs = [v0, v1] := by
                match vs, hvl.trans hc2 with
                | [v0, v1], _ => exact ⟨v0, v1, rfl⟩
              subst hc2
              obtain ⟨gv, ov, rfl, hgv, hcv⟩ := SV.row.at (by simp)
              have y0 : w3.cell? ⟨gv, ov, none⟩ = some (.int .i64 v0) := hcv 0 _ rfl
              have y1 : w3.cell? ⟨gv, ov + 1, none⟩ = some (.int .i64 v1) := hcv 1 _ rfl
              have hne : ¬ gv = w.heap.size := by
                rcases o3.2 with ⟨h, _⟩ | ⟨g, cp, cur, h, hb, _⟩
                · cases h
                · simp only [Value.slice.injEq, Option.some.injEq, Addr.mk.injEq] at h
                  obtain ⟨⟨rfl, -, -⟩, -⟩ := h
                  omega
              have hne' : ¬ w.heap.size = gv := fun h => hne h.symm
              clear hvl hT hcv
              go_wp2_with fail
              go_region_held3 (fun w' => w'.cell? ⟨gv, ov, none⟩ = some (.int .i64 v0) ∧ w'.cell? ⟨gv, ov + 1, none⟩ = some (.int .i64 v1)) (go_keep) (fail)
              all_goals go_wp2_with fail
              all_goals (
                have B4 : Blk (World.drew ((((w3.setCell ⟨w.heap.size, 0, none⟩ (.int .i64 2)).setCell ⟨w.heap.size, 1, none⟩ (.int .i64 v0)).setCell ⟨w.heap.size, 2, none⟩ (.int .i64 v1)).setCell ⟨w.heap.size, 3, none⟩ (.slice none 0 0))) w.heap.size [.int .i64 2, .int .i64 v0, .int .i64 v1, .slice none 0 0] 24 := put4r B3 (.int .i64 2) (.int .i64 v0) (.int .i64 v1) (.slice none 0 0)
                have bel4 := belowDrew (below4r bel3 (Nat.le_refl _) (.int .i64 2) (.int .i64 v0) (.int .i64 v1) (.slice none 0 0))
                generalize World.drew _ = w5 at *
                have i0 : w5.cell? ⟨w.heap.size, 0, none⟩ = some (.int .i64 2) := B4.cell 0
                have i1 : w5.cell? ⟨w.heap.size, 1, none⟩ = some (.int .i64 v0) := B4.cell 1
                have i2 : w5.cell? ⟨w.heap.size, 2, none⟩ = some (.int .i64 v1) := B4.cell 2
                have i3 : w5.cell? ⟨w.heap.size, 3, none⟩ = some (.slice none 0 0) := B4.cell 3
                exact bodyPost_ret (v := .tuple #[.agg #[.int .i64 2, .int .i64 v0, .int .i64 v1, .slice none 0 0], .bool true]) (by simp [results, Tryd.results26, go_sem, i0, i1, i2, i3]) rfl ⟨.inl ⟨⟨2, v0, v1, []⟩, none, 0, hTR.out, rfl, World.ownsRow_nil _ _ _ _⟩, bel4⟩)
            · rw [if_neg (fun h => hc2 (by have := h.2; omega)), if_neg (fun h => by rw [kS] at h; exact absurd h.1 (by decide)), if_neg (fun h => by rw [kS] at h; exact absurd h.1 (by decide))] at hTR
              have bB : (x.toList == [98, 97, 116, 99, 104]) = false := by rw [toList_bytes, kS]; rfl
              have bS : (x.toList == [115, 101, 97, 108]) = true := by rw [toList_bytes, kS]; rfl
              have bM : (x.toList == [109, 101, 114, 103, 101]) = false := by rw [toList_bytes, kS]; rfl
              have bD : (x.toList == [100, 114, 111, 112]) = false := by rw [toList_bytes, kS]; rfl
              replace hTR := hide hTR
              clear hvl hT
              have d2 : ¬ (c : Int) = 2 := by omega
              go_wp2_with fail
              have B4 := put4r B3 (.int .i64 0) (.int .i64 0) (.int .i64 0) (.slice none 0 0)
              have bel4 := below4r bel3 (Nat.le_refl _) (.int .i64 0) (.int .i64 0) (.int .i64 0) (.slice none 0 0)
              have i0 := B4.cell 0
              have i1 := B4.cell 1
              have i2 := B4.cell 2
              have i3 := B4.cell 3
              exact bodyPost_ret (v := .tuple #[.agg #[.int .i64 0, .int .i64 0, .int .i64 0, .slice none 0 0], .bool false]) (by simp [results, Tryd.results26, go_sem, i0, i1, i2, i3]) rfl ⟨.inr ⟨hTR.out, rfl⟩, bel4⟩
          · rw [if_neg (fun h => kS h.1)] at hTR
            by_cases kM : bytes x = wMerge
            · by_cases hc2 : c = 2
              · rw [if_pos ⟨kM, by omega⟩] at hTR
                have bB : (x.toList == [98, 97, 116, 99, 104]) = false := by rw [toList_bytes, kM]; rfl
                have bS : (x.toList == [115, 101, 97, 108]) = false := by rw [toList_bytes, kM]; rfl
                have bM : (x.toList == [109, 101, 114, 103, 101]) = true := by rw [toList_bytes, kM]; rfl
                have bD : (x.toList == [100, 114, 111, 112]) = false := by rw [toList_bytes, kM]; rfl
                replace hTR := hide hTR
                obtain ⟨v0, v1, rfl⟩ : ∃ v0 v1, vs = [v0, v1] := by
                  match vs, hvl.trans hc2 with
                  | [v0, v1], _ => exact ⟨v0, v1, rfl⟩
                subst hc2
                obtain ⟨gv, ov, rfl, hgv, hcv⟩ := SV.row.at (by simp)
                have y0 : w3.cell? ⟨gv, ov, none⟩ = some (.int .i64 v0) := hcv 0 _ rfl
                have y1 : w3.cell? ⟨gv, ov + 1, none⟩ = some (.int .i64 v1) := hcv 1 _ rfl
                have hne : ¬ gv = w.heap.size := by
                  rcases o3.2 with ⟨h, _⟩ | ⟨g, cp, cur, h, hb, _⟩
                  · cases h
                  · simp only [Value.slice.injEq, Option.some.injEq, Addr.mk.injEq] at h
                    obtain ⟨⟨rfl, -, -⟩, -⟩ := h
                    omega
                have hne' : ¬ w.heap.size = gv := fun h => hne h.symm
                clear hvl hT hcv
                go_wp2_with fail
                go_region_held3 (fun w' => w'.cell? ⟨gv, ov, none⟩ = some (.int .i64 v0) ∧ w'.cell? ⟨gv, ov + 1, none⟩ = some (.int .i64 v1)) (go_keep) (fail)
                all_goals go_wp2_with fail
                all_goals (
                  have B4 : Blk (World.drew ((((w3.setCell ⟨w.heap.size, 0, none⟩ (.int .i64 3)).setCell ⟨w.heap.size, 1, none⟩ (.int .i64 v0)).setCell ⟨w.heap.size, 2, none⟩ (.int .i64 v1)).setCell ⟨w.heap.size, 3, none⟩ (.slice none 0 0))) w.heap.size [.int .i64 3, .int .i64 v0, .int .i64 v1, .slice none 0 0] 24 := put4r B3 (.int .i64 3) (.int .i64 v0) (.int .i64 v1) (.slice none 0 0)
                  have bel4 := belowDrew (below4r bel3 (Nat.le_refl _) (.int .i64 3) (.int .i64 v0) (.int .i64 v1) (.slice none 0 0))
                  generalize World.drew _ = w5 at *
                  have i0 : w5.cell? ⟨w.heap.size, 0, none⟩ = some (.int .i64 3) := B4.cell 0
                  have i1 : w5.cell? ⟨w.heap.size, 1, none⟩ = some (.int .i64 v0) := B4.cell 1
                  have i2 : w5.cell? ⟨w.heap.size, 2, none⟩ = some (.int .i64 v1) := B4.cell 2
                  have i3 : w5.cell? ⟨w.heap.size, 3, none⟩ = some (.slice none 0 0) := B4.cell 3
                  exact bodyPost_ret (v := .tuple #[.agg #[.int .i64 3, .int .i64 v0, .int .i64 v1, .slice none 0 0], .bool true]) (by simp [results, Tryd.results26, go_sem, i0, i1, i2, i3]) rfl ⟨.inl ⟨⟨3, v0, v1, []⟩, none, 0, hTR.out, rfl, World.ownsRow_nil _ _ _ _⟩, bel4⟩)
              · rw [if_neg (fun h => hc2 (by have := h.2; omega)), if_neg (fun h => by rw [kM] at h; exact absurd h.1 (by decide))] at hTR
                have bB : (x.toList == [98, 97, 116, 99, 104]) = false := by rw [toList_bytes, kM]; rfl
                have bS : (x.toList == [115, 101, 97, 108]) = false := by rw [toList_bytes, kM]; rfl
                have bM : (x.toList == [109, 101, 114, 103, 101]) = true := by rw [toList_bytes, kM]; rfl
                have bD : (x.toList == [100, 114, 111, 112]) = false := by rw [toList_bytes, kM]; rfl
                replace hTR := hide hTR
                clear hvl hT
                have d2 : ¬ (c : Int) = 2 := by omega
                go_wp2_with fail
                have B4 := put4r B3 (.int .i64 0) (.int .i64 0) (.int .i64 0) (.slice none 0 0)
                have bel4 := below4r bel3 (Nat.le_refl _) (.int .i64 0) (.int .i64 0) (.int .i64 0) (.slice none 0 0)
                have i0 := B4.cell 0
                have i1 := B4.cell 1
                have i2 := B4.cell 2
                have i3 := B4.cell 3
                exact bodyPost_ret (v := .tuple #[.agg #[.int .i64 0, .int .i64 0, .int .i64 0, .slice none 0 0], .bool false]) (by simp [results, Tryd.results26, go_sem, i0, i1, i2, i3]) rfl ⟨.inr ⟨hTR.out, rfl⟩, bel4⟩
            · rw [if_neg (fun h => kM h.1)] at hTR
              by_cases kD : bytes x = wDrop
              · by_cases hc1 : c = 1
                · rw [if_pos ⟨kD, by omega⟩] at hTR
                  have bB : (x.toList == [98, 97, 116, 99, 104]) = false := by rw [toList_bytes, kD]; rfl
                  have bS : (x.toList == [115, 101, 97, 108]) = false := by rw [toList_bytes, kD]; rfl
                  have bM : (x.toList == [109, 101, 114, 103, 101]) = false := by rw [toList_bytes, kD]; rfl
                  have bD : (x.toList == [100, 114, 111, 112]) = true := by rw [toList_bytes, kD]; rfl
                  replace hTR := hide hTR
                  obtain ⟨v0, rfl⟩ : ∃ v0, vs = [v0] := by
                    match vs, hvl.trans hc1 with
                    | [v0], _ => exact ⟨v0, rfl⟩
                  subst hc1
                  obtain ⟨gv, ov, rfl, hgv, hcv⟩ := SV.row.at (by simp)
                  have y0 : w3.cell? ⟨gv, ov, none⟩ = some (.int .i64 v0) := hcv 0 _ rfl
                  have hne : ¬ gv = w.heap.size := by
                    rcases o3.2 with ⟨h, _⟩ | ⟨g, cp, cur, h, hb, _⟩
                    · cases h
                    · simp only [Value.slice.injEq, Option.some.injEq, Addr.mk.injEq] at h
                      obtain ⟨⟨rfl, -, -⟩, -⟩ := h
                      omega
                  have hne' : ¬ w.heap.size = gv := fun h => hne h.symm
                  clear hvl hT hcv
                  go_wp2_with fail
                  have B4 := put4r B3 (.int .i64 4) (.int .i64 0) (.int .i64 v0) (.slice none 0 0)
                  have bel4 := below4r bel3 (Nat.le_refl _) (.int .i64 4) (.int .i64 0) (.int .i64 v0) (.slice none 0 0)
                  have i0 := B4.cell 0
                  have i1 := B4.cell 1
                  have i2 := B4.cell 2
                  have i3 := B4.cell 3
                  exact bodyPost_ret (v := .tuple #[.agg #[.int .i64 4, .int .i64 0, .int .i64 v0, .slice none 0 0], .bool true]) (by simp [results, Tryd.results26, go_sem, i0, i1, i2, i3]) rfl ⟨.inl ⟨⟨4, 0, v0, []⟩, none, 0, hTR.out, rfl, World.ownsRow_nil _ _ _ _⟩, bel4⟩
                · rw [if_neg (fun h => hc1 (by have := h.2; omega))] at hTR
                  have bB : (x.toList == [98, 97, 116, 99, 104]) = false := by rw [toList_bytes, kD]; rfl
                  have bS : (x.toList == [115, 101, 97, 108]) = false := by rw [toList_bytes, kD]; rfl
                  have bM : (x.toList == [109, 101, 114, 103, 101]) = false := by rw [toList_bytes, kD]; rfl
                  have bD : (x.toList == [100, 114, 111, 112]) = true := by rw [toList_bytes, kD]; rfl
                  replace hTR := hide hTR
                  clear hvl hT
                  have d1 : ¬ (c : Int) = 1 := by omega
                  go_wp2_with fail
                  have B4 := put4r B3 (.int .i64 0) (.int .i64 0) (.int .i64 0) (.slice none 0 0)
                  have bel4 := below4r bel3 (Nat.le_refl _) (.int .i64 0) (.int .i64 0) (.int .i64 0) (.slice none 0 0)
                  have i0 := B4.cell 0
                  have i1 := B4.cell 1
                  have i2 := B4.cell 2
                  have i3 := B4.cell 3
                  exact bodyPost_ret (v := .tuple #[.agg #[.int .i64 0, .int .i64 0, .int .i64 0, .slice none 0 0], .bool false]) (by simp [results, Tryd.results26, go_sem, i0, i1, i2, i3]) rfl ⟨.inr ⟨hTR.out, rfl⟩, bel4⟩
              · rw [if_neg (fun h => kD h.1)] at hTR
                have bB : (x.toList == [98, 97, 116, 99, 104]) = false := by rw [toList_bytes]; exact beq_eq_false_iff_ne.2 kB
                have bS : (x.toList == [115, 101, 97, 108]) = false := by rw [toList_bytes]; exact beq_eq_false_iff_ne.2 kS
                have bM : (x.toList == [109, 101, 114, 103, 101]) = false := by rw [toList_bytes]; exact beq_eq_false_iff_ne.2 kM
                have bD : (x.toList == [100, 114, 111, 112]) = false := by rw [toList_bytes]; exact beq_eq_false_iff_ne.2 kD
                replace hTR := hide hTR
                clear hvl hT
                go_wp2_with fail
                have B4 := put4r B3 (.int .i64 0) (.int .i64 0) (.int .i64 0) (.slice none 0 0)
                have bel4 := below4r bel3 (Nat.le_refl _) (.int .i64 0) (.int .i64 0) (.int .i64 0) (.slice none 0 0)
                have i0 := B4.cell 0
                have i1 := B4.cell 1
                have i2 := B4.cell 2
                have i3 := B4.cell 3
                exact bodyPost_ret (v := .tuple #[.agg #[.int .i64 0, .int .i64 0, .int .i64 0, .slice none 0 0], .bool false]) (by simp [results, Tryd.results26, go_sem, i0, i1, i2, i3]) rfl ⟨.inr ⟨hTR.out, rfl⟩, bel4⟩
      · have B3 := B2.keep b3 B2.lt
        have r0 := B3.cell 0
        have r1 := B3.cell 1
        have r2 := B3.cell 2
        have r3 := B3.cell 3
        have f0 := B3.free 0
        have f1 := B3.free 1
        have f2 := B3.free 2
        have f3 := B3.free 3
        have lR3 := B3.lt
        have bel3 := belowCall bel2 b3
        have hTR : TR = none := by
          rw [hT.out]
          simp only [readR, List.map_cons, hvs, Option.bind_none]
        replace hTR := hide hTR
        go_wp2_with fail
        have B4 := put4r B3 (.int .i64 0) (.int .i64 0) (.int .i64 0) (.slice none 0 0)
        have bel4 := below4r bel3 (Nat.le_refl _) (.int .i64 0) (.int .i64 0) (.int .i64 0) (.slice none 0 0)
        have i0 := B4.cell 0
        have i1 := B4.cell 1
        have i2 := B4.cell 2
        have i3 := B4.cell 3
        exact bodyPost_ret (v := .tuple #[.agg #[.int .i64 0, .int .i64 0, .int .i64 0, .slice none 0 0], .bool false]) (by simp [results, Tryd.results26, go_sem, i0, i1, i2, i3]) rfl ⟨.inr ⟨hTR.out, rfl⟩, bel4⟩

end Go.Proofs.YthoclnjfbigdiaaDoor
