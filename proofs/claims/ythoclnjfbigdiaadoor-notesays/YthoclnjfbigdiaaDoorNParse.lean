/-
  note.Parse: the record of a text, or what is wrong with it.
-/
import Derived.Test.YthoclnjfbigdiaaDoorNReadR
import Derived.Test.YthoclnjfbigdiaaDoorNCheck2
import Derived.Deep.Cut
import Derived.Deep.CutRange
namespace Go.Proofs.YthoclnjfbigdiaaDoor
open Go.RowKit

/-- What Parse tells of a text: what is wrong, and the record. -/
def parseE (s : ByteArray) : Int := if 60000 < s.size then 2 else match textR s with
  | none => 1
  | some r => recE r

def rec0 : Rc := ⟨0, 0, 0, []⟩

def parseR (s : ByteArray) : Rc := if 60000 < s.size then rec0 else match textR s with
  | none => rec0
  | some r => if recE r = 0 then r else rec0

set_option maxHeartbeats 1000000 in
set_option maxRecDepth 100000 in
theorem parse_is (s : ByteArray) (w : World) (hg : Gl w) (hs : s.size ≤ 9223372036854775807) :
    Calls Tryd.prog 7 #[.string s] w fun e w' => ∃ a' G, e = .returned (.tuple #[.agg #[.int .i64 (parseR s).k, .int .i64 (parseR s).s, .int .i64 (parseR s).n, .slice a' (parseR s).e.length G], .int .i64 (parseE s)]) ∧ w'.ownsRow w.heap.size 59 3 (.slice a' (parseR s).e.length G) (parseR s).e.length ((parseR s).e.flatMap ec) ∧ Below w.heap.size w w' := by
  have BX := Blk.laid w [.int .i64 0, .int .i64 0, .int .i64 0, .slice none 0 0] 24 _ rfl
  have belX : Below w.heap.size w (w.alloc (.cells #[.int .i64 0, .int .i64 0, .int .i64 0, .slice none 0 0] 24)) := (Below.refl _ _).alloc (Nat.le_refl _) _
  have g1 := hg.alloc (.cells #[.int .i64 0, .int .i64 0, .int .i64 0, .slice none 0 0] 24)
  by_cases hb : 60000 < s.size
  · rw [show parseR s = rec0 from if_pos hb, show parseE s = 2 from if_pos hb]
    have hb' : (60000 : Int) < s.size := by omega
    show Calls Tryd.prog 7 #[.string s] w fun e w' => ∃ a' G, e = .returned (.tuple #[.agg #[.int .i64 0, .int .i64 0, .int .i64 0, .slice a' 0 G], .int .i64 2]) ∧ w'.ownsRow w.heap.size 59 3 (.slice a' 0 G) 0 [] ∧ Below w.heap.size w w'
    go_enter Tryd.func7, Tryd.ntmps7
    go_wp2_with fail
    generalize w.alloc _ = w1 at *
    have r0 := BX.cell 0
    have r1 := BX.cell 1
    have r2 := BX.cell 2
    have r3 := BX.cell 3
    have f0 := BX.free 0
    have f1 := BX.free 1
    have f2 := BX.free 2
    have f3 := BX.free 3
    have lX := BX.lt
    go_wp2_with fail
    have i0 : w1.cell? ⟨w.heap.size, 0, none⟩ = some (.int .i64 0) := r0
    have i1 : w1.cell? ⟨w.heap.size, 1, none⟩ = some (.int .i64 0) := r1
    have i2 : w1.cell? ⟨w.heap.size, 2, none⟩ = some (.int .i64 0) := r2
    have i3 : w1.cell? ⟨w.heap.size, 3, none⟩ = some (.slice none 0 0) := r3
    exact bodyPost_ret (v := .tuple #[.agg #[.int .i64 0, .int .i64 0, .int .i64 0, .slice none 0 0], .int .i64 2]) (by simp [results, Tryd.results7, go_sem, i0, i1, i2, i3]) rfl ⟨none, 0, rfl, World.ownsRow_nil _ _ _ _, belX⟩
  · have hb' : ¬ (60000 : Int) < s.size := by omega
    have cR := fun W h => read_any s W h (by omega)
    have eE : parseE s = match textR s with
      | none => 1
      | some r => recE r := if_neg hb
    have eR : parseR s = match textR s with
      | none => rec0
      | some r => if recE r = 0 then r else rec0 := if_neg hb
    rw [eE, eR]
    clear eE eR
    cases hT : textR s with
    | none =>
      simp only
      show Calls Tryd.prog 7 #[.string s] w fun e w' => ∃ a' G, e = .returned (.tuple #[.agg #[.int .i64 0, .int .i64 0, .int .i64 0, .slice a' 0 G], .int .i64 1]) ∧ w'.ownsRow w.heap.size 59 3 (.slice a' 0 G) 0 [] ∧ Below w.heap.size w w'
      have cR1 : ∀ W, Gl W → Calls Tryd.prog 26 #[.string s] W fun e w' => e = .returned (.tuple #[.agg #[.int .i64 0, .int .i64 0, .int .i64 0, .slice none 0 0], .bool false]) ∧ Below W.heap.size W w' := by
        intro W h
        refine (cR W h).mono ?_
        rintro e w' ⟨(⟨r, a', G, h1, _, _⟩ | ⟨_, h2⟩), b⟩
        · rw [hT] at h1
          cases h1
        · exact ⟨h2, b⟩
      clear cR hT
      go_enter Tryd.func7, Tryd.ntmps7
      go_wp2_with fail
      generalize w.alloc _ = w1 at *
      go_at_call 26
      refine (cR1 _ g1).mono ?_
      rintro e w2 ⟨rfl, b2⟩
      replace BX := BX.keep (newB (belowCall (Below.refl w1.heap.size w1) b2) (.cells #[.int .i64 0, .int .i64 0, .int .i64 0, .slice none 0 0] 24)) BX.lt
      replace belX := newB (belowCall belX b2) (.cells #[.int .i64 0, .int .i64 0, .int .i64 0, .slice none 0 0] 24)
      go_upto_region 4 with fail
      generalize w2.alloc _ = w3 at *
      have r0 := BX.cell 0
      have r1 := BX.cell 1
      have r2 := BX.cell 2
      have r3 := BX.cell 3
      have f0 := BX.free 0
      have f1 := BX.free 1
      have f2 := BX.free 2
      have f3 := BX.free 3
      have lX := BX.lt
      go_wp2_with fail
      have B9 := put4r BX (.int .i64 0) (.int .i64 0) (.int .i64 0) (.slice none 0 0)
      have bel9 := below4r belX (Nat.le_refl _) (.int .i64 0) (.int .i64 0) (.int .i64 0) (.slice none 0 0)
      generalize World.setCell _ _ _ = w9 at *
      have i0 : w9.cell? ⟨w.heap.size, 0, none⟩ = some (.int .i64 0) := B9.cell 0
      have i1 : w9.cell? ⟨w.heap.size, 1, none⟩ = some (.int .i64 0) := B9.cell 1
      have i2 : w9.cell? ⟨w.heap.size, 2, none⟩ = some (.int .i64 0) := B9.cell 2
      have i3 : w9.cell? ⟨w.heap.size, 3, none⟩ = some (.slice none 0 0) := B9.cell 3
      exact bodyPost_ret (v := .tuple #[.agg #[.int .i64 0, .int .i64 0, .int .i64 0, .slice none 0 0], .int .i64 1]) (by simp [results, Tryd.results7, go_sem, i0, i1, i2, i3]) rfl ⟨none, 0, rfl, World.ownsRow_nil _ _ _ _, bel9⟩
    | some r =>
      simp only
      have cR1 : ∀ W, Gl W → Calls Tryd.prog 26 #[.string s] W fun e w' => ∃ a' G, e = .returned (.tuple #[.agg #[.int .i64 r.k, .int .i64 r.s, .int .i64 r.n, .slice a' r.e.length G], .bool true]) ∧ w'.ownsRow W.heap.size 59 3 (.slice a' r.e.length G) r.e.length (r.e.flatMap ec) ∧ Below W.heap.size W w' := by
        intro W h
        refine (cR W h).mono ?_
        rintro e w' ⟨(⟨r', a', G, h1, h2, h3⟩ | ⟨h1, _⟩), b⟩
        · rw [hT] at h1
          obtain rfl := Option.some.inj h1
          exact ⟨a', G, h2, h3, b⟩
        · rw [hT] at h1
          cases h1
      clear cR hT
      obtain ⟨n, hn⟩ : ∃ n, n = r.e.length := ⟨_, rfl⟩
      have cC := fun a' G W h => check_is r a' G n W h hn
      by_cases h0 : recE r = 0
      · rw [if_pos h0, h0]
        simp only [h0] at cC
        rw [← hn] at cR1 ⊢
        obtain ⟨k, sr, m, l⟩ := r
        simp only at *
        replace hn := hide hn
        replace h0 := hide h0
        go_enter Tryd.func7, Tryd.ntmps7
        go_wp2_with fail
        generalize w.alloc _ = w1 at *
        go_at_call 26
        refine (cR1 _ g1).mono ?_
        rintro e w2 ⟨a2, G2, rfl, o2, b2⟩
        have BQ := Blk.laid w2 [.int .i64 k, .int .i64 sr, .int .i64 m, .slice a2 n G2] 24 _ rfl
        have bq := newB (Below.refl w2.heap.size w2) (.cells #[.int .i64 k, .int .i64 sr, .int .i64 m, .slice a2 n G2] 24)
        have lt1 := BX.lt
        have le1 : w.heap.size ≤ w1.heap.size := belX.size
        replace BX := (BX.keep b2 BX.lt).keep bq (BX.keep b2 BX.lt).lt
        replace belX := belowCall (belowCall belX b2) bq
        have o3 := ownCall o2 bq
        have ltX : w.heap.size < w2.heap.size := Nat.lt_of_lt_of_le lt1 b2.size
        go_upto_region 4 with fail
        generalize hgQ : w2.heap.size = gQ at *
        generalize w2.alloc _ = w3 at *
        have q0 : w3.cell? ⟨gQ, 0, none⟩ = some (.int .i64 k) := BQ.cell 0
        have q1 : w3.cell? ⟨gQ, 1, none⟩ = some (.int .i64 sr) := BQ.cell 1
        have q2 : w3.cell? ⟨gQ, 2, none⟩ = some (.int .i64 m) := BQ.cell 2
        have q3 : w3.cell? ⟨gQ, 3, none⟩ = some (.slice a2 n G2) := BQ.cell 3
        have lQ := BQ.lt
        have S3 : SlW ec w3 a2 G2 l := by
          obtain ⟨a4, G4, e4, s4, _, _⟩ := SlW.ofOwn ec_three (by decide) o3
          simp only [Value.slice.injEq, true_and] at e4
          obtain ⟨rfl, rfl⟩ := e4
          exact s4
        go_wp2_with fail
        go_at_call 10
        refine (cC _ _ _ S3).mono ?_
        rintro e w4 ⟨rfl, b4⟩
        have BQ4 := BQ.keep b4 BQ.lt
        have t0 := BQ4.cell 0
        have t1 := BQ4.cell 1
        have t2 := BQ4.cell 2
        have t3 := BQ4.cell 3
        have lQ4 := BQ4.lt
        replace BX := BX.keep b4 BX.lt
        replace belX := belowCall belX b4
        have o4 := ownCall o3 b4
        have ner : ¬ w.heap.size = gQ := by omega
        have ner' : ¬ gQ = w.heap.size := by omega
        have r0 := BX.cell 0
        have r1 := BX.cell 1
        have r2 := BX.cell 2
        have r3 := BX.cell 3
        have f0 := BX.free 0
        have f1 := BX.free 1
        have f2 := BX.free 2
        have f3 := BX.free 3
        have lX := BX.lt
        go_wp2_with fail
        have B9 := put4r BX (.int .i64 k) (.int .i64 sr) (.int .i64 m) (.slice a2 n G2)
        have bel9 := below4r belX (Nat.le_refl _) (.int .i64 k) (.int .i64 sr) (.int .i64 m) (.slice a2 n G2)
        have o9 := owndown (own4r o4 BX (by decide) (.int .i64 k) (.int .i64 sr) (.int .i64 m) (.slice a2 n G2)) le1
        generalize World.setCell _ _ _ = w9 at *
        have i0 : w9.cell? ⟨w.heap.size, 0, none⟩ = some (.int .i64 k) := B9.cell 0
        have i1 : w9.cell? ⟨w.heap.size, 1, none⟩ = some (.int .i64 sr) := B9.cell 1
        have i2 : w9.cell? ⟨w.heap.size, 2, none⟩ = some (.int .i64 m) := B9.cell 2
        have i3 : w9.cell? ⟨w.heap.size, 3, none⟩ = some (.slice a2 n G2) := B9.cell 3
        exact bodyPost_ret (v := .tuple #[.agg #[.int .i64 k, .int .i64 sr, .int .i64 m, .slice a2 n G2], .int .i64 0]) (by simp [results, Tryd.results7, go_sem, i0, i1, i2, i3]) rfl ⟨a2, G2, rfl, o9, bel9⟩
      · rw [if_neg h0]
        obtain ⟨E, hE⟩ : ∃ E, E = recE r := ⟨_, rfl⟩
        rw [← hE] at cC h0 ⊢
        show Calls Tryd.prog 7 #[.string s] w fun e w' => ∃ a' G, e = .returned (.tuple #[.agg #[.int .i64 0, .int .i64 0, .int .i64 0, .slice a' 0 G], .int .i64 E]) ∧ w'.ownsRow w.heap.size 59 3 (.slice a' 0 G) 0 [] ∧ Below w.heap.size w w'
        rw [← hn] at cR1
        obtain ⟨k, sr, m, l⟩ := r
        simp only at *
        replace hn := hide hn
        replace hE := hide hE
        have hd : decide (E = 0) = false := decide_eq_false h0
        go_enter Tryd.func7, Tryd.ntmps7
        go_wp2_with fail
        generalize w.alloc _ = w1 at *
        go_at_call 26
        refine (cR1 _ g1).mono ?_
        rintro e w2 ⟨a2, G2, rfl, o2, b2⟩
        have BQ := Blk.laid w2 [.int .i64 k, .int .i64 sr, .int .i64 m, .slice a2 n G2] 24 _ rfl
        have bq := newB (Below.refl w2.heap.size w2) (.cells #[.int .i64 k, .int .i64 sr, .int .i64 m, .slice a2 n G2] 24)
        have lt1 := BX.lt
        have le1 : w.heap.size ≤ w1.heap.size := belX.size
        replace BX := (BX.keep b2 BX.lt).keep bq (BX.keep b2 BX.lt).lt
        replace belX := belowCall (belowCall belX b2) bq
        have o3 := ownCall o2 bq
        have ltX : w.heap.size < w2.heap.size := Nat.lt_of_lt_of_le lt1 b2.size
        go_upto_region 4 with fail
        generalize hgQ : w2.heap.size = gQ at *
        generalize w2.alloc _ = w3 at *
        have q0 : w3.cell? ⟨gQ, 0, none⟩ = some (.int .i64 k) := BQ.cell 0
        have q1 : w3.cell? ⟨gQ, 1, none⟩ = some (.int .i64 sr) := BQ.cell 1
        have q2 : w3.cell? ⟨gQ, 2, none⟩ = some (.int .i64 m) := BQ.cell 2
        have q3 : w3.cell? ⟨gQ, 3, none⟩ = some (.slice a2 n G2) := BQ.cell 3
        have lQ := BQ.lt
        have S3 : SlW ec w3 a2 G2 l := by
          obtain ⟨a4, G4, e4, s4, _, _⟩ := SlW.ofOwn ec_three (by decide) o3
          simp only [Value.slice.injEq, true_and] at e4
          obtain ⟨rfl, rfl⟩ := e4
          exact s4
        go_wp2_with fail
        go_at_call 10
        refine (cC _ _ _ S3).mono ?_
        rintro e w4 ⟨rfl, b4⟩
        have BQ4 := BQ.keep b4 BQ.lt
        have t0 := BQ4.cell 0
        have t1 := BQ4.cell 1
        have t2 := BQ4.cell 2
        have t3 := BQ4.cell 3
        have lQ4 := BQ4.lt
        replace BX := BX.keep b4 BX.lt
        replace belX := belowCall belX b4
        have o4 := ownCall o3 b4
        have ner : ¬ w.heap.size = gQ := by omega
        have ner' : ¬ gQ = w.heap.size := by omega
        have r0 := BX.cell 0
        have r1 := BX.cell 1
        have r2 := BX.cell 2
        have r3 := BX.cell 3
        have f0 := BX.free 0
        have f1 := BX.free 1
        have f2 := BX.free 2
        have f3 := BX.free 3
        have lX := BX.lt
        go_wp2_with fail
        have B9 := put4r BX (.int .i64 0) (.int .i64 0) (.int .i64 0) (.slice none 0 0)
        have bel9 := below4r belX (Nat.le_refl _) (.int .i64 0) (.int .i64 0) (.int .i64 0) (.slice none 0 0)
        generalize World.setCell _ _ _ = w9 at *
        have i0 : w9.cell? ⟨w.heap.size, 0, none⟩ = some (.int .i64 0) := B9.cell 0
        have i1 : w9.cell? ⟨w.heap.size, 1, none⟩ = some (.int .i64 0) := B9.cell 1
        have i2 : w9.cell? ⟨w.heap.size, 2, none⟩ = some (.int .i64 0) := B9.cell 2
        have i3 : w9.cell? ⟨w.heap.size, 3, none⟩ = some (.slice none 0 0) := B9.cell 3
        exact bodyPost_ret (v := .tuple #[.agg #[.int .i64 0, .int .i64 0, .int .i64 0, .slice none 0 0], .int .i64 E]) (by simp [results, Tryd.results7, go_sem, i0, i1, i2, i3]) rfl ⟨none, 0, rfl, World.ownsRow_nil _ _ _ _, bel9⟩

end Go.Proofs.YthoclnjfbigdiaaDoor
