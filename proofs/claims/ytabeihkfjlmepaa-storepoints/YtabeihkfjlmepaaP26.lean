/-
  rainbookref.BlockOf: what it answers, whatever it is handed; nothing that was there is written.
-/
import Derived.Lib.SliceRun
import Derived.Deep.DeepAppendWide
import Derived.Test.YtabeihkfjlmepaaP05
import Derived.Test.YtabeihkfjlmepaaHRefUnpack
import Derived.Test.YtabeihkfjlmepaaP04
import Derived.Test.YtabeihkfjlmepaaP01
namespace Go.Proofs.Ytabeihkfjlmepaa
open Go.RowKit

set_option maxHeartbeats 400000 in
set_option maxRecDepth 100000 in
theorem refMake_ok (ao : Option Addr) (cap : Nat) (l : List Pt) (w : World) (hr : SlP w ao cap l) (h : checkE l = 0) (hl : 0 < l.length) :
    Calls Try.prog 67 #[.slice ao l.length cap] w fun e w' =>
      ∃ a' G, e = .returned (.tuple #[.agg #[.int .i64 l.length, .int .i64 (firstT l), .int .i64 (endT l), .slice a' (packL l).length G], .int .i64 0]) ∧ Sl w' a' G ((packL l).map Value.bool) ∧ Below w.heap.size w w' := by
  have c1 := fun W h => refPack_any ao cap l W h
  rw [h] at c1
  have h40 := (checkE_zero h).1
  obtain ⟨b, off, rfl, hb⟩ := hr.where (by intro e; rw [e] at hl; simp at hl)
  have s0 := fun W (h : SlP W (some ⟨b, off, none⟩) cap l) => h.first hl
  have s1 := fun W (h : SlP W (some ⟨b, off, none⟩) cap l) => h.last hl
  generalize packL l = P at *
  generalize firstT l = X at *
  generalize endT l = Y at *
  obtain ⟨n, hn⟩ : ∃ n, n + 1 = l.length := ⟨l.length - 1, by omega⟩
  rw [← hn] at c1 s1 h40 ⊢
  clear hn hl h
  go_enter Try.func67, Try.ntmps67
  go_wp2_with fail
  go_at_call 80
  refine (c1 _ (hr.alloc _)).mono ?_
  rintro e w1 ⟨a1, G1, rfl, t1, b1⟩
  have B0 := (Blk.laid w [.int .i64 0, .int .i64 0, .int .i64 0, .slice none 0 0] 60 _ rfl).keep b1 (by simp)
  have bel := belowCall ((Below.refl _ _).alloc (Nat.le_refl _) _) b1
  have hr1 := (hr.alloc _).call b1
  have e0 := s0 _ hr1
  have e1 := s1 _ hr1
  clear c1 s0 s1 b1
  simp only [Nat.add_sub_cancel] at e1
  have f0 := B0.free 0
  have f1 := B0.free 1
  have f2 := B0.free 2
  have f3 := B0.free 3
  have d0 : w1.cell? ⟨w.heap.size, 0, none⟩ = some (.int .i64 0) := B0.cell 0
  have d1 : w1.cell? ⟨w.heap.size, 1, none⟩ = some (.int .i64 0) := B0.cell 1
  have d2 : w1.cell? ⟨w.heap.size, 2, none⟩ = some (.int .i64 0) := B0.cell 2
  have d3 : w1.cell? ⟨w.heap.size, 3, none⟩ = some (.slice none 0 0) := B0.cell 3
  have hgl := B0.lt
  go_wp2_with fail
  go_region
  go_wp2_with fail
  have B4 := (B0.put4 (.int .i64 ((n : Int) + 1)) (.int .i64 X) (.int .i64 Y) (.slice a1 P.length G1)).drewS
  have bel4 := belowDrew (below4 bel (g := w.heap.size) (Nat.le_refl _) (.int .i64 ((n : Int) + 1)) (.int .i64 X) (.int .i64 Y) (.slice a1 P.length G1))
  have t4 := (t1.put4 B0 (.int .i64 ((n : Int) + 1)) (.int .i64 X) (.int .i64 Y) (.slice a1 P.length G1)).drewS
  generalize (World.setCell _ _ _).drew = w5 at *
  have i0 : w5.cell? ⟨w.heap.size, 0, none⟩ = some (.int .i64 ((n : Int) + 1)) := B4.cell 0
  have i1 : w5.cell? ⟨w.heap.size, 1, none⟩ = some (.int .i64 X) := B4.cell 1
  have i2 : w5.cell? ⟨w.heap.size, 2, none⟩ = some (.int .i64 Y) := B4.cell 2
  have i3 : w5.cell? ⟨w.heap.size, 3, none⟩ = some (.slice a1 P.length G1) := B4.cell 3
  exact bodyPost_ret (v := .tuple #[.agg #[.int .i64 ((n : Int) + 1), .int .i64 X, .int .i64 Y, .slice a1 P.length G1], .int .i64 0]) (by simp [results, Try.results67, go_sem, i0, i1, i2, i3]) rfl ⟨a1, G1, by simp, t4, bel4⟩

set_option maxHeartbeats 400000 in
set_option maxRecDepth 100000 in
theorem refMake_no (ao : Option Addr) (cap : Nat) (l : List Pt) (w : World) (hr : SlP w ao cap l) (h : ¬ makeE l = 0) :
    Calls Try.prog 67 #[.slice ao l.length cap] w fun e w' =>
      e = .returned (.tuple #[.agg #[.int .i64 0, .int .i64 0, .int .i64 0, .slice none 0 0], .int .i64 (makeE l)]) ∧ Below w.heap.size w w' := by
  have c1 := fun W h => refPack_any ao cap l W h
  unfold makeE at h ⊢
  by_cases h0 : checkE l = 0
  · rw [h0] at c1
    rw [if_pos h0] at h ⊢
    by_cases h1 : l.length = 0
    · rw [if_pos h1, h1]
      rw [h1] at c1
      generalize packL l = P at *
      clear h h0 h1
      go_enter Try.func67, Try.ntmps67
      go_wp2_with fail
      go_at_call 80
      refine (c1 _ (hr.alloc _)).mono ?_
      rintro e w1 ⟨a1, G1, rfl, t1, b1⟩
      have B0 := (Blk.laid w [.int .i64 0, .int .i64 0, .int .i64 0, .slice none 0 0] 60 _ rfl).keep b1 (by simp)
      have bel := belowCall ((Below.refl _ _).alloc (Nat.le_refl _) _) b1
      clear c1 b1
      have f0 := B0.free 0
      have f1 := B0.free 1
      have f2 := B0.free 2
      have f3 := B0.free 3
      have d0 : w1.cell? ⟨w.heap.size, 0, none⟩ = some (.int .i64 0) := B0.cell 0
      have d1 : w1.cell? ⟨w.heap.size, 1, none⟩ = some (.int .i64 0) := B0.cell 1
      have d2 : w1.cell? ⟨w.heap.size, 2, none⟩ = some (.int .i64 0) := B0.cell 2
      have d3 : w1.cell? ⟨w.heap.size, 3, none⟩ = some (.slice none 0 0) := B0.cell 3
      have hgl := B0.lt
      go_wp2_with fail
      have B4 := B0.put4 (.int .i64 0) (.int .i64 0) (.int .i64 0) (.slice none 0 0)
      have bel4 := below4 bel (g := w.heap.size) (Nat.le_refl _) (.int .i64 0) (.int .i64 0) (.int .i64 0) (.slice none 0 0)
      generalize World.setCell _ _ _ = w5 at *
      have i0 : w5.cell? ⟨w.heap.size, 0, none⟩ = some (.int .i64 0) := B4.cell 0
      have i1 : w5.cell? ⟨w.heap.size, 1, none⟩ = some (.int .i64 0) := B4.cell 1
      have i2 : w5.cell? ⟨w.heap.size, 2, none⟩ = some (.int .i64 0) := B4.cell 2
      have i3 : w5.cell? ⟨w.heap.size, 3, none⟩ = some (.slice none 0 0) := B4.cell 3
      exact bodyPost_ret (v := .tuple #[.agg #[.int .i64 0, .int .i64 0, .int .i64 0, .slice none 0 0], .int .i64 4]) (by simp [results, Try.results67, go_sem, i0, i1, i2, i3]) rfl ⟨rfl, bel4⟩
    · rw [if_neg h1] at h
      exact absurd rfl h
  · rw [if_neg h0]
    generalize packL l = P at *
    generalize checkE l = E at *
    generalize l.length = n at *
    clear h
    go_enter Try.func67, Try.ntmps67
    go_wp2_with fail
    go_at_call 80
    refine (c1 _ (hr.alloc _)).mono ?_
    rintro e w1 ⟨a1, G1, rfl, t1, b1⟩
    have B0 := (Blk.laid w [.int .i64 0, .int .i64 0, .int .i64 0, .slice none 0 0] 60 _ rfl).keep b1 (by simp)
    have bel := belowCall ((Below.refl _ _).alloc (Nat.le_refl _) _) b1
    clear c1 b1
    have f0 := B0.free 0
    have f1 := B0.free 1
    have f2 := B0.free 2
    have f3 := B0.free 3
    have d0 : w1.cell? ⟨w.heap.size, 0, none⟩ = some (.int .i64 0) := B0.cell 0
    have d1 : w1.cell? ⟨w.heap.size, 1, none⟩ = some (.int .i64 0) := B0.cell 1
    have d2 : w1.cell? ⟨w.heap.size, 2, none⟩ = some (.int .i64 0) := B0.cell 2
    have d3 : w1.cell? ⟨w.heap.size, 3, none⟩ = some (.slice none 0 0) := B0.cell 3
    have hgl := B0.lt
    go_wp2_with fail
    have B4 := B0.put4 (.int .i64 0) (.int .i64 0) (.int .i64 0) (.slice none 0 0)
    have bel4 := below4 bel (g := w.heap.size) (Nat.le_refl _) (.int .i64 0) (.int .i64 0) (.int .i64 0) (.slice none 0 0)
    generalize World.setCell _ _ _ = w5 at *
    have i0 : w5.cell? ⟨w.heap.size, 0, none⟩ = some (.int .i64 0) := B4.cell 0
    have i1 : w5.cell? ⟨w.heap.size, 1, none⟩ = some (.int .i64 0) := B4.cell 1
    have i2 : w5.cell? ⟨w.heap.size, 2, none⟩ = some (.int .i64 0) := B4.cell 2
    have i3 : w5.cell? ⟨w.heap.size, 3, none⟩ = some (.slice none 0 0) := B4.cell 3
    exact bodyPost_ret (v := .tuple #[.agg #[.int .i64 0, .int .i64 0, .int .i64 0, .slice none 0 0], .int .i64 E]) (by simp [results, Try.results67, go_sem, i0, i1, i2, i3]) rfl ⟨rfl, bel4⟩

/-- BlockOf, whatever it is handed. -/
theorem refMake_any (ao : Option Addr) (cap : Nat) (l : List Pt) (w : World) (hr : SlP w ao cap l) :
    Calls Try.prog 67 #[.slice ao l.length cap] w fun e w' =>
      ∃ a' G, e = .returned (.tuple #[bkV (makeB l) a' G, .int .i64 (makeE l)]) ∧ Sl w' a' G ((makeB l).bits.map Value.bool) ∧ Below w.heap.size w w' := by
  by_cases h : makeE l = 0
  · have hc : checkE l = 0 ∧ 0 < l.length := by
      unfold makeE at h
      by_cases h0 : checkE l = 0
      · rw [if_pos h0] at h
        refine ⟨h0, ?_⟩
        by_cases h1 : l.length = 0
        · rw [if_pos h1] at h; cases h
        · omega
      · rw [if_neg h0] at h
        exact absurd h h0
    rw [makeB_eq hc.1 hc.2, h]
    exact refMake_ok ao cap l w hr hc.1 hc.2
  · have e : makeB l = bk0 := if_neg h
    rw [e]
    refine (refMake_no ao cap l w hr h).mono ?_
    rintro e w' ⟨rfl, b⟩
    exact ⟨none, 0, rfl, Sl.ofNil _, b⟩

end Go.Proofs.Ytabeihkfjlmepaa

/-
  slices.Clone at blocks, whatever is handed: a slice of the call's own with the same cells.
-/
namespace Go.Proofs.Ytabeihkfjlmepaa
open Go.RowKit

theorem infoB : (Try.prog.info? 60).map (fun i => (i.zero, i.size, i.bytes)) = some (some (.agg #[.int .i64 0, .int .i64 0, .int .i64 0, .slice none 0 0]), 4, 48) := by kernel_rfl

set_option maxHeartbeats 400000 in
set_option maxRecDepth 100000 in
theorem cloneB (ao : Option Addr) (cap : Nat) (C : List Value) (n : Nat) (w : World) (hrow : Row w ao C) (hle : n ≤ cap) (hnil : ao = none → cap = 0) (hlen : C.length = n * 4) (one : ∀ v ∈ C, v.oneCell' = true) (hl : n ≤ 1000000000000) :
    Calls Try.prog 68 #[.slice ao n cap] w fun e w' =>
      ∃ v', e = .returned v' ∧ w'.ownsRow w.heap.size 60 4 v' n C ∧ Below w.heap.size w w' := by
  obtain ⟨i0, hi, hz0, hz1, hz2⟩ := info_parts infoB
  have q : ∀ (w : World) (a : Option Addr) (n c n' c' : Nat), (binOp .eql 54 (.slice a n c) (.slice none n' c')).run Try.prog w = .ok (.bool a.isNone) w := fun w a n c n' c' => Lib.run_eql_slice_nil w _ _ a n c n' c' Try.underlying54
  cases ao with
  | none =>
    obtain rfl := hnil rfl
    obtain rfl : n = 0 := by omega
    obtain rfl : C = [] := List.eq_nil_of_length_eq_zero hlen
    clear hlen
    go_enter Try.func68, Try.ntmps68
    go_wp2_with fail
    go_ret
    exact ⟨_, rfl, World.ownsRow_nil _ _ _ _, Below.refl _ _⟩
  | some ad =>
    have own0 : (w.alloc (.cells #[] 60)).ownsRow w.heap.size 60 4 (.slice (some ⟨w.heap.size, 0, none⟩) 0 0) 0 [] :=
      ⟨rfl, .inr ⟨w.heap.size, 0, #[], rfl, Nat.le_refl _, heap_alloc_new w _, Nat.le_refl _, by decide, rfl, rfl⟩⟩
    have belA := (Below.refl w.heap.size w).alloc (Nat.le_refl _) (Obj.cells #[] 60)
    have hs := hrow.alloc (.cells #[] 60)
    have hsrc : ∀ j u, C[j]? = some u → (w.alloc (.cells #[] 60)).cell? (ad.add j) = some u := by
      intro j u hu
      obtain ⟨b', off', e, _, hc⟩ := hs.at (by intro e; rw [e] at hu; simp at hu)
      obtain rfl := Option.some.inj e
      rw [Addr.add_lit]
      exact hc j u hu
    have bA : w.heap.size ≤ (w.alloc (.cells #[] 60)).heap.size := by simp
    replace hlen := hide hlen
    clear hrow hs hnil
    go_enter Try.func68, Try.ntmps68
    go_wp2_with (at_builtin; refine wpList_append_own_wide _ rfl (.tmp 5) (.tmp 6) 54 rfl w.heap.size 60 i0 (.agg #[.int .i64 0, .int .i64 0, .int .i64 0, .slice none 0 0]) 4 48 Try.underlying54 hi hz0 hz1 hz2 rfl (by decide) _ 0 _ rfl own0 ad n cap C rfl hlen.out hsrc one (by unfold maxLen; omega) (by omega) bA ?_)
    intro v' w1 own1 grow1 _
    have bel1 := belowGrown belA own0 grow1 (Nat.le_refl _) bA
    obtain ⟨a1, c1, rfl⟩ : ∃ a1 c1, v' = .slice a1 n c1 := by
      rcases own1.2 with ⟨rfl, h0⟩ | ⟨g, cp, cur, rfl, _⟩
      · subst h0
        exact ⟨_, _, rfl⟩
      · exact ⟨_, _, rfl⟩
    go_wp2_with fail
    go_ret
    exact ⟨_, rfl, own1, bel1⟩

end Go.Proofs.Ytabeihkfjlmepaa
