/-
  The place that a line has come to: its methods 'to' and 'by' write its own block alone; putBoth and takeBoth, two numbers at once.
-/
import Derived.Test.YtpeeeealbfmklacLineMath
import Derived.Test.YtpeeeealbfmklacZig
import Derived.Test.YtpeeeealbfmklacOwn
namespace Go.Proofs.Ytpeeeealbfmklac
open Go.RowKit

theorem grownRefl (w : World) (row : Option Nat) : w.grownBy w row := ⟨rfl, rfl, rfl, Nat.le_refl _, fun _ _ _ => rfl⟩
theorem grownDrew {a w : World} {row : Option Nat} (h : a.grownBy w row) : a.grownBy w.drew row := ⟨h.os, h.tape, h.output, h.size, h.block⟩
theorem grownAlloc {a w : World} {row : Option Nat} (h : a.grownBy w row) (o : Obj) : a.grownBy (w.alloc o) row := by
  have b := (Below.refl w.heap.size w).alloc (Nat.le_refl _) o
  exact ⟨b.os.trans h.os, b.tape.trans h.tape, b.output.trans h.output, Nat.le_trans h.size b.size, fun k hk hne => (b.block k (Nat.lt_of_lt_of_le hk h.size)).trans (h.block k hk hne)⟩
theorem grownSet {a w : World} {g : Nat} (h : a.grownBy w (some g)) (i : Nat) (u : Value) : a.grownBy (w.setCell ⟨g, i, none⟩ u) (some g) := by
  have b : Below 0 w (w.setCell ⟨g, i, none⟩ u) := (Below.refl 0 w).setCell (Nat.zero_le _) u
  exact ⟨b.os.trans h.os, b.tape.trans h.tape, b.output.trans h.output, Nat.le_trans h.size b.size, fun k hk hne => (heap_setCell_other w _ k u (fun e => hne (by rw [e]))).trans (h.block k hk hne)⟩

def spot (t v s : Int) : List Value := [.int .i64 t, .int .i64 v, .int .i64 s]

theorem Blk.drew {w : World} {g : Nat} {cs : List Value} {t : TypeId} (h : Blk w g cs t) : Blk w.drew g cs t := h

set_option maxHeartbeats 1000000 in
set_option maxRecDepth 100000 in
theorem to_any (g : Nat) (t v s x y : Int) (w : World) (hB : Blk w g (spot t v s) 49) (ht : 0 ≤ t ∧ t ≤ 100000) (hv : -1000000 ≤ v ∧ v ≤ 1000000) (hs : 0 ≤ s ∧ s ≤ 100000) (hx : 0 ≤ x ∧ x ≤ 100000) (hy : -1000000 ≤ y ∧ y ≤ 1000000) :
    Calls Try.prog 25 #[.pointer (some ⟨g, 0, none⟩), .agg #[.int .i64 x, .int .i64 y]] w fun e w' =>
      e = .returned (.tuple #[.int .i64 (x - t - s), .int .i64 (y - v)]) ∧ Blk w' g (spot x y (x - t)) 49 ∧ w.grownBy w' (some g) := by
  obtain ⟨ht0, ht1⟩ := ht
  obtain ⟨hv0, hv1⟩ := hv
  obtain ⟨hs0, hs1⟩ := hs
  obtain ⟨hx0, hx1⟩ := hx
  obtain ⟨hy0, hy1⟩ := hy
  have hlt := hB.lt
  have c0 : w.cell? ⟨g, 0, none⟩ = some (.int .i64 t) := hB.cell 0
  have c1 : w.cell? ⟨g, 1, none⟩ = some (.int .i64 v) := hB.cell 1
  have c2 : w.cell? ⟨g, 2, none⟩ = some (.int .i64 s) := hB.cell 2
  have f0 := hB.free 0
  have f1 := hB.free 1
  have f2 := hB.free 2
  go_enter Try.func25, Try.ntmps25
  go_wp2_with fail
  go_region
  all_goals go_wp2_with fail
  all_goals go_region
  all_goals go_wp2_with fail
  all_goals go_ret2
  exact ⟨rfl, ((((hB.set 0 _).set 1 _).set 2 _).alloc _).drew.drew, grownDrew (grownDrew (grownAlloc (grownSet (grownSet (grownSet (grownRefl _ _) 0 _) 1 _) 2 _) _))⟩

set_option maxHeartbeats 1000000 in
set_option maxRecDepth 100000 in
theorem by_any (g : Nat) (t v s x y : Int) (w : World) (hB : Blk w g (spot t v s) 49) (ht : 0 ≤ t ∧ t ≤ 100000) (hv : -1000000 ≤ v ∧ v ≤ 1000000) (hs : -100000 ≤ s ∧ s ≤ 100000) (hx : -4000000 ≤ x ∧ x ≤ 4000000) (hy : -4000000 ≤ y ∧ y ≤ 4000000) :
    Calls Try.prog 28 #[.pointer (some ⟨g, 0, none⟩), .int .i64 x, .int .i64 y] w fun e w' =>
      e = .returned (.agg #[.int .i64 (t + (s + x)), .int .i64 (v + y)]) ∧ Blk w' g (spot (t + (s + x)) (v + y) (s + x)) 49 ∧ w.grownBy w' (some g) := by
  obtain ⟨ht0, ht1⟩ := ht
  obtain ⟨hv0, hv1⟩ := hv
  obtain ⟨hs0, hs1⟩ := hs
  obtain ⟨hx0, hx1⟩ := hx
  obtain ⟨hy0, hy1⟩ := hy
  have hlt := hB.lt
  have c0 : w.cell? ⟨g, 0, none⟩ = some (.int .i64 t) := hB.cell 0
  have c1 : w.cell? ⟨g, 1, none⟩ = some (.int .i64 v) := hB.cell 1
  have c2 : w.cell? ⟨g, 2, none⟩ = some (.int .i64 s) := hB.cell 2
  have f0 := hB.free 0
  have f1 := hB.free 1
  have f2 := hB.free 2
  go_enter Try.func28, Try.ntmps28
  go_wp2_with fail
  go_region
  all_goals go_wp2_with fail
  exact bodyPost_ret (v := .agg #[.int .i64 (t + (s + x)), .int .i64 (v + y)]) (by simp [results, Try.results28, go_sem]) rfl ⟨rfl, ((((hB.set 2 _).set 0 _).set 1 _).alloc _).drew, grownDrew (grownAlloc (grownSet (grownSet (grownSet (grownRefl _ _) 2 _) 0 _) 1 _) _)⟩

theorem results_tmp4 {fn : Func} {t u v x : Tmp} (h : fn.results = #[.tmp t, .tmp u, .tmp v, .tmp x]) (tmps : Array Value) (P : Program) (w : World) :
    (results fn tmps).run P w = .ok (.tuple #[tmps.getD t undef, tmps.getD u undef, tmps.getD v undef, tmps.getD x undef]) w := by
  simp [results, h]

theorem putBoth_ok (ao : Option Addr) (cap : Nat) (l : List Bool) (x y : Int) (w : World) (hr : Sl w ao cap (l.map Value.bool)) (hl : l.length ≤ 100000) (h1 : zigOk x = true) (h2 : zigOk y = true) :
    Calls Try.prog 26 #[.slice ao l.length cap, .int .i64 x, .int .i64 y] w fun e w' =>
      ∃ a' G, e = .returned (.tuple #[.slice a' (l ++ (code 8 (foldN x) ++ code 8 (foldN y))).length G, .int .i64 0]) ∧ Sl w' a' G ((l ++ (code 8 (foldN x) ++ code 8 (foldN y))).map Value.bool) ∧ Below w.heap.size w w' ∧ Kin w.heap.size ao a' := by
  have p1 := fun W h => zput_ok ao cap l x W h (by omega) h1
  have hlen : (l ++ code 8 (foldN x)).length ≤ 100032 := by have := code_len_le 8 (foldN x); rw [List.length_append]; omega
  rw [← List.append_assoc]
  generalize l ++ code 8 (foldN x) = X at *
  have p2 := fun a G W h => zput_ok a G X y W h (by omega) h2
  generalize X ++ code 8 (foldN y) = Y at *
  go_enter Try.func26, Try.ntmps26
  go_wp2_with fail
  go_at_call 34
  refine (p1 _ hr).mono ?_
  rintro e w1 ⟨a1, G1, rfl, s1, b1, k1⟩
  go_wp2_with fail
  go_at_call 34
  refine (p2 _ _ _ s1).mono ?_
  rintro e w2 ⟨a2, G2, rfl, s2, b2, k2⟩
  go_wp2_with fail
  go_ret2
  exact ⟨_, _, rfl, s2, belowCall b1 b2, k1.trans k2 b1.size⟩

def bothN (b : List Bool) : Int × Int × List Bool × Int :=
  if zigF b ≠ 0 then (0, 0, [], zigF b) else if zigF (zigR b) ≠ 0 then (0, 0, [], zigF (zigR b)) else (zigN b, zigN (zigR b), zigR (zigR b), 0)

theorem takeBoth_any (ao : Option Addr) (cap : Nat) (b : List Bool) (w : World) (hr : Sl w ao cap (b.map Value.bool)) (hl : b.length ≤ 140737488355328) :
    Calls Try.prog 27 #[.slice ao b.length cap] w fun e w' =>
      ∃ a' G, e = .returned (.tuple #[.int .i64 (bothN b).1, .int .i64 (bothN b).2.1, .slice a' (bothN b).2.2.1.length G, .int .i64 (bothN b).2.2.2]) ∧ Sl w' a' G ((bothN b).2.2.1.map Value.bool) ∧ Below w.heap.size w w' ∧ Kin w.heap.size ao a' := by
  have p1 := ztake_kin ao cap b w hr hl
  have hlen := zigR_length b
  have p2 := fun a G W h => ztake_kin a G (zigR b) W h (by omega)
  unfold bothN
  by_cases h1 : zigF b = 0
  · rw [if_neg (fun h => h h1)]
    rw [h1] at p1
    by_cases h2 : zigF (zigR b) = 0
    · rw [if_neg (fun h => h h2)]
      rw [h2] at p2
      clear h1 h2 hlen
      generalize zigN b = n1 at *
      generalize zigR b = B1 at *
      generalize zigN B1 = n2 at *
      generalize zigR B1 = B2 at *
      go_enter Try.func27, Try.ntmps27
      go_wp2_with fail
      go_at_call 35
      refine p1.mono ?_
      rintro e w1 ⟨a1, G1, rfl, s1, b1, k1⟩
      go_wp2_with fail
      go_at_call 35
      refine (p2 _ _ _ s1).mono ?_
      rintro e w2 ⟨a2, G2, rfl, s2, b2, k2⟩
      go_wp2_with fail
      refine bodyPost_ret (results_tmp4 rfl _ _ _) rfl ?_
      exact ⟨_, _, rfl, s2, belowCall b1 b2, k1.trans k2 b1.size⟩
    · rw [if_pos h2]
      clear h1 hlen
      generalize zigN b = n1 at *
      generalize zigR b = B1 at *
      generalize zigN B1 = n2 at *
      generalize zigR B1 = B2 at *
      generalize zigF B1 = F2 at *
      go_enter Try.func27, Try.ntmps27
      go_wp2_with fail
      go_at_call 35
      refine p1.mono ?_
      rintro e w1 ⟨a1, G1, rfl, s1, b1, k1⟩
      go_wp2_with fail
      go_at_call 35
      refine (p2 _ _ _ s1).mono ?_
      rintro e w2 ⟨a2, G2, rfl, s2, b2, k2⟩
      go_wp2_with fail
      refine bodyPost_ret (results_tmp4 rfl _ _ _) rfl ?_
      exact ⟨none, 0, rfl, Sl.ofNil _, belowCall b1 b2, Kin.nil _ _⟩
  · rw [if_pos h1]
    clear p2 hlen
    generalize zigN b = n1 at *
    generalize zigR b = B1 at *
    generalize zigF b = F1 at *
    go_enter Try.func27, Try.ntmps27
    go_wp2_with fail
    go_at_call 35
    refine p1.mono ?_
    rintro e w1 ⟨a1, G1, rfl, s1, b1, k1⟩
    go_wp2_with fail
    refine bodyPost_ret (results_tmp4 rfl _ _ _) rfl ?_
    exact ⟨none, 0, rfl, Sl.ofNil _, b1, Kin.nil _ _⟩

end Go.Proofs.Ytpeeeealbfmklac
