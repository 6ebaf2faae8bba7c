/-
  slices.Chunk of numbers, three by three: its iterator, its maker; note.entriesOf.
-/
import Derived.Test.YthoclnjfbigdiaaDoorNNums
import Derived.RangeFuncNested
import Derived.RangeFuncBound
import Derived.RangeFuncCalls
import Derived.RangeFuncLeaves
import Derived.RangeFuncBox
import Derived.Shelf.Abstract
import Derived.Shelf.RegionOpen
import Derived.WalkKit
import Derived.OwnWalkIn
import Derived.TacticsInMore
import Derived.LoopNIn
import Derived.LoopIn
import Derived.Maps.AppendAt
namespace Go.Proofs.YthoclnjfbigdiaaDoor
open Go.RowKit Go.Shelf
attribute [local go_sem] Oper.semAt_some

/-- What a round keeps: what was there, and the two boxes that the iterator reads. -/
def Kc (n₀ Bs Bn : Nat) (W W' : World) : Prop := Below n₀ W W' ∧ W'.heap[Bs]? = W.heap[Bs]? ∧ W'.heap[Bn]? = W.heap[Bn]?

theorem Kc.refl (n₀ Bs Bn : Nat) (W : World) : Kc n₀ Bs Bn W W := ⟨Below.refl _ _, rfl, rfl⟩
theorem Kc.trans {n₀ Bs Bn : Nat} {A B C : World} (h : Kc n₀ Bs Bn A B) (k : Kc n₀ Bs Bn B C) : Kc n₀ Bs Bn A C := ⟨h.1.trans k.1, k.2.1.trans h.2.1, k.2.2.trans h.2.2⟩

theorem chunks (m k : Nat) (pre : List (Fin m)) (h : pre.map Fin.val = List.range k) : pre.length = k := by
  have := congrArg List.length h
  simpa using this

set_option maxRecDepth 100000 in
set_option maxHeartbeats 2000000 in
theorem chunk1_in (F : Fence) (n : Nat) (hf : F.fn 82) (hro : F.round = none) (hn : 1 ≤ n) (l Bs Bn n₀ b off m m3 cap : Nat) (hm3 : m3 = m * 3) (hm : m3 ≤ 1000000) (hc3 : m3 ≤ cap) (hcap : cap ≤ 9223372036854775807) (J Jx : List (Fin m) → World → Prop) (W : World) (hJab : AbidesFrom W.heap.size J)
    (hY : ∀ pre x W, J pre W → pre.length < m → YieldAt F (n - 1) Tryd.prog l #[.slice (some ⟨b, off + x.val * 3, none⟩) 3 3] W fun e W' =>
      (e = .returned (.bool true) ∧ J (pre ++ [x]) W' ∧ Kc n₀ Bs Bn W W') ∨ (e = .returned (.bool false) ∧ Jx (pre ++ [x]) W'))
    (hBs : Boxed W Bs 51 (.slice (some ⟨b, off, none⟩) m3 cap)) (hBn : Boxed W Bn 3 (.int .i64 3)) (h0 : J [] W) :
    CallsIn F n Tryd.prog 82 #[.func (.yield l) #[] #[], .pointer (some ⟨Bs, 0, none⟩), .pointer (some ⟨Bn, 0, none⟩)] W fun e W' => (∃ v, e = .returned v) ∧
      ((∃ ys : List (Fin m), ys.map Fin.val = List.range m ∧ J ys W') ∨ (∃ pre, True ∧ Jx pre W')) := by
  refine callsIn_of_wp Tryd.func82 rfl hf ?_ hro
  simp only [Tryd.ntmps82, List.size_toArray, List.length_cons, List.length_nil, Nat.reduceAdd, Nat.reduceSub, Array.replicate_succ, Array.replicate_zero, List.push_toArray, List.append_toArray, List.nil_append, List.cons_append]
  gi_wp2
  gi_loopw [4] (fun i wr => ∃ (k k3 : Nat) (pre : List (Fin m)), k ≤ m ∧ k3 = k * 3 ∧ i = .int .i64 k3 ∧ pre.map Fin.val = List.range k ∧ J pre wr ∧ Kc n₀ Bs Bn W wr)
    (fun i _ => m3 - (intOf i).toNat)
  case atStart => exact ⟨0, 0, [], Nat.zero_le _, rfl, rfl, rfl, h0, Kc.refl _ _ _ _⟩
  case round =>
    obtain ⟨k, k3, pre, hk, hk3, rfl, hpre, hJs, hK⟩ := hrel
    have cs : wr.cell? ⟨Bs, 0, none⟩ = some (.slice (some ⟨b, off, none⟩) m3 cap) := (show Boxed wr Bs _ _ from hK.2.1.trans hBs).cell
    have cn : wr.cell? ⟨Bn, 0, none⟩ = some (.int .i64 3) := (show Boxed wr Bn _ _ from hK.2.2.trans hBn).cell
    by_cases hlt : k < m
    · have q1 : (k3 : Int) < m3 := by omega
      have q2 : (0 : Int) ≤ k3 := by omega
      have q3 : (k3 : Int) ≤ m3 := by omega
      have q4 : (m3 : Int) ≤ cap := by omega
      have q5 : (k3 : Int) ≤ cap := by omega
      have q6 : (3 : Int) ≤ ((m3 - k3 : Nat) : Int) := by omega
      have q7 : ¬ ((m3 - k3 : Nat) : Int) < 3 := by omega
      have q8 : (k3 : Int) + 3 ≤ cap := by omega
      have q9 : (k3 : Int) + 3 ≤ m3 := by omega
      have q10 : (0 : Int) ≤ (k3 : Int) + 3 := by omega
      have q11 : (k3 : Int) ≤ (k3 : Int) + 3 := by omega
      have u1 : IntKind.i64.wrap ((k3 : Int) + 3) = (k3 : Int) + 3 := by rw [IntKind.wrap_i64]; omega
      have t1 : ((k3 : Int) + 3).toNat - k3 = 3 := by omega
      have mixed : Tryd.prog.follows .mixedOrders = true := by kernel_rfl
      have gd : wr.grownBy wr.drew none := ⟨rfl, rfl, rfl, Nat.le_refl _, fun k hk _ => rfl⟩
      have hJ2 : J pre wr.drew := hJab _ _ _ none hJs gd (fun r e => by cases e)
      obtain ⟨fn, tmps, assign, body, hy, hR⟩ := hY pre ⟨k, hlt⟩ wr.drew hJ2 (by rw [chunks m k pre hpre]; exact hlt)
      rw [← hk3] at hy
      replace hm3 := Lib.hid hm3
      replace hk3 := Lib.hid hk3
      have hmin : min (3 : Int) ((m3 - k3 : Nat) : Int) = 3 := by omega
      gi_wp2
      gi_region_o
      all_goals gi_wp2
      all_goals (
        refine hR.mono ?_
        rintro e W3 (⟨rfl, hJ3, hk4⟩ | ⟨rfl, hJx3⟩)
        · have hK3 : Kc n₀ Bs Bn W W3 := hK.trans (Kc.trans ⟨belowDrew (Below.refl _ _), rfl, rfl⟩ hk4)
          have cs3 : W3.cell? ⟨Bs, 0, none⟩ = some (.slice (some ⟨b, off, none⟩) m3 cap) := (show Boxed W3 Bs _ _ from hK3.2.1.trans hBs).cell
          have cn3 : W3.cell? ⟨Bn, 0, none⟩ = some (.int .i64 3) := (show Boxed W3 Bn _ _ from hK3.2.2.trans hBn).cell
          gi_wp2
          go_roundw
          case rel => exact ⟨k + 1, k3 + 3, pre ++ [⟨k, hlt⟩], hlt, by rw [hk3.out, Nat.succ_mul], by go_num, by rw [List.map_append, hpre, List.range_succ]; rfl, hJ3, hK3⟩
          case measure => simp [intOf]; omega
        · gi_wp2
          refine bodyPost_ret (results_none rfl _ _ _) rfl ?_
          exact ⟨⟨_, rfl⟩, .inr ⟨_, trivial, hJx3⟩⟩)
    · obtain rfl : k = m := by omega
      have q1 : ¬ (k3 : Int) < m3 := by omega
      replace hm3 := Lib.hid hm3
      replace hk3 := Lib.hid hk3
      gi_wp2
      go_end0
      exact ⟨⟨_, rfl⟩, .inl ⟨_, hpre, hJs⟩⟩

end Go.Proofs.YthoclnjfbigdiaaDoor
