/-
  The map literal of the reference's RecText: two words, looked up by their numbers.
-/
import Derived.Maps.OwnSet
import Derived.Maps.Views
import Derived.Maps.StringElems
import Derived.Lib.SliceRun
import Derived.Deep.DeepAppendWide
import Derived.Deep.RegionLaw
import Derived.Laws.CopyOwn
import Derived.Test.YtcjdpilmhlfmfaaGreatDoorP06
import Derived.Test.YtcjdpilmhlfmfaaGreatDoorP32
import Derived.Test.YtcjdpilmhlfmfaaGreatDoorP33
import Derived.Test.YtcjdpilmhlfmfaaGreatDoorP31
import Derived.Test.YtcjdpilmhlfmfaaGreatDoorP05
import Derived.Test.YtcjdpilmhlfmfaaGreatDoorP17
import Derived.Test.YtcjdpilmhlfmfaaGreatDoorP01
import Derived.Test.YtcjdpilmhlfmfaaGreatDoorP15
namespace Go.Proofs.YtcjdpilmhlfmfaaGreatDoor
open Go.RowKit Go.Maps

end Go.Proofs.YtcjdpilmhlfmfaaGreatDoor

/-
  The reference's RecText: the text of a record, or what is wrong with it.
-/
namespace Go.Proofs.YtcjdpilmhlfmfaaGreatDoor
open Go.RowKit

end Go.Proofs.YtcjdpilmhlfmfaaGreatDoor

/-
  The reference's PutOn, of a right disk.
-/
namespace Go.Proofs.YtcjdpilmhlfmfaaGreatDoor
open Go.RowKit
open Go.Lib (byteCells)

end Go.Proofs.YtcjdpilmhlfmfaaGreatDoor

/-
  The contracts of package disk, and of the reference, over disks in boxes: what they answer as it is laid into a box.
-/
namespace Go.Proofs.YtcjdpilmhlfmfaaGreatDoor
open Go.RowKit
open Go.Lib (byteCells)

def LaidR (W : World) (D : Dk) (L : List Rc) (E : Int) (e : Ending) (w' : World) : Prop :=
  ∃ (a1 : Option Addr) (n1 c1 : Nat) (a2 : Option Addr) (n2 c2 : Nat) (a3 : Option Addr) (n3 G3 : Nat) (l : List Lrc), e = .returned (.tuple #[.agg #[.slice a1 n1 c1, .slice a2 n2 c2], .slice a3 n3 G3, .int .i64 E]) ∧
    DkB (w'.alloc (.cells #[.slice a1 n1 c1, .slice a2 n2 c2] 27)) w'.heap.size a1 n1 c1 a2 n2 c2 D ∧ SlRec (w'.alloc (.cells #[.slice a1 n1 c1, .slice a2 n2 c2] 27)) a3 G3 l ∧ Hid (n3 = l.length) ∧ Hid (l.map (·.r) = L) ∧ Below W.heap.size W (w'.alloc (.cells #[.slice a1 n1 c1, .slice a2 n2 c2] 27))

theorem AnsR.laid {W w' : World} {D : Dk} {L : List Rc} {E : Int} {e : Ending} (h : AnsR W D L E e w') : LaidR W D L E e w' := by
  obtain ⟨a1, a2, a3, n1, n2, c1, c2, n3, G3, l, he, h1, h2, s1, s2, R, hl, b⟩ := h
  exact ⟨a1, n1, c1, a2, n2, c2, a3, n3, G3, l, he, ⟨Blk.laid w' [.slice a1 n1 c1, .slice a2 n2 c2] _ _ rfl, h1, h2, s1.alloc _, s2.alloc _⟩, R.sl.call (newB (Below.refl _ _) _), R.len, hl, newB b _⟩

variable {W : World} {g : Nat} {a1 : Option Addr} {n1 c1 : Nat} {a2 : Option Addr} {n2 c2 : Nat} {d : Dk}

end Go.Proofs.YtcjdpilmhlfmfaaGreatDoor

/-
  slices.Clone at rows, whatever is handed: a slice of the call's own with the same cells.
-/
namespace Go.Proofs.YtcjdpilmhlfmfaaGreatDoor
open Go.RowKit

/-- What append lays onto an empty literal: the elements, and zeros behind them. -/
theorem wpList_append_fresh {P : Program} (w : World) {ops : Array Oper} {rest : List Oper} {o : Oper} {a : Act} {Q : Exit → Act → World → Prop} (hgd : o.guard = none) (s x : Operand) (t : TypeId)
    (ho : o.op = .call { callee := .builtin .append, args := #[s, x], argTypes := #[t, t] })
    (e : TypeId) (i : TypeInfo) (z : Value) (ht : P.underlying t = some (.slice e)) (hi : P.info? e = some i) (hz : i.zero = some z) (hzs : z.cells.size = i.size) (hsz : 0 < i.size)
    (b : Addr) (hs : a.eval s = .slice (some b) 0 0)
    (ad : Addr) (m c : Nat) (news : List Value) (hx : a.eval x = .slice (some ad) m c) (hl : news.length = m * i.size) (hnews : ∀ j u, news[j]? = some u → w.cell? (ad.add j) = some u)
    (hm : 0 < m) (h63 : m ≤ maxLen) (hbytes : m * i.bytes ≤ 140737488355328)
    (h : ∀ G L w', Blk w' w.heap.size (news ++ L) e → (∀ v ∈ L, v ∈ z.cells.toList) → news.length + L.length = G * i.size → m ≤ G → G ≤ maxLen → w.grownBy w' none → wpList P ops Q rest (a.put o.dst (.slice (some ⟨w.heap.size, 0, none⟩) m G)) w') : wpList P ops Q (o :: rest) a w := by
  refine wpList_plain hgd fun K hK => ?_
  have h63' : ((0 + m : Nat) : Int) ≤ 9223372036854775807 := by unfold maxLen at h63; omega
  have hrun := run_append_grow (P := P) w t o.type e i z ht hi hz b 0 0 [] (by simp) (by simp) ad m c news hl hnews (by omega) h63' (growslice_fits (by omega) (by rw [Nat.zero_add]; exact hbytes))
  have hge := grownCap_ge w (0 + m) 0 e
  have hcm : grownCap w (0 + m) 0 e ≤ maxLen := grownCap_le_maxLen w (0 + m) 0 e (by rw [Nat.zero_add]; exact h63)
  rw [Nat.zero_add] at hrun hge hcm
  unfold Oper.wp
  simp only [execOp, ho, resolve, invoke, builtin, Sem.run_bind, Sem.run_pure, Result.andThen_ok, List.map_toArray, List.map_cons, List.map_nil, hs, hx, hrun]
  refine hK _ _ (h _ (Builtin.zeroCells z.cells (grownCap w m 0 e - m)).toList _ ?_ ?_ ?_ hge hcm ⟨rfl, rfl, rfl, by simp, fun k hk _ => heap_alloc_old w.drew _ hk⟩)
  · unfold Blk
    have hn := heap_alloc_new w.drew (.cells (([] : List Value).toArray ++ news.toArray ++ Builtin.zeroCells z.cells (grownCap w m 0 e - m)) e)
    rw [show w.drew.heap.size = w.heap.size from rfl] at hn
    rw [hn]
    congr 2
    apply Array.toList_inj.1
    simp
  · intro v hv
    simp only [Builtin.zeroCells, Array.toList_map, List.mem_map] at hv
    obtain ⟨j, _, rfl⟩ := hv
    have hj : j % z.cells.size < z.cells.size := Nat.mod_lt _ (by omega)
    rw [getElem!_pos z.cells _ hj]
    exact Array.getElem_mem_toList hj
  · rw [hl, Array.length_toList, size_zeroCells, hzs, ← Nat.add_mul]
    congr 1
    omega

end Go.Proofs.YtcjdpilmhlfmfaaGreatDoor

/-
  slices.Repeat of one number, three times: a block of the call's own; world.allClosed.
-/
namespace Go.Proofs.YtcjdpilmhlfmfaaGreatDoor
open Go.RowKit

set_option maxHeartbeats 1000000 in
set_option maxRecDepth 100000 in
theorem mul64_13 (w : World) : Calls Tryz.prog 176 #[.int .u64 1, .int .u64 3] w fun e w' => e = .returned (.tuple #[.int .u64 0, .int .u64 3]) ∧ w' = w := by
  go_enter Tryz.func176, Tryz.ntmps176
  go_wp2_with fail
  have e1 : bits BinOp.and IntKind.u64 1 4294967295 = 1 := by kernel_rfl
  have e3 : bits BinOp.and IntKind.u64 3 4294967295 = 3 := by kernel_rfl
  exact bodyPost_ret (v := .tuple #[.int .u64 0, .int .u64 3]) (by simp [results, Tryz.results176, go_sem, e1, e3]; kernel_rfl) rfl ⟨rfl, rfl⟩

set_option maxHeartbeats 1000000 in
set_option maxRecDepth 100000 in
theorem mul_13 (w : World) : Calls Tryz.prog 141 #[.int .u64 1, .int .u64 3] w fun e w' => e = .returned (.tuple #[.int .u64 0, .int .u64 3]) ∧ w' = w := by
  have c := fun W => mul64_13 W
  go_enter Tryz.func141, Tryz.ntmps141
  go_wp2_with fail
  go_at_call 176
  refine (c _).mono ?_
  rintro e w2 ⟨rfl, rfl⟩
  go_wp2_with fail
  exact bodyPost_ret (v := .tuple #[.int .u64 0, .int .u64 3]) (by simp [results, Tryz.results141, go_sem]) rfl ⟨rfl, rfl⟩

theorem infoIW : (Tryz.prog.info? 3).map (fun i => (i.zero, i.size, i.bytes)) = some (some (.int .i64 0), 1, 8) := by kernel_rfl

theorem sizeI : (Tryz.prog.info? 3).map (·.size) = some 1 := by kernel_rfl

set_option maxHeartbeats 1000000 in
set_option maxRecDepth 100000 in
theorem repeat3 (b : Nat) (w : World) (B : Blk w b [.int .i64 (-1)] 3) :
    Calls Tryz.prog 112 #[.slice (some ⟨b, 0, none⟩) 1 1, .int .i64 3] w fun e w' => ∃ g, e = .returned (.slice (some ⟨g, 0, none⟩) 3 3) ∧ Blk w' g [.int .i64 (-1), .int .i64 (-1), .int .i64 (-1)] 3 ∧ w.heap.size ≤ g ∧ Below w.heap.size w w' := by
  obtain ⟨i0, hi, hz0, hz1, hz2⟩ := info_parts infoIW
  have c := fun W => mul_13 W
  have lb := B.lt
  go_enter Tryz.func112, Tryz.ntmps112
  go_wp2_with fail
  go_at_call 141
  refine (c _).mono ?_
  rintro e w2 ⟨rfl, rfl⟩
  go_wp2_with (at_make; refine wpList_make_full _ rfl (.tmp 29) (.tmp 29) 28 rfl w2.heap.size 3 i0 (.int .i64 0) 1 Tryz.underlying28 hi hz0 hz1 _ _ _ _ 3 rfl rfl rfl rfl (by rw [hz2]; omega) (by unfold maxLen; omega) (Nat.le_refl _) ?_)
  intro w3 own grow
  have bel : Below w2.heap.size w2 w3 := (Below.refl _ _).grown grow (Nat.le_refl _) (fun k h => by cases h)
  obtain ⟨L, hL, BL⟩ := madeW own
  have BB := B.keep bel lb
  clear own grow
  generalize hg : w2.heap.size = g at *
  match L, hL with
  | [u0, u1, u2], _ =>
    have hs0 : ∀ j v, [Value.int .i64 (-1)][j]? = some v → w3.cell? ((⟨b, 0, none⟩ : Addr).add j) = some v := by
      intro j v hv
      rw [Addr.add_lit, Nat.zero_add, BB.cell]
      exact hv
    go_wp2_with (refine wpList_copy_splice rfl (.tmp 31) (.tmp 32) 28 28 rfl 3 Tryz.underlying28 sizeI _ _ 3 3 1 1 rfl rfl g 0 [u0, u1, u2] 3 BL [.int .i64 (-1)] rfl (fun _ => ⟨rfl, _, rfl, hs0⟩) (by simp) (by simp [Value.oneCell']) g w2 bel (Nat.le_refl _) ?_)
    intro w4 h4 bel4
    have B4 : Blk w4 g [.int .i64 (-1), u1, u2] 3 := h4.out
    clear h4 hs0 BL BB bel
    go_wp2_with fail
    refine wp_loop_rounds 3 ?_
    rw [rounds_succ]
    have hs1 : ∀ j v, [Value.int .i64 (-1)][j]? = some v → w4.cell? ((⟨g, 0, none⟩ : Addr).add j) = some v := by
      intro j v hv
      rw [Addr.add_lit, Nat.zero_add, B4.cell]
      match j, hv with
      | 0, hv => exact hv
      | j + 1, hv => simp at hv
    go_wp2_with fail
    have B4d : Blk w4.drew g [.int .i64 (-1), u1, u2] 3 := B4
    have hone : ∀ v ∈ [Value.int .i64 (-1)], v.oneCell' = true := by simp [Value.oneCell']
    have hfit : 1 + [Value.int .i64 (-1)].length ≤ [Value.int .i64 (-1), u1, u2].length := by simp
    have hmin : [Value.int .i64 (-1)].length = Nat.min 1 2 := by simp
    go_region_law (refine step_copy_splice (by rfl) (.tmp 41) (.tmp 44) 28 28 (by rfl) 3 Tryz.underlying28 sizeI (some ⟨g, 1, none⟩) (some ⟨g, 0, none⟩) 2 2 1 3 (by go_simp) (by go_simp) g 1 [.int .i64 (-1), u1, u2] 3 B4d [.int .i64 (-1)] hmin (fun _ => ⟨rfl, _, rfl, hs1⟩) hfit hone g w2 (belowDrew bel4) (Nat.le_refl _) ?_; intro w5 h5 bel5)
    all_goals (
      have B5 : Blk w5 g [.int .i64 (-1), .int .i64 (-1), u2] 3 := h5.out
      clear h5 hs1 B4d B4 bel4 hone hfit hmin
      go_wp2_with fail
      rw [rounds_succ]
      have hs2 : ∀ j v, [Value.int .i64 (-1)][j]? = some v → w5.cell? ((⟨g, 0, none⟩ : Addr).add j) = some v := by
        intro j v hv
        rw [Addr.add_lit, Nat.zero_add, B5.cell]
        match j, hv with
        | 0, hv => exact hv
        | j + 1, hv => simp at hv
      have hone : ∀ v ∈ [Value.int .i64 (-1)], v.oneCell' = true := by simp [Value.oneCell']
      have hfit : 2 + [Value.int .i64 (-1)].length ≤ [Value.int .i64 (-1), .int .i64 (-1), u2].length := by simp
      have hmin : [Value.int .i64 (-1)].length = Nat.min 2 1 := by simp
      have B5d : Blk w5.drew g [.int .i64 (-1), .int .i64 (-1), u2] 3 := B5
      go_wp2_with fail
      go_region_law (refine step_copy_splice (by rfl) (.tmp 41) (.tmp 44) 28 28 (by rfl) 3 Tryz.underlying28 sizeI (some ⟨g, 2, none⟩) (some ⟨g, 0, none⟩) 1 1 2 3 (by go_simp) (by go_simp) g 2 [.int .i64 (-1), .int .i64 (-1), u2] 3 B5d [.int .i64 (-1)] hmin (fun _ => ⟨rfl, _, rfl, hs2⟩) hfit hone g w2 (belowDrew bel5) (Nat.le_refl _) ?_; intro w6 h6 bel6)
      all_goals (
        have B6 : Blk w6 g [.int .i64 (-1), .int .i64 (-1), .int .i64 (-1)] 3 := h6.out
        clear h6 hs2 B5d B5 bel5 hone hfit hmin
        go_wp2_with fail
        rw [rounds_succ]
        go_wp2_with fail
        go_ret
        exact ⟨g, rfl, B6, by omega, by rw [hg]; exact bel6⟩))

/-- All readers closed. -/
theorem allClosed_any (w : World) :
    Calls Tryz.prog 69 #[] w fun e w' => ∃ g, e = .returned (.slice (some ⟨g, 0, none⟩) 3 3) ∧ Blk w' g [.int .i64 (-1), .int .i64 (-1), .int .i64 (-1)] 3 ∧ w.heap.size ≤ g ∧ Below w.heap.size w w' := by
  have B := Blk.laid w [.int .i64 (-1)] 3 _ rfl
  have bel := (Below.refl w.heap.size w).alloc (Nat.le_refl _) (.cells #[.int .i64 (-1)] 3)
  have c := fun W h => repeat3 w.heap.size W h
  go_enter Tryz.func69, Tryz.ntmps69
  go_wp2_with fail
  go_at_call 112
  refine (c _ B).mono ?_
  rintro e w2 ⟨g, rfl, BG, hg, b2⟩
  go_wp2_with fail
  go_ret
  exact ⟨g, rfl, BG, Nat.le_trans bel.size hg, belowCall bel b2⟩

end Go.Proofs.YtcjdpilmhlfmfaaGreatDoor
