/-
  slices.Chunk's maker and contract; note.entriesOf.
-/
import Derived.Deep.AppendLies
import Derived.Lib.AppendZeros
import Derived.Deep.RegionHeld
import Derived.Test.YtabeihkfjlmepaaDoorP04
import Derived.Test.YtabeihkfjlmepaaDoorP01
import Derived.Test.YtabeihkfjlmepaaDoorP02
import Derived.Test.YtabeihkfjlmepaaDoorP03
namespace Go.Proofs.YtabeihkfjlmepaaDoor
open Go.RowKit Go.Shelf
attribute [local go_sem] Oper.semAt_some

/-- Entries of numbers, three by three. -/
def chunkL : List Int → List Nt
  | a :: b :: c :: r => (a, b, c) :: chunkL r
  | _ => []

def ent (ns : List Int) (j : Nat) : Nt := (ns.getD (j * 3) 0, ns.getD (j * 3 + 1) 0, ns.getD (j * 3 + 2) 0)

theorem chunk_range : ∀ (m : Nat) (ns : List Int), ns.length = m * 3 → (List.range m).map (ent ns) = chunkL ns
  | 0, [], _ => rfl
  | 0, _ :: _, h => by simp at h
  | m + 1, [], h => by simp at h
  | m + 1, [_], h => by simp at h; omega
  | m + 1, [_, _], h => by simp at h; omega
  | m + 1, a :: b :: c :: r, h => by
    have ih := chunk_range m r (by simp at h; omega)
    rw [List.range_succ_eq_map, List.map_cons, List.map_map, chunkL, ← ih]
    congr 1
    refine List.map_congr_left (fun j _ => ?_)
    simp [ent, Function.comp, Nat.succ_mul]

theorem infoE : (Tryd.prog.info? 59).map (fun i => (i.zero, i.size, i.bytes)) = some (some (.agg #[.int .i64 0, .int .i64 0, .int .i64 0]), 3, 24) := by kernel_rfl

set_option maxRecDepth 100000 in
set_option maxHeartbeats 1000000 in
theorem chunk0_in (F : Fence) (n : Nat) (hf : F.fn 82) (hro : F.round = none) (l Bs Bn cap : Nat) (a : Option Addr) (J : List (Fin 0) → World → Prop) (W : World) (hBs : W.cell? ⟨Bs, 0, none⟩ = some (.slice a 0 cap)) (h0 : J [] W) :
    CallsIn F n Tryd.prog 82 #[.func (.yield l) #[] #[], .pointer (some ⟨Bs, 0, none⟩), .pointer (some ⟨Bn, 0, none⟩)] W fun e W' => (∃ v, e = .returned v) ∧ J [] W' := by
  refine callsIn_of_wp Tryd.func82 rfl hf ?_ hro
  simp only [Tryd.ntmps82, List.size_toArray, List.length_cons, List.length_nil, Nat.reduceAdd, Nat.reduceSub, Array.replicate_succ, Array.replicate_zero, List.push_toArray, List.append_toArray, List.nil_append, List.cons_append]
  gi_wp2
  gi_loopw [4] (fun i wr => i = .int .i64 0 ∧ J [] wr ∧ wr = W) (fun _ _ => 0)
  case atStart => exact ⟨rfl, h0, rfl⟩
  case round =>
    obtain ⟨rfl, hJs, rfl⟩ := hrel
    gi_wp2
    go_end0
    exact ⟨⟨_, rfl⟩, hJs⟩

set_option maxRecDepth 100000 in
set_option maxHeartbeats 1000000 in
theorem chunk_in (F : Fence) (n : Nat) (hf : F.fn 64) (hro : F.round = none) (a : Option Addr) (len cap : Nat) (w : World) :
    CallsIn F n Tryd.prog 64 #[.slice a len cap, .int .i64 3] w fun e w' => e = .returned (.func (.func 82) #[] #[.pointer (some ⟨w.heap.size, 0, none⟩), .pointer (some ⟨w.heap.size + 1, 0, none⟩)]) ∧ w' = (w.alloc (.cells #[.slice a len cap] 51)).alloc (.cells #[.int .i64 3] 3) := by
  refine callsIn_of_wp Tryd.func64 rfl hf ?_ hro
  simp only [Tryd.ntmps64, List.size_toArray, List.length_cons, List.length_nil, Nat.reduceAdd, Nat.reduceSub, Array.replicate_succ, Array.replicate_zero, List.push_toArray, List.append_toArray, List.nil_append, List.cons_append]
  gi_wp2
  go_ret
  exact ⟨rfl, rfl⟩

theorem chunk_stops (F : Fence) (n : Nat) (hf : F.fn 82) (hro : F.round = none) (hn : 1 ≤ n) (Bs Bn n₀ b off m m3 cap : Nat) (hm3 : m3 = m * 3) (hm : m3 ≤ 1000000) (hc3 : m3 ≤ cap) (hcap : cap ≤ 9223372036854775807) (w : World) (hBs : Boxed w Bs 51 (.slice (some ⟨b, off, none⟩) m3 cap)) (hBn : Boxed w Bn 3 (.int .i64 3)) :
    SeqStopsK F n Tryd.prog 82 #[.pointer (some ⟨Bs, 0, none⟩), .pointer (some ⟨Bn, 0, none⟩)] (fun x : Fin m => #[Value.slice (some ⟨b, off + x.val * 3, none⟩) 3 3]) (Kc n₀ Bs Bn) (fun ys => ys.map Fin.val = List.range m) (fun _ => True) m w := fun l J Jx W hW hJ _ hY h0 =>
  chunk1_in F n hf hro hn l Bs Bn n₀ b off m m3 cap hm3 hm hc3 hcap J Jx W hJ hY ((hW.block Bs hBs.lt).trans hBs) ((hW.block Bn hBn.lt).trans hBn) h0

theorem chunk_stops0 (F : Fence) (n : Nat) (hf : F.fn 82) (hro : F.round = none) (Bs Bn n₀ b off cap : Nat) (a : Option Addr) (w : World) (hBs : Boxed w Bs 51 (.slice a 0 cap)) :
    SeqStopsK F n Tryd.prog 82 #[.pointer (some ⟨Bs, 0, none⟩), .pointer (some ⟨Bn, 0, none⟩)] (fun x : Fin 0 => #[Value.slice (some ⟨b, off + x.val * 3, none⟩) 3 3]) (Kc n₀ Bs Bn) (fun ys => ys.map Fin.val = List.range 0) (fun _ => True) 0 w := fun l J _ W hW _ _ _ h0 =>
  (chunk0_in F n hf hro l Bs Bn cap a J W (show Boxed W Bs _ _ from (hW.block Bs hBs.lt).trans hBs).cell h0).mono fun _ _ ⟨he, hj⟩ => ⟨he, .inl ⟨[], rfl, hj⟩⟩

def frE (a : Option Addr) (n cap B b o2 : Nat) (V : Nat → Value) : Act :=
  { tmps := #[.slice a n cap, undef, .slice none 0 0, .pointer (some ⟨B, 0, none⟩), .slice (some ⟨b, o2, none⟩) 3 3, .slice a n cap, .func (.func 82) #[] #[.pointer (some ⟨B + 1, 0, none⟩), .pointer (some ⟨B + 2, 0, none⟩)], .slice (some ⟨b, o2, none⟩) 3 3, V 0, V 1, V 2, V 3, V 4, V 5, V 6, V 7, V 8, V 9, V 10, V 11, V 12, undef], defers := [] }

def putV (V : Nat → Value) (i : Nat) (v : Value) : Nat → Value := fun k => if k = i then v else V k

def valsE (v0 : Value) (b o2 q : Nat) (e0 e1 e2 : Int) (v1 : Value) : Nat → Value → Prop
  | 0, v => v = v0
  | 1, v => v = .slice (some ⟨b, o2, none⟩) 3 3
  | 2, v => v = .pointer (some ⟨b, o2, none⟩)
  | 3, v => v = .int .i64 e0
  | 4, v => v = .slice (some ⟨b, o2, none⟩) 3 3
  | 5, v => v = .pointer (some ⟨b, o2 + 1, none⟩)
  | 6, v => v = .int .i64 e1
  | 7, v => v = .slice (some ⟨b, o2, none⟩) 3 3
  | 8, v => v = .pointer (some ⟨b, o2 + 2, none⟩)
  | 9, v => v = .int .i64 e2
  | 10, v => v = .agg #[.int .i64 e0, .int .i64 e1, .int .i64 e2]
  | 11, v => v = .slice (some ⟨q, 0, none⟩) 1 1
  | 12, v => v = v1
  | _, _ => True

theorem valsE_put {P : Nat → Value → Prop} {d : Nat → Bool} {V : Nat → Value} (h : ∀ i, d i = true → P i (V i)) (i : Nat) (v : Value) (hv : P i v) : ∀ k, (k == i || d k) = true → P k (putV V i v k) := by
  intro k hk
  unfold putV
  by_cases e : k = i
  · subst e
    rw [if_pos rfl]
    exact hv
  · rw [if_neg e]
    exact h k (by simpa [e] using hk)

def stE (Wd Wa w1 wF : World) (d : Nat → Bool) : World := if d 13 then wF else if d 12 then w1 else if d 11 then Wa else Wd

theorem stE_same (Wd Wa w1 wF : World) (d : Nat → Bool) (i : Nat) (h1 : i ≠ 11) (h2 : i ≠ 12) (h3 : i ≠ 13) : stE Wd Wa w1 wF (fun k => k == i || d k) = stE Wd Wa w1 wF d := by
  unfold stE
  simp [Ne.symm h1, Ne.symm h2, Ne.symm h3]


theorem Kc.putObj {n₀ Bs Bn : Nat} {w : World} (hn : n₀ ≤ w.heap.size) (h1 : Bs < w.heap.size) (h2 : Bn < w.heap.size) (W : World) (l : Nat) (o o' : Obj) (hl : w.heap.size ≤ l) (h : W.heap[l]? = some o) (hc : o.isCells = false) (hw : o.isWalk = false) : Kc n₀ Bs Bn W (W.putObj l o') := by
  have g := grownBy_putObj' W l o'
  have lt := (Array.getElem?_eq_some_iff.1 h).1
  exact ⟨belowK_b hn W l o o' hl h hc hw, g.block Bs (by omega) (by intro e; cases e; omega), g.block Bn (by omega) (by intro e; cases e; omega)⟩

set_option maxRecDepth 100000 in
set_option maxHeartbeats 4000000 in
theorem entries_gen (ns : List Int) (m b off n cap : Nat) (a : Option Addr) (w : World) (hm : m ≤ 100000)
    (hcell : ∀ j, j < m * 3 → w.cell? ⟨b, off + j, none⟩ = some (.int .i64 (ns.getD j 0))) (hb : m ≠ 0 → b < w.heap.size)
    (hs : ∀ W : World, Boxed W (w.heap.size + 1) 51 (.slice a n cap) → Boxed W (w.heap.size + 2) 3 (.int .i64 3) → SeqStopsK Fence.wide 4 Tryd.prog 82 #[.pointer (some ⟨w.heap.size + 1, 0, none⟩), .pointer (some ⟨w.heap.size + 2, 0, none⟩)] (fun x : Fin m => #[Value.slice (some ⟨b, off + x.val * 3, none⟩) 3 3]) (Kc w.heap.size (w.heap.size + 1) (w.heap.size + 2)) (fun ys => ys.map Fin.val = List.range m) (fun _ => True) m W) :
    Calls Tryd.prog 50 #[.slice a n cap] w fun e w' => ∃ v, e = .returned v ∧ w'.ownsRow w.heap.size 59 3 v m (((List.range m).map (ent ns)).flatMap ec) ∧ Below w.heap.size w w' := by
  obtain ⟨i0, hi, hz0, hz1, hz2⟩ := info_parts infoE
  refine (callsIn_wide (n := 5)).1 ?_
  refine callsIn_of_wp_marks Tryd.func50 rfl trivial ?_ rfl
  simp only [Tryd.ntmps50, List.size_toArray, List.length_cons, List.length_nil, Nat.reduceAdd, Nat.reduceSub, Array.replicate_succ, Array.replicate_zero, List.push_toArray, List.append_toArray, List.nil_append, List.cons_append]
  gi_wp2
  refine ⟨trivial, ?_⟩
  refine (chunk_in Fence.wide 4 trivial rfl _ _ _ _).mono ?_
  rintro e w' ⟨rfl, rfl⟩
  gi_wp2
  have bO := ((Boxed.new w 22 (.slice none 0 0)).alloc (.cells #[.slice a n cap] 51)).alloc (.cells #[.int .i64 3] 3)
  have bS := (Boxed.new (w.alloc (.cells #[.slice none 0 0] 22)) 51 (.slice a n cap)).alloc (.cells #[.int .i64 3] 3)
  have bN := Boxed.new ((w.alloc (.cells #[.slice none 0 0] 22)).alloc (.cells #[.slice a n cap] 51)) 3 (.int .i64 3)
  rw [World.size_alloc] at bS
  rw [World.size_alloc, World.size_alloc] at bN
  have hB0 : Below w.heap.size w (((w.alloc (.cells #[.slice none 0 0] 22)).alloc (.cells #[.slice a n cap] 51)).alloc (.cells #[.int .i64 3] 3)) := newB (newB (newB (Below.refl _ w) _) _) _
  have hsz : (((w.alloc (.cells #[.slice none 0 0] 22)).alloc (.cells #[.slice a n cap] 51)).alloc (.cells #[.int .i64 3] 3)).heap.size = w.heap.size + 3 := by simp
  generalize ((w.alloc (.cells #[.slice none 0 0] 22)).alloc (.cells #[.slice a n cap] 51)).alloc (.cells #[.int .i64 3] 3) = W3 at *
  have h15 : 1 ≤ 5 := by decide
  refine wpIn_rangeFunc_ownG (α := Fin m) (ps := #[7]) rfl h15 (gf := 82) (lb := #[.pointer (some ⟨w.heap.size + 1, 0, none⟩), .pointer (some ⟨w.heap.size + 2, 0, none⟩)]) rfl trivial (enters_of Tryd.func82 (by kernel_rfl) rfl)
    (hs W3 bS bN) Kc.trans (Kc.putObj (w := W3) (by omega) (by omega) (by omega)) (Below.refl _ _) (fun _ => rfl)
    (fun (pre : List (Fin m)) W => (∃ v, Boxed W w.heap.size 22 v ∧ W.ownsRow w.heap.size 59 3 v pre.length ((pre.map (fun x => ent ns x.val)).flatMap ec) ∧ True) ∧ (Boxed W (w.heap.size + 1) 51 (.slice a n cap) ∧ Boxed W (w.heap.size + 2) 3 (.int .i64 3)) ∧ Below w.heap.size w W)
    (fun _ _ _ => False)
    (OwnFrom.and (Own.from (holdsRow_own w.heap.size w.heap.size 22 59 3 (fun pre : List (Fin m) => pre.length) (fun pre : List (Fin m) => (pre.map (fun x => ent ns x.val)).flatMap ec) (fun _ _ => True)) _) (OwnFrom.and (OwnFrom.and (Own.from (boxed_own _ _ (fun _ => .slice a n cap)) _) (Own.from (boxed_own _ _ (fun _ => .int .i64 3)) _)) (ownFrom_below (Nat.le_refl _) (by omega))))
    (fun _ _ _ _ _ hs _ _ => hs)
    ⟨⟨_, bO, World.ownsRow_nil _ _ _ _, trivial⟩, ⟨bS, bN⟩, hB0⟩
    (fun x : Fin m => { tmps := #[.slice a n cap, undef, .slice none 0 0, .pointer (some ⟨w.heap.size, 0, none⟩), .slice (some ⟨b, off + x.val * 3, none⟩) 3 3, .slice a n cap, .func (.func 82) #[] #[.pointer (some ⟨w.heap.size + 1, 0, none⟩), .pointer (some ⟨w.heap.size + 2, 0, none⟩)], .slice (some ⟨b, off + x.val * 3, none⟩) 3 3, undef, undef, undef, undef, undef, undef, undef, undef, undef, undef, undef, undef, undef, undef], defers := [] }) ?assign ?body ?done ?stop
  case assign =>
    intro l x W K hK
    gi_wp2
    exact hK
  case body =>
    rintro l pre x W ⟨⟨v, hv, hrow, -⟩, ⟨hS, hN⟩, hB⟩ hlt
    have mixed : Tryd.prog.follows .mixedOrders = true := by kernel_rfl
    have hx3 : x.val * 3 + 2 < m * 3 := by have := x.isLt; omega
    have hbl : b < w.heap.size := hb (by have := x.isLt; omega)
    have c0 := (hB.cell (p := ⟨b, off + x.val * 3, none⟩) hbl).trans (hcell (x.val * 3) (by omega))
    have c1 := (hB.cell (p := ⟨b, off + x.val * 3 + 1, none⟩) hbl).trans (hcell (x.val * 3 + 1) (by omega))
    have c2 := (hB.cell (p := ⟨b, off + x.val * 3 + 2, none⟩) hbl).trans (hcell (x.val * 3 + 2) (by omega))
    have hent : ent ns x.val = (ns.getD (x.val * 3) 0, ns.getD (x.val * 3 + 1) 0, ns.getD (x.val * 3 + 2) 0) := rfl
    generalize ns.getD (x.val * 3) 0 = e0 at *
    generalize ns.getD (x.val * 3 + 1) 0 = e1 at *
    generalize ns.getD (x.val * 3 + 2) 0 = e2 at *
    obtain ⟨ao, G, rfl⟩ : ∃ ao G, v = .slice ao pre.length G := by
      rcases hrow.2 with ⟨h, h'⟩ | ⟨g, cap', cur, h, _⟩
      · exact ⟨none, 0, by rw [h, h']⟩
      · exact ⟨_, _, h⟩
    have hcO := hv.cell
    have hD : Below W.heap.size W W.drew := belowDrew (Below.refl _ _)
    have hrowD := ownCall hrow hD
    have hvD : Boxed W.drew w.heap.size 22 (.slice ao pre.length G) := hv
    obtain ⟨g7, G7, w1, hrun, own1, grow1, -, lt1⟩ := run_append_lies (P := Tryd.prog) (W.drew.alloc (.cells #[.int .i64 e0, .int .i64 e1, .int .i64 e2] 59)) 22 22 w.heap.size 59 i0 _ 3 24 Tryd.underlying22 hi hz0 hz1 hz2 rfl (by decide) (.slice ao pre.length G) pre.length _ (hrowD.alloc _) ⟨W.heap.size, 0, none⟩ 1 1 [.int .i64 e0, .int .i64 e1, .int .i64 e2] rfl (World.news_of_block (cs := #[.int .i64 e0, .int .i64 e1, .int .i64 e2]) (t := 59) (fr := (0, 0)) (heap_alloc_new W.drew _)) (by simp [Value.oneCell']) (by decide) (by unfold maxLen; omega) (by omega) (by have := hB.size; simp; omega) _ rfl
    obtain ⟨hv1, hv2, hr2, hk2, hb2⟩ := hvD.appended (by decide) hrowD hB.size (Nat.le_refl _) own1 grow1
    have cw1 := hv1.cell
    have fw1 := hv1.frozen
    have kS : some (w.heap.size + 1) ≠ (Value.slice ao pre.length G).ownBlock := hS.not_row (by decide) hrow
    have kN : some (w.heap.size + 2) ≠ (Value.slice ao pre.length G).ownBlock := hN.not_row (by decide) hrow
    have hS1 : Boxed w1 (w.heap.size + 1) 51 (.slice a n cap) := ((show Boxed W.drew _ _ _ from hS).alloc _).kept grow1 kS
    have hN1 : Boxed w1 (w.heap.size + 2) 3 (.int .i64 3) := ((show Boxed W.drew _ _ _ from hN).alloc _).kept grow1 kN
    have hS2 := hS1.other (B' := w.heap.size) (by omega) (.slice (some ⟨g7, 0, none⟩) (pre.length + 1) G7)
    have hN2 := hN1.other (B' := w.heap.size) (by omega) (.slice (some ⟨g7, 0, none⟩) (pre.length + 1) G7)
    have fin : ∀ W', W' = w1.setCell ⟨w.heap.size, 0, none⟩ (.slice (some ⟨g7, 0, none⟩) (pre.length + 1) G7) → KeepsFrom W3.heap.size W W' ∧ Kc w.heap.size (w.heap.size + 1) (w.heap.size + 2) W W' ∧ ((∃ v, Boxed W' w.heap.size 22 v ∧ W'.ownsRow w.heap.size 59 3 v (pre ++ [x]).length (((pre ++ [x]).map (fun x => ent ns x.val)).flatMap ec) ∧ True) ∧ (Boxed W' (w.heap.size + 1) 51 (.slice a n cap) ∧ Boxed W' (w.heap.size + 2) 3 (.int .i64 3)) ∧ Below w.heap.size w W') := by
      rintro W' rfl
      have bb : Below w.heap.size W _ := (hD.mono hB.size).trans hb2
      refine ⟨((KeepsOthers.drew W).trans hk2).from _, ⟨bb, hS2.trans hS.symm, hN2.trans hN.symm⟩, ⟨_, hv2, ?_, trivial⟩, ⟨hS2, hN2⟩, hB.trans bb⟩
      rw [List.length_append, List.map_append, List.flatMap_append]
      simpa [hent, ec] using hr2
    clear hs hS1 hN1 hS2 hN2 hv1 hv2 hr2 hk2 hb2 own1 grow1 kS kN hrowD hvD hrow hS hN
    gi_wp2
    have cOa : (W.drew.alloc (.cells #[.int .i64 e0, .int .i64 e1, .int .i64 e2] 59)).cell? ⟨w.heap.size, 0, none⟩ = some (.slice ao pre.length G) := (World.cell?_alloc_some W.drew _ _ (by rw [show W.drew.cell? ⟨w.heap.size, 0, none⟩ = _ from hcO]; rfl)).trans hcO
    refine wpIn_region_inv (by kernel_rfl) (by kernel_rfl) (mild_of (by kernel_rfl)) (fun d a' W' => ∃ V, a' = frE a n cap w.heap.size b (off + x.val * 3) V ∧ (∀ i, d i = true → valsE (.slice ao pre.length G) b (off + x.val * 3) W.heap.size e0 e1 e2 (.slice (some ⟨g7, 0, none⟩) (pre.length + 1) G7) i (V i)) ∧ W' = stE W.drew (W.drew.alloc (.cells #[.int .i64 e0, .int .i64 e1, .int .i64 e2] 59)) w1 (w1.setCell ⟨w.heap.size, 0, none⟩ (.slice (some ⟨g7, 0, none⟩) (pre.length + 1) G7)) d) ?step ?fin ?start
    case start => exact ⟨fun _ => undef, rfl, fun _ h => Bool.noConfusion h, rfl⟩
    case fin =>
      intro d a' W' hall inv
      obtain ⟨V, rfl, _, hW⟩ := inv
      have h13 : d 13 = true := hall 13 (by decide)
      unfold stE at hW
      rw [if_pos h13] at hW
      subst hW
      unfold frE
      gi_wp2
      exact fin _ rfl
    case step =>
      intro i o d a' W' hi' ho hd hall down inv K' hK
      obtain ⟨V, rfl, hv, hW⟩ := inv
      have HW := hide hW
      clear hW
      have key : i = 0 ∨ i = 1 ∨ i = 2 ∨ i = 3 ∨ i = 4 ∨ i = 5 ∨ i = 6 ∨ i = 7 ∨ i = 8 ∨ i = 9 ∨ i = 10 ∨ i = 11 ∨ i = 12 ∨ i = 13 := by
        have : i < 14 := hi'
        omega
      clear hi'
      rcases key with rfl | rfl | rfl | rfl | rfl | rfl | rfl | rfl | rfl | rfl | rfl | rfl | rfl | rfl
      · obtain rfl := Option.some.inj ho
        rw [if_pos (by rfl)]
        have h12 : d 12 = false := no down 12 _ rfl ⟨0, .data⟩ (by simp) rfl hd
        have h13 : d 13 = false := no down 13 _ rfl ⟨12, .data⟩ (by simp) rfl h12
        have ec' : W'.cell? ⟨w.heap.size, 0, none⟩ = some (.slice ao pre.length G) := by
          rw [HW.out]
          unfold stE
          rw [h13, h12]
          cases d 11
          · exact hcO
          · exact cOa
        have lB' : w.heap.size < W'.heap.size := World.block_lt_of_cell? _ _ ec'
        unfold frE
        go_simp
        refine hK _ _ ⟨putV V 0 _, ?_, valsE_put hv 0 _ rfl, by rw [HW.out, stE_same _ _ _ _ _ _ (by decide) (by decide) (by decide)]⟩
        unfold frE putV
        simp
      · obtain rfl := Option.some.inj ho
        rw [if_pos (by rfl)]
        unfold frE
        go_simp
        refine hK _ _ ⟨putV V 1 _, ?_, valsE_put hv 1 _ rfl, by rw [HW.out, stE_same _ _ _ _ _ _ (by decide) (by decide) (by decide)]⟩
        unfold frE putV
        simp
      · obtain rfl := Option.some.inj ho
        rw [if_pos (by rfl)]
        have q1 : V 1 = .slice (some ⟨b, off + x.val * 3, none⟩) 3 3 := hv 1 (hall ⟨1, .data⟩ (by simp) rfl)
        unfold frE
        rw [q1]
        go_simp
        refine hK _ _ ⟨putV V 2 _, ?_, valsE_put hv 2 _ rfl, by rw [HW.out, stE_same _ _ _ _ _ _ (by decide) (by decide) (by decide)]⟩
        unfold frE putV
        simp [q1]
      · obtain rfl := Option.some.inj ho
        rw [if_pos (by rfl)]
        have q2 : V 2 = .pointer (some ⟨b, off + x.val * 3, none⟩) := hv 2 (hall ⟨2, .data⟩ (by simp) rfl)
        have h10 : d 10 = false := no down 10 _ rfl ⟨3, .data⟩ (by simp) rfl hd
        have h11 : d 11 = false := no down 11 _ rfl ⟨10, .data⟩ (by simp) rfl h10
        have h12 : d 12 = false := no down 12 _ rfl ⟨11, .data⟩ (by simp) rfl h11
        have h13 : d 13 = false := no down 13 _ rfl ⟨12, .data⟩ (by simp) rfl h12
        have ec' : W'.cell? ⟨b, off + x.val * 3, none⟩ = some (.int .i64 e0) := by
          rw [HW.out]
          unfold stE
          rw [h13, h12, h11]
          exact c0
        have lb' := World.block_lt_of_cell? _ _ ec'
        unfold frE
        rw [q2]
        go_simp
        refine hK _ _ ⟨putV V 3 _, ?_, valsE_put hv 3 _ rfl, by rw [HW.out, stE_same _ _ _ _ _ _ (by decide) (by decide) (by decide)]⟩
        unfold frE putV
        simp [q2]
      · obtain rfl := Option.some.inj ho
        rw [if_pos (by rfl)]
        unfold frE
        go_simp
        refine hK _ _ ⟨putV V 4 _, ?_, valsE_put hv 4 _ rfl, by rw [HW.out, stE_same _ _ _ _ _ _ (by decide) (by decide) (by decide)]⟩
        unfold frE putV
        simp
      · obtain rfl := Option.some.inj ho
        rw [if_pos (by rfl)]
        have q4 : V 4 = .slice (some ⟨b, off + x.val * 3, none⟩) 3 3 := hv 4 (hall ⟨4, .data⟩ (by simp) rfl)
        unfold frE
        rw [q4]
        go_simp
        refine hK _ _ ⟨putV V 5 _, ?_, valsE_put hv 5 _ rfl, by rw [HW.out, stE_same _ _ _ _ _ _ (by decide) (by decide) (by decide)]⟩
        unfold frE putV
        simp [q4]
      · obtain rfl := Option.some.inj ho
        rw [if_pos (by rfl)]
        have q5 : V 5 = .pointer (some ⟨b, off + x.val * 3 + 1, none⟩) := hv 5 (hall ⟨5, .data⟩ (by simp) rfl)
        have h10 : d 10 = false := no down 10 _ rfl ⟨6, .data⟩ (by simp) rfl hd
        have h11 : d 11 = false := no down 11 _ rfl ⟨10, .data⟩ (by simp) rfl h10
        have h12 : d 12 = false := no down 12 _ rfl ⟨11, .data⟩ (by simp) rfl h11
        have h13 : d 13 = false := no down 13 _ rfl ⟨12, .data⟩ (by simp) rfl h12
        have ec' : W'.cell? ⟨b, off + x.val * 3 + 1, none⟩ = some (.int .i64 e1) := by
          rw [HW.out]
          unfold stE
          rw [h13, h12, h11]
          exact c1
        have lb' := World.block_lt_of_cell? _ _ ec'
        unfold frE
        rw [q5]
        go_simp
        refine hK _ _ ⟨putV V 6 _, ?_, valsE_put hv 6 _ rfl, by rw [HW.out, stE_same _ _ _ _ _ _ (by decide) (by decide) (by decide)]⟩
        unfold frE putV
        simp [q5]
      · obtain rfl := Option.some.inj ho
        rw [if_pos (by rfl)]
        unfold frE
        go_simp
        refine hK _ _ ⟨putV V 7 _, ?_, valsE_put hv 7 _ rfl, by rw [HW.out, stE_same _ _ _ _ _ _ (by decide) (by decide) (by decide)]⟩
        unfold frE putV
        simp
      · obtain rfl := Option.some.inj ho
        rw [if_pos (by rfl)]
        have q7 : V 7 = .slice (some ⟨b, off + x.val * 3, none⟩) 3 3 := hv 7 (hall ⟨7, .data⟩ (by simp) rfl)
        unfold frE
        rw [q7]
        go_simp
        refine hK _ _ ⟨putV V 8 _, ?_, valsE_put hv 8 _ rfl, by rw [HW.out, stE_same _ _ _ _ _ _ (by decide) (by decide) (by decide)]⟩
        unfold frE putV
        simp [q7]
      · obtain rfl := Option.some.inj ho
        rw [if_pos (by rfl)]
        have q8 : V 8 = .pointer (some ⟨b, off + x.val * 3 + 2, none⟩) := hv 8 (hall ⟨8, .data⟩ (by simp) rfl)
        have h10 : d 10 = false := no down 10 _ rfl ⟨9, .data⟩ (by simp) rfl hd
        have h11 : d 11 = false := no down 11 _ rfl ⟨10, .data⟩ (by simp) rfl h10
        have h12 : d 12 = false := no down 12 _ rfl ⟨11, .data⟩ (by simp) rfl h11
        have h13 : d 13 = false := no down 13 _ rfl ⟨12, .data⟩ (by simp) rfl h12
        have ec' : W'.cell? ⟨b, off + x.val * 3 + 2, none⟩ = some (.int .i64 e2) := by
          rw [HW.out]
          unfold stE
          rw [h13, h12, h11]
          exact c2
        have lb' := World.block_lt_of_cell? _ _ ec'
        unfold frE
        rw [q8]
        go_simp
        refine hK _ _ ⟨putV V 9 _, ?_, valsE_put hv 9 _ rfl, by rw [HW.out, stE_same _ _ _ _ _ _ (by decide) (by decide) (by decide)]⟩
        unfold frE putV
        simp [q8]
      · obtain rfl := Option.some.inj ho
        rw [if_pos (by rfl)]
        have q3 : V 3 = .int .i64 e0 := hv 3 (hall ⟨3, .data⟩ (by simp) rfl)
        have q6 : V 6 = .int .i64 e1 := hv 6 (hall ⟨6, .data⟩ (by simp) rfl)
        have q9 : V 9 = .int .i64 e2 := hv 9 (hall ⟨9, .data⟩ (by simp) rfl)
        unfold frE
        rw [q3, q6, q9]
        go_simp
        refine hK _ _ ⟨putV V 10 _, ?_, valsE_put hv 10 _ rfl, by rw [HW.out, stE_same _ _ _ _ _ _ (by decide) (by decide) (by decide)]⟩
        unfold frE putV
        simp [q3, q6, q9]
      · obtain rfl := Option.some.inj ho
        rw [if_pos (by rfl)]
        have q10 : V 10 = .agg #[.int .i64 e0, .int .i64 e1, .int .i64 e2] := hv 10 (hall ⟨10, .data⟩ (by simp) rfl)
        have h12 : d 12 = false := no down 12 _ rfl ⟨11, .data⟩ (by simp) rfl hd
        have h13 : d 13 = false := no down 13 _ rfl ⟨12, .data⟩ (by simp) rfl h12
        have hW := HW.out
        unfold stE at hW
        rw [h13, h12, hd] at hW
        simp only [Bool.false_eq_true, if_false] at hW
        clear HW
        subst hW
        unfold frE
        rw [q10]
        go_simp
        refine hK _ _ ⟨putV V 11 _, ?_, valsE_put hv 11 _ rfl, ?_⟩
        · unfold frE putV
          simp [q10]
        · unfold stE
          simp [h12, h13]
          rfl
      · obtain rfl := Option.some.inj ho
        rw [if_pos (by rfl)]
        have q0 : V 0 = .slice ao pre.length G := hv 0 (hall ⟨0, .data⟩ (by simp) rfl)
        have q11 : V 11 = .slice (some ⟨W.heap.size, 0, none⟩) 1 1 := hv 11 (hall ⟨11, .data⟩ (by simp) rfl)
        have h13 : d 13 = false := no down 13 _ rfl ⟨12, .data⟩ (by simp) rfl hd
        have h11 : d 11 = true := hall ⟨11, .data⟩ (by simp) rfl
        have hW := HW.out
        unfold stE at hW
        rw [h13, hd, h11] at hW
        simp only [Bool.false_eq_true, if_false, if_true] at hW
        clear HW
        subst hW
        refine Lib.wp_append_run _ (.tmp 8) (.tmp 19) _ _ rfl (.slice ao pre.length G) (.slice (some ⟨W.heap.size, 0, none⟩) 1 1) q0 q11 _ _ hrun ?_
        refine hK _ _ ⟨putV V 12 _, ?_, valsE_put hv 12 _ rfl, ?_⟩
        · rfl
        · unfold stE
          simp [h13]
      · obtain rfl := Option.some.inj ho
        rw [if_pos (by rfl)]
        have q12 : V 12 = .slice (some ⟨g7, 0, none⟩) (pre.length + 1) G7 := hv 12 (hall ⟨12, .data⟩ (by simp) rfl)
        have h12 : d 12 = true := hall ⟨12, .data⟩ (by simp) rfl
        have hW := HW.out
        unfold stE at hW
        rw [hd, h12] at hW
        simp only [Bool.false_eq_true, if_false, if_true] at hW
        clear HW
        subst hW
        have l1 := World.block_lt_of_cell? _ _ cw1
        unfold frE
        rw [q12]
        go_simp
        refine hK _ _ ⟨V, ?_, ?_, ?_⟩
        · unfold frE
          simp [q12]
        · intro k hk
          by_cases e : k = 13
          · subst e
            trivial
          · exact hv k (by simpa [e] using hk)
        · unfold stE
          simp
  case done =>
    rintro D ys W hD hys ⟨⟨v, hv, hrow, -⟩, -, hB⟩ hK
    have hc := hv.cell
    gi_wp2
    refine ⟨by simp, .inl ⟨_, _, rfl, run_takeDeferred hK, ?_⟩⟩
    have hl : ys.length = m := chunks m m ys hys
    have he : ys.map (fun x => ent ns x.val) = (List.range m).map (ent ns) := by rw [← hys, List.map_map]; rfl
    rw [hl, he] at hrow
    exact ⟨_, results_tmp rfl _ _ _, v, rfl, ownsRow_putObj hrow _ hK rfl, hB.trans (belowK_b (w := w) (Nat.le_refl _) W D _ _ (by omega) hK rfl rfl)⟩
  case stop =>
    rintro D c pre W _ _ h _
    exact h.elim

theorem entries_any (ns : List Int) (m n cap : Nat) (a : Option Addr) (w : World) (S : Sl w a cap (ns.map (Value.int .i64))) (hn : n = ns.length) (h3 : n = m * 3) (hm : m ≤ 100000) :
    Calls Tryd.prog 50 #[.slice a n cap] w fun e w' => ∃ v, e = .returned v ∧ w'.ownsRow w.heap.size 59 3 v m ((chunkL ns).flatMap ec) ∧ Below w.heap.size w w' := by
  rw [← chunk_range m ns (by omega)]
  by_cases h0 : m = 0
  · subst h0
    obtain rfl : n = 0 := by omega
    exact entries_gen ns 0 0 0 0 cap a w hm (fun j hj => absurd hj (by omega)) (fun h => absurd rfl h) (fun W hS _ => chunk_stops0 Fence.wide 4 trivial rfl _ _ _ 0 0 cap a W hS)
  · obtain ⟨b, off, rfl, hb, hc⟩ := S.row.at (by intro h; have := congrArg List.length h; simp at this; subst this; simp at hn; omega)
    have hle := S.le
    rw [List.length_map, ← hn] at hle
    refine entries_gen ns m b off n cap _ w hm (fun j hj => ?_) (fun _ => hb) (fun W hS hN => chunk_stops Fence.wide 4 trivial rfl (by decide) _ _ _ b off m n cap h3 (by omega) hle S.max W hS hN)
    have hj' : j < ns.length := by omega
    refine hc j _ ?_
    rw [List.getElem?_map, List.getElem?_eq_getElem hj']
    simp [List.getD, hj']

end Go.Proofs.YtabeihkfjlmepaaDoor

/-
  Texts as records, as plain lists: what note.read and note.Parse say. No program is named.
-/
namespace Go.Proofs.YtabeihkfjlmepaaDoor

/-- The record that words tell. -/
def readR : List (List UInt8) → Option Rc
  | [] => none
  | w :: r => (readNums r).bind fun ns =>
    if w = wBatch ∧ ns.length % 3 = 0 then some ⟨1, 0, 0, chunkL ns⟩
    else if w = wSeal ∧ ns.length = 2 then some ⟨2, ns.getD 0 0, ns.getD 1 0, []⟩
    else if w = wMerge ∧ ns.length = 2 then some ⟨3, ns.getD 0 0, ns.getD 1 0, []⟩
    else if w = wDrop ∧ ns.length = 1 then some ⟨4, 0, ns.getD 0 0, []⟩
    else none

def blank : ByteArray := ⟨#[32]⟩

def wordsB (s : ByteArray) : List ByteArray := Lib.splitB blank 0 (Lib.countB s blank) s

def textR (s : ByteArray) : Option Rc := readR ((wordsB s).map bytes)

theorem split_small (sep : ByteArray) (sv : Nat) : ∀ (k : Nat) (s b : ByteArray), b ∈ Lib.splitB sep sv k s → b.size ≤ s.size
  | 0, s, b, h => by
    rw [Lib.splitB_zero] at h
    simp at h
    subst h
    exact Nat.le_refl _
  | k + 1, s, b, h => by
    unfold Lib.splitB at h
    split at h
    · simp at h
      subst h
      exact Nat.le_refl _
    · rcases List.mem_cons.1 h with h | h
      · subst h
        rw [ByteArray.size_extract]
        omega
      · have := split_small sep sv k _ b h
        rw [ByteArray.size_extract] at this
        omega

theorem chunk_length : ∀ (m : Nat) (ns : List Int), ns.length = m * 3 → (chunkL ns).length = m := fun m ns h => by
  rw [← chunk_range m ns h]
  simp

end Go.Proofs.YtabeihkfjlmepaaDoor

/-
  note.write: a word and numbers, a blank ahead of each.
-/
namespace Go.Proofs.YtabeihkfjlmepaaDoor
open Go.RowKit

theorem cells_of {l : List UInt8} {a : Array UInt8} (h : l = a.toList) : (⟨l.toArray⟩ : ByteArray) = ⟨a⟩ := by subst h; simp

set_option maxHeartbeats 1000000 in
set_option maxRecDepth 100000 in
theorem write_any (wd : ByteArray) (ns : List Int) (a : Option Addr) (cap n : Nat) (w : World) (hg : Gl w) (S : Sl w a cap (ns.map (Value.int .i64))) (hn : n = ns.length) (hb : ∀ m ∈ ns, -9223372036854775808 ≤ m ∧ m ≤ 9223372036854775807) (few : n ≤ 1000) (hw : wd.size ≤ 1000) :
    Calls Tryd.prog 24 #[.string wd, .slice a n cap] w fun e w' => e = .returned (.string ⟨(wd.data.toList ++ numsT ns).toArray⟩) ∧ Below w.heap.size w w' := by
  replace hn := hide hn
  have I0 := Lib.IsBuilderF.of (Lib.fresh_isBuilder 83 5 w)
  have bel : Below w.heap.size w (w.alloc (.cells #[.pointer none, .slice none 0 0] 83)) := (Below.refl _ _).alloc (Nat.le_refl _) _
  go_enter Tryd.func24, Tryd.ntmps24
  go_wp2_with fail
  generalize w.alloc _ = w1 at *
  go_at_call 45
  refine (writeString w.heap.size w.heap.size [] wd _ I0 (by simp; omega) bel.size).mono ?_
  rintro e w2 ⟨rfl, I1, b2, -⟩
  have bel2 : Below w.heap.size w w2 := bel.trans b2
  replace I1 : Lib.IsBuilderF 83 5 w.heap.size w.heap.size (Lib.byteCells (wd.data.toList ++ numsT (ns.take 0))) w2 := .inr (by simpa [numsT, Lib.strCells_eq] using I1)
  clear I0 b2 bel
  go_wp2_with fail
  go_loopw [12] (fun i wr => ∃ (k : Nat), k ≤ n ∧ i = .int .i64 k ∧ Lib.IsBuilderF 83 5 w.heap.size w.heap.size (Lib.byteCells (wd.data.toList ++ numsT (ns.take k))) wr ∧ Below w.heap.size w wr) (fun i _ => n - (intOf i).toNat)
  case atStart => exact ⟨0, Nat.zero_le _, rfl, I1, bel2⟩
  case round =>
    clear I1 bel2
    obtain ⟨k, hk, rfl, I1, bel⟩ := hrel
    by_cases hlt : k < n
    · have hkl : k < ns.length := by rw [← hn.out]; exact hlt
      obtain ⟨m, hm⟩ : ∃ m, ns[k]? = some m := ⟨_, List.getElem?_eq_getElem hkl⟩
      have hm2 := hb m (List.mem_of_getElem? hm)
      have S1 := S.keep bel (Nat.le_refl _)
      obtain ⟨b1, o1, rfl, -, hc⟩ := S1.row.at (by intro h; have := congrArg List.length h; simp at this; subst this; simp at hkl)
      have d0 : wr.cell? ⟨b1, o1 + k, none⟩ = some (.int .i64 m) := hc k _ (by rw [List.getElem?_map, hm]; rfl)
      have g1 := hg.call bel
      have hle := numsT_le (ns.take k) (fun q hq => hb q (List.mem_of_mem_take hq))
      have hlen : (Lib.byteCells (wd.data.toList ++ numsT (ns.take k))).length ≤ 30000 := by
        rw [Lib.byteCells_length, List.length_append]
        have h1 : (ns.take k).length ≤ 1000 := by rw [List.length_take]; omega
        have h2 : wd.data.toList.length = wd.size := rfl
        omega
      have hit := itoa_le m hm2.1 hm2.2
      have hT : Lib.byteCells (wd.data.toList ++ numsT (ns.take k)) ++ [Value.int .u8 32] ++ Lib.strCells ⟨(Lib.itoa m).toArray⟩ = Lib.byteCells (wd.data.toList ++ numsT (ns.take (k + 1))) := by
        rw [List.take_add_one, hm]
        simp only [Option.toList_some]
        rw [numsT_snoc, Lib.strCells_eq, ← List.append_assoc, Lib.byteCells_append (_ ++ _) (32 :: _)]
        rw [List.append_assoc]
        rfl
      generalize Lib.byteCells (wd.data.toList ++ numsT (ns.take k)) = X at *
      replace hT := hide hT
      replace hm := hide hm
      clear S1 hc hkl hle
      go_wp2_with fail
      go_at_call 46
      refine (writeByte w.heap.size w.heap.size X 32 _ I1 (by omega) bel.size).mono ?_
      rintro e w3 ⟨rfl, I3, b3, -⟩
      have bel3 : Below w.heap.size w w3 := bel.trans b3
      have g3 := hg.call bel3
      go_wp2_with fail
      go_at_call 29
      refine (Tryd.strconv_Itoa m hm2.1 hm2.2 _ g3.tab).mono ?_
      rintro e w4 ⟨rfl, q, os, hw4⟩
      have b4 : Below w3.heap.size w3 w4 := by rw [hw4]; exact Lib.below_grow _ _ (Nat.le_refl _) _ _
      have I4 := isB_call (.inr I3) b4
      have bel4 := belowCall bel3 b4
      clear hw4 I3 b3 bel3 g3
      go_wp2_with fail
      go_at_call 45
      refine (writeString w.heap.size w.heap.size _ ⟨(Lib.itoa m).toArray⟩ _ I4 (by simp [ByteArray.size]; omega) bel4.size).mono ?_
      rintro e w5 ⟨rfl, I5, b5, -⟩
      rw [hT.out] at I5
      have bel5 : Below w.heap.size w w5 := bel4.trans b5
      clear I4 b4 b5 bel4
      go_wp2_with fail
      go_roundw
      case rel => exact ⟨k + 1, by omega, by go_num, .inr I5, bel5⟩
      case measure => simp [intOf]; omega
    · obtain rfl : n = k := by omega
      rw [List.take_of_length_le (by rw [← hn.out]; exact Nat.le_refl _)] at I1
      go_wp2_with fail
      go_at_call 47
      refine (Tryd.Builder_String_any_k w.heap.size w.heap.size _ _ I1 bel.size).mono ?_
      rintro e w5 ⟨rfl, -, b5, -⟩
      go_wp2_with fail
      go_ret
      exact ⟨rfl, bel.trans b5⟩

end Go.Proofs.YtabeihkfjlmepaaDoor

/-
  note.Check, whatever the record.
-/
namespace Go.Proofs.YtabeihkfjlmepaaDoor
open Go.RowKit

set_option maxHeartbeats 1000000 in
set_option maxRecDepth 100000 in
theorem checkBatch_any (s m : Int) (l : List Nt) (a : Option Addr) (cap n : Nat) (w : World) (S : SlW ec w a cap l) (hn : n = l.length) :
    Calls Tryd.prog 32 #[.agg #[.int .i64 1, .int .i64 s, .int .i64 m, .slice a n cap]] w fun e w' => e = .returned (.int .i64 (if s ≠ 0 ∨ m ≠ 0 then 4 else if 10 < l.length then 2 else if l.all ntOk then 0 else 3)) ∧ Below w.heap.size w w' := by
  by_cases hs : s = 0
  · subst hs
    by_cases hm : m = 0
    · subst hm
      rw [if_neg (by simp)]
      by_cases h10 : 10 < n
      · rw [if_pos (by rw [← hn]; exact h10)]
        have h10' : (10 : Int) < n := by omega
        replace hn := hide hn
        go_enter Tryd.func32, Tryd.ntmps32
        go_wp2_with fail
        go_ret
        exact ⟨rfl, (Below.refl _ _).alloc (Nat.le_refl _) _⟩
      · rw [if_neg (by rw [← hn]; exact h10)]
        exact batchLoop l a cap n w S hn (by omega)
    · rw [if_pos (.inr hm)]
      replace hn := hide hn
      have hm' : decide (m = 0) = false := decide_eq_false hm
      go_enter Tryd.func32, Tryd.ntmps32
      go_wp2_with fail
      go_ret
      exact ⟨rfl, (Below.refl _ _).alloc (Nat.le_refl _) _⟩
  · rw [if_pos (.inl hs)]
    replace hn := hide hn
    have hs' : decide (s = 0) = false := decide_eq_false hs
    go_enter Tryd.func32, Tryd.ntmps32
    go_wp2_with fail
    go_ret
    exact ⟨rfl, (Below.refl _ _).alloc (Nat.le_refl _) _⟩

def plainE (k s m : Int) (l : List Nt) : Int := if l ≠ [] ∨ (k = 4 ∧ s ≠ 0) then 4 else if 0 ≤ s ∧ s < 4 ∧ 0 ≤ m ∧ m ≤ 100001 then 0 else 3

set_option maxHeartbeats 1000000 in
set_option maxRecDepth 100000 in
theorem plain_rest (k s m : Int) (a : Option Addr) (cap : Nat) (w : World) (hk : k ≠ 4 ∨ s = 0) :
    Calls Tryd.prog 33 #[.agg #[.int .i64 k, .int .i64 s, .int .i64 m, .slice a 0 cap]] w fun e w' => e = .returned (.int .i64 (if 0 ≤ s ∧ s < 4 ∧ 0 ≤ m ∧ m ≤ 100001 then 0 else 3)) ∧ Below w.heap.size w w' := by
  obtain ⟨E, hE⟩ : ∃ E : Int, E = if 0 ≤ s ∧ s < 4 ∧ 0 ≤ m ∧ m ≤ 100001 then 0 else 3 := ⟨_, rfl⟩
  rw [← hE]
  have c1 := fun W => nIsSeries_any s W
  by_cases h4 : k = 4
  · obtain rfl : s = 0 := hk.resolve_left (fun h => h h4)
    subst h4
    rw [decide_eq_true (by omega : (0 : Int) ≤ 0 ∧ (0 : Int) < 4)] at c1
    clear hk
    by_cases m0 : m < 0
    · obtain rfl : E = 3 := by rw [hE, if_neg (by omega)]
      clear hE
      have d0 : decide (m < 0) = true := decide_eq_true m0
      go_enter Tryd.func33, Tryd.ntmps33
      go_wp2_with fail
      go_at_call 55
      refine (c1 _).mono ?_
      rintro e w2 ⟨rfl, rfl⟩
      go_wp2_with fail
      go_ret
      exact ⟨rfl, (Below.refl _ _).alloc (Nat.le_refl _) _⟩
    · have d0 : decide (m < 0) = false := decide_eq_false m0
      by_cases m1 : 100001 < m
      · obtain rfl : E = 3 := by rw [hE, if_neg (by omega)]
        clear hE
        have d1 : decide ((100001 : Int) < m) = true := decide_eq_true m1
        go_enter Tryd.func33, Tryd.ntmps33
        go_wp2_with fail
        go_at_call 55
        refine (c1 _).mono ?_
        rintro e w2 ⟨rfl, rfl⟩
        go_wp2_with fail
        go_ret
        exact ⟨rfl, (Below.refl _ _).alloc (Nat.le_refl _) _⟩
      · obtain rfl : E = 0 := by rw [hE, if_pos (by omega)]
        clear hE
        have d1 : decide ((100001 : Int) < m) = false := decide_eq_false m1
        go_enter Tryd.func33, Tryd.ntmps33
        go_wp2_with fail
        go_at_call 55
        refine (c1 _).mono ?_
        rintro e w2 ⟨rfl, rfl⟩
        go_wp2_with fail
        go_ret
        exact ⟨rfl, (Below.refl _ _).alloc (Nat.le_refl _) _⟩
  · have d4 : decide (k = 4) = false := decide_eq_false h4
    clear hk
    by_cases hs : 0 ≤ s ∧ s < 4
    · rw [decide_eq_true hs] at c1
      by_cases m0 : m < 0
      · obtain rfl : E = 3 := by rw [hE, if_neg (by omega)]
        clear hE
        have d0 : decide (m < 0) = true := decide_eq_true m0
        go_enter Tryd.func33, Tryd.ntmps33
        go_wp2_with fail
        go_at_call 55
        refine (c1 _).mono ?_
        rintro e w2 ⟨rfl, rfl⟩
        go_wp2_with fail
        go_ret
        exact ⟨rfl, (Below.refl _ _).alloc (Nat.le_refl _) _⟩
      · have d0 : decide (m < 0) = false := decide_eq_false m0
        by_cases m1 : 100001 < m
        · obtain rfl : E = 3 := by rw [hE, if_neg (by omega)]
          clear hE
          have d1 : decide ((100001 : Int) < m) = true := decide_eq_true m1
          go_enter Tryd.func33, Tryd.ntmps33
          go_wp2_with fail
          go_at_call 55
          refine (c1 _).mono ?_
          rintro e w2 ⟨rfl, rfl⟩
          go_wp2_with fail
          go_ret
          exact ⟨rfl, (Below.refl _ _).alloc (Nat.le_refl _) _⟩
        · obtain rfl : E = 0 := by rw [hE, if_pos (by omega)]
          clear hE
          have d1 : decide ((100001 : Int) < m) = false := decide_eq_false m1
          go_enter Tryd.func33, Tryd.ntmps33
          go_wp2_with fail
          go_at_call 55
          refine (c1 _).mono ?_
          rintro e w2 ⟨rfl, rfl⟩
          go_wp2_with fail
          go_ret
          exact ⟨rfl, (Below.refl _ _).alloc (Nat.le_refl _) _⟩
    · rw [decide_eq_false hs] at c1
      obtain rfl : E = 3 := by rw [hE, if_neg (by omega)]
      clear hE
      go_enter Tryd.func33, Tryd.ntmps33
      go_wp2_with fail
      go_at_call 55
      refine (c1 _).mono ?_
      rintro e w2 ⟨rfl, rfl⟩
      go_wp2_with fail
      go_ret
      exact ⟨rfl, (Below.refl _ _).alloc (Nat.le_refl _) _⟩

set_option maxHeartbeats 1000000 in
set_option maxRecDepth 100000 in
theorem checkPlain_any (k s m : Int) (l : List Nt) (a : Option Addr) (cap n : Nat) (w : World) (hn : n = l.length) :
    Calls Tryd.prog 33 #[.agg #[.int .i64 k, .int .i64 s, .int .i64 m, .slice a n cap]] w fun e w' => e = .returned (.int .i64 (plainE k s m l)) ∧ Below w.heap.size w w' := by
  unfold plainE
  by_cases h0 : n = 0
  · subst h0
    obtain rfl := List.length_eq_zero_iff.1 hn.symm
    by_cases hk : k = 4 ∧ s ≠ 0
    · rw [if_pos (.inr hk)]
      obtain ⟨rfl, hs⟩ := hk
      have d1 : decide (s = 0) = false := decide_eq_false hs
      clear hn
      go_enter Tryd.func33, Tryd.ntmps33
      go_wp2_with fail
      go_ret
      exact ⟨rfl, (Below.refl _ _).alloc (Nat.le_refl _) _⟩
    · rw [if_neg (by rintro (h | h); exact h rfl; exact hk h)]
      exact plain_rest k s m a cap w (by by_cases h4 : k = 4; exact .inr (Decidable.of_not_not (fun h => hk ⟨h4, h⟩)); exact .inl h4)
  · rw [if_pos (.inl (by intro h; subst h; exact h0 hn))]
    have hp : (0 : Int) < n := by omega
    have hd : decide (0 < n) = true := decide_eq_true (by omega)
    replace hn := hide hn
    go_enter Tryd.func33, Tryd.ntmps33
    go_wp2_with fail
    go_ret
    exact ⟨rfl, (Below.refl _ _).alloc (Nat.le_refl _) _⟩

set_option maxHeartbeats 1000000 in
set_option maxRecDepth 100000 in
theorem check_is (r : Rc) (a : Option Addr) (cap n : Nat) (w : World) (S : SlW ec w a cap r.e) (hn : n = r.e.length) :
    Calls Tryd.prog 10 #[.agg #[.int .i64 r.k, .int .i64 r.s, .int .i64 r.n, .slice a n cap]] w fun e w' => e = .returned (.int .i64 (recE r)) ∧ Below w.heap.size w w' := by
  obtain ⟨k, s, m, l⟩ := r
  simp only at *
  have cp := fun W => checkPlain_any k s m l a cap n W hn
  have S1 := S.alloc (.cells #[.int .i64 k, .int .i64 s, .int .i64 m, .slice a n cap] 24)
  have bel : Below w.heap.size w (w.alloc (.cells #[.int .i64 k, .int .i64 s, .int .i64 m, .slice a n cap] 24)) := (Below.refl _ _).alloc (Nat.le_refl _) _
  by_cases h1 : k = 1
  · subst h1
    have c := fun W h => checkBatch_any s m l a cap n W h hn
    rw [show recE ⟨1, s, m, l⟩ = if s ≠ 0 ∨ m ≠ 0 then 4 else if 10 < l.length then 2 else if l.all ntOk then 0 else 3 from rfl]
    generalize (if s ≠ 0 ∨ m ≠ 0 then (4 : Int) else if 10 < l.length then 2 else if l.all ntOk then 0 else 3) = E at *
    replace hn := hide hn
    go_enter Tryd.func10, Tryd.ntmps10
    go_wp2_with fail
    go_at_call 32
    refine (c _ S1).mono ?_
    rintro e w2 ⟨rfl, b2⟩
    go_wp2_with fail
    go_ret
    exact ⟨rfl, belowCall bel b2⟩
  · have d1 : decide (k = 1) = false := decide_eq_false h1
    by_cases h2 : k = 2 ∨ k = 3 ∨ k = 4
    · rw [show recE ⟨k, s, m, l⟩ = plainE k s m l by unfold recE plainE; rw [if_neg h1, if_pos h2]]
      generalize plainE k s m l = E at *
      replace hn := hide hn
      rcases h2 with rfl | rfl | rfl
      · go_enter Tryd.func10, Tryd.ntmps10
        go_wp2_with fail
        go_at_call 33
        refine (cp _).mono ?_
        rintro e w2 ⟨rfl, b2⟩
        go_wp2_with fail
        go_ret
        exact ⟨rfl, belowCall bel b2⟩
      · go_enter Tryd.func10, Tryd.ntmps10
        go_wp2_with fail
        go_at_call 33
        refine (cp _).mono ?_
        rintro e w2 ⟨rfl, b2⟩
        go_wp2_with fail
        go_ret
        exact ⟨rfl, belowCall bel b2⟩
      · go_enter Tryd.func10, Tryd.ntmps10
        go_wp2_with fail
        go_at_call 33
        refine (cp _).mono ?_
        rintro e w2 ⟨rfl, b2⟩
        go_wp2_with fail
        go_ret
        exact ⟨rfl, belowCall bel b2⟩
    · rw [show recE ⟨k, s, m, l⟩ = 4 by unfold recE; rw [if_neg h1, if_neg h2]]
      have d2 : ¬ k = 2 := fun h => h2 (.inl h)
      have d3 : ¬ k = 3 := fun h => h2 (.inr (.inl h))
      have d4 : ¬ k = 4 := fun h => h2 (.inr (.inr h))
      replace hn := hide hn
      clear h2 d1
      go_enter Tryd.func10, Tryd.ntmps10
      go_wp2_with fail
      go_ret
      exact ⟨rfl, bel⟩

end Go.Proofs.YtabeihkfjlmepaaDoor

/-
  note.Print: the text of a record, or what is wrong with it.
-/
namespace Go.Proofs.YtabeihkfjlmepaaDoor
open Go.RowKit

theorem recE_few {r : Rc} (h : recE r = 0) (h1 : r.k = 1) : r.s = 0 ∧ r.n = 0 ∧ r.e.length ≤ 10 ∧ r.e.all ntOk = true := by
  unfold recE at h
  rw [if_pos h1] at h
  split at h
  · cases h
  · rename_i h2
    split at h
    · cases h
    · split at h
      · rename_i h3 h4
        exact ⟨Decidable.of_not_not (fun e => h2 (.inl e)), Decidable.of_not_not (fun e => h2 (.inr e)), by omega, h4⟩
      · cases h

theorem recE_plain {r : Rc} (h : recE r = 0) (h1 : r.k ≠ 1) : (r.k = 2 ∨ r.k = 3 ∨ r.k = 4) ∧ r.e = [] ∧ (r.k = 4 → r.s = 0) ∧ 0 ≤ r.s ∧ r.s < 4 ∧ 0 ≤ r.n ∧ r.n ≤ 100001 := by
  unfold recE at h
  rw [if_neg h1] at h
  split at h
  · rename_i h2
    split at h
    · cases h
    · rename_i h3
      split at h
      · rename_i h4
        exact ⟨h2, Decidable.of_not_not (fun e => h3 (.inl e)), fun e => Decidable.of_not_not (fun e' => h3 (.inr ⟨e, e'⟩)), h4⟩
      · cases h
  · cases h

theorem nums_in {l : List Nt} (h : l.all ntOk = true) : ∀ m ∈ ntNums l, -9223372036854775808 ≤ m ∧ m ≤ 9223372036854775807 := by
  intro m hm
  unfold ntNums at hm
  obtain ⟨x, hx, hm⟩ := List.mem_flatMap.1 hm
  have := of_decide_eq_true (List.all_eq_true.1 h x hx)
  simp only [List.mem_cons, List.not_mem_nil, or_false] at hm
  rcases hm with rfl | rfl | rfl <;> omega

theorem ints_own {w : World} {base n : Nat} {a : Option Addr} {G : Nat} {cs : List Value} {T : TypeId} (o : w.ownsRow base T 1 (.slice a n G) n cs) : Sl w a G cs := by
  obtain ⟨h1, ⟨h2, h3⟩ | ⟨g, cap, cur, e1, hb, hh, hn, hm, hs, ht⟩⟩ := o
  · simp only [Value.slice.injEq] at h2
    obtain ⟨rfl, rfl, rfl⟩ := h2
    obtain rfl := List.length_eq_zero_iff.1 (by omega : cs.length = 0)
    exact ⟨.inl rfl, by simp, by decide, fun _ => rfl⟩
  · simp only [Value.slice.injEq, true_and] at e1
    obtain ⟨rfl, rfl⟩ := e1
    refine ⟨.inr ⟨g, 0, rfl, lt_of_block hh, fun i v hv => ?_⟩, by omega, hm, fun h => by cases h⟩
    rw [← ht, List.getElem?_take] at hv
    split at hv
    · simp only [World.cell?, hh, Nat.zero_add]
      simpa using hv
    · cases hv

theorem ints_laid (w : World) (l : List Int) (T : TypeId) : Sl (w.alloc (.cells (l.map (Value.int .i64)).toArray T)) (some ⟨w.heap.size, 0, none⟩) l.length (l.map (Value.int .i64)) ∨ 9223372036854775807 < l.length := by
  by_cases h : l.length ≤ 9223372036854775807
  · refine .inl ⟨.inr ⟨_, 0, rfl, by simp, fun i v hv => ?_⟩, by simp, h, fun h => by cases h⟩
    have B := Blk.laid w (l.map (Value.int .i64)) T _ rfl
    rw [Nat.zero_add]
    exact (B.cell i).trans hv
  · exact .inr (by omega)

theorem write_nums (wd : ByteArray) (ns : List Int) (W : World) (T : TypeId) (hg : Gl W) (hb : ∀ m ∈ ns, -9223372036854775808 ≤ m ∧ m ≤ 9223372036854775807) (few : ns.length ≤ 1000) (hw : wd.size ≤ 1000) :
    Calls Tryd.prog 24 #[.string wd, .slice (some ⟨W.heap.size, 0, none⟩) ns.length ns.length] (W.alloc (.cells (ns.map (Value.int .i64)).toArray T)) fun e w' => e = .returned (.string ⟨(wd.data.toList ++ numsT ns).toArray⟩) ∧ Below W.heap.size W w' := by
  refine (write_any wd ns _ _ _ _ (hg.alloc _) ((ints_laid W ns T).resolve_right (by omega)) rfl hb few hw).mono ?_
  rintro e w' ⟨rfl, b⟩
  exact ⟨rfl, belowCall (newB (Below.refl _ _) _) b⟩

set_option maxHeartbeats 2000000 in
set_option maxRecDepth 100000 in
theorem print_is (r : Rc) (a : Option Addr) (cap n : Nat) (w : World) (hg : Gl w) (S : SlW ec w a cap r.e) (hn : n = r.e.length) :
    Calls Tryd.prog 6 #[.agg #[.int .i64 r.k, .int .i64 r.s, .int .i64 r.n, .slice a n cap]] w fun e w' => e = .returned (.tuple #[.string ⟨(recT r).toArray⟩, .int .i64 (recE r)]) ∧ Below w.heap.size w w' := by
  have c1 := fun W h => check_is r a cap n W h hn
  have hE : recE r = recE r := rfl
  have T0 : recE r ≠ 0 → recT r = [] := fun h => if_neg h
  have S1 := S.alloc (.cells #[.int .i64 r.k, .int .i64 r.s, .int .i64 r.n, .slice a n cap] 24)
  have B0 := Blk.laid w [.int .i64 r.k, .int .i64 r.s, .int .i64 r.n, .slice a n cap] 24 _ rfl
  have bel : Below w.heap.size w (w.alloc (.cells #[.int .i64 r.k, .int .i64 r.s, .int .i64 r.n, .slice a n cap] 24)) := (Below.refl _ _).alloc (Nat.le_refl _) _
  have g1 := hg.alloc (.cells #[.int .i64 r.k, .int .i64 r.s, .int .i64 r.n, .slice a n cap] 24)
  by_cases h0 : recE r = 0
  · rw [h0] at c1
    rw [h0]
    by_cases h1 : r.k = 1
    · obtain ⟨e1, e2, e3, e4⟩ := recE_few h0 h1
      have eT : recT r = wBatch ++ numsT (ntNums r.e) := by unfold recT; rw [if_pos h0, if_pos h1]
      rw [eT]
      have cn := fun W h => numbers_any r.e a cap n W h hn (by omega)
      have cw := fun a' G W h1 h2 => write_any ⟨#[98, 97, 116, 99, 104]⟩ (ntNums r.e) a' G (n * 3) W h1 h2 (by rw [ntNums_length, hn]) (nums_in e4) (by omega) (by decide)
      obtain ⟨k, s, m, l⟩ := r
      simp only at *
      subst h1
      subst e1
      subst e2
      clear h0 eT e3 e4 T0 hE
      generalize ntNums l = NL at *
      obtain ⟨n3, hn3⟩ : ∃ n3, n3 = n * 3 := ⟨_, rfl⟩
      rw [← hn3] at cn cw
      clear hn3
      replace hn := hide hn
      go_enter Tryd.func6, Tryd.ntmps6
      go_wp2_with fail
      generalize w.alloc _ = w1 at *
      go_at_call 10
      refine (c1 _ S1).mono ?_
      rintro e w2 ⟨rfl, b2⟩
      have B2 := B0.keep b2 B0.lt
      have q0 := B2.cell 0
      have q3 := B2.cell 3
      have l2 := B2.lt
      have g2 := g1.call b2
      have S2 := S1.call b2
      have bel2 := belowCall bel b2
      go_wp2_with fail
      go_at_call 25
      refine (cn _ S2).mono ?_
      rintro e w3 ⟨a3, G3, rfl, o3, b3⟩
      have s3 := ints_own o3
      have g3 := g2.call b3
      have bel3 := belowCall bel2 b3
      go_wp2_with fail
      go_at_call 24
      refine (cw _ _ _ g3 s3).mono ?_
      rintro e w4 ⟨rfl, b4⟩
      go_wp2_with fail
      go_ret2
      exact ⟨rfl, belowCall bel3 b4⟩
    · obtain ⟨hk, e1, e2, e3, e4, e5, e6⟩ := recE_plain h0 h1
      have eT : recT r = (if r.k = 2 then wSeal ++ numsT [r.s, r.n] else if r.k = 3 then wMerge ++ numsT [r.s, r.n] else wDrop ++ numsT [r.n]) := by unfold recT; rw [if_pos h0, if_neg h1]
      rw [eT]
      clear eT T0 hE h0
      obtain ⟨k, s, m, l⟩ := r
      simp only at *
      subst e1
      replace hn := hide hn
      rcases hk with rfl | rfl | rfl
      · clear e2
        rw [if_pos rfl]
        have cw : ∀ W1 : World, Gl W1 → Calls Tryd.prog 24 #[.string ⟨#[115, 101, 97, 108]⟩, .slice (some ⟨W1.heap.size, 0, none⟩) 2 2] (W1.alloc (.cells #[.int .i64 s, .int .i64 m] 3)) fun e w' => e = .returned (.string ⟨(([115, 101, 97, 108] : List UInt8) ++ numsT [s, m]).toArray⟩) ∧ Below W1.heap.size W1 w' := fun W1 h1 => write_nums ⟨#[115, 101, 97, 108]⟩ [s, m] W1 3 h1 (by simp; omega) (by simp) (by decide)
        go_enter Tryd.func6, Tryd.ntmps6
        go_wp2_with fail
        generalize w.alloc _ = w1 at *
        go_at_call 10
        refine (c1 _ S1).mono ?_
        rintro e w2 ⟨rfl, b2⟩
        have B2 := B0.keep b2 B0.lt
        have q0 := B2.cell 0
        have q1 := B2.cell 1
        have q2 := B2.cell 2
        have q3 := B2.cell 3
        have l2 := B2.lt
        have g2 := g1.call b2
        have bel2 := belowCall bel b2
        go_wp2_with fail
        go_at_call 24
        refine (cw w2 g2).mono ?_
        rintro e w3 ⟨rfl, b3⟩
        go_wp2_with fail
        go_ret2
        exact ⟨rfl, belowCall bel2 b3⟩
      · clear e2
        rw [if_neg (by decide), if_pos rfl]
        have cw : ∀ W1 : World, Gl W1 → Calls Tryd.prog 24 #[.string ⟨#[109, 101, 114, 103, 101]⟩, .slice (some ⟨W1.heap.size, 0, none⟩) 2 2] (W1.alloc (.cells #[.int .i64 s, .int .i64 m] 3)) fun e w' => e = .returned (.string ⟨(([109, 101, 114, 103, 101] : List UInt8) ++ numsT [s, m]).toArray⟩) ∧ Below W1.heap.size W1 w' := fun W1 h1 => write_nums ⟨#[109, 101, 114, 103, 101]⟩ [s, m] W1 3 h1 (by simp; omega) (by simp) (by decide)
        go_enter Tryd.func6, Tryd.ntmps6
        go_wp2_with fail
        generalize w.alloc _ = w1 at *
        go_at_call 10
        refine (c1 _ S1).mono ?_
        rintro e w2 ⟨rfl, b2⟩
        have B2 := B0.keep b2 B0.lt
        have q0 := B2.cell 0
        have q1 := B2.cell 1
        have q2 := B2.cell 2
        have q3 := B2.cell 3
        have l2 := B2.lt
        have g2 := g1.call b2
        have bel2 := belowCall bel b2
        go_wp2_with fail
        go_at_call 24
        refine (cw w2 g2).mono ?_
        rintro e w3 ⟨rfl, b3⟩
        go_wp2_with fail
        go_ret2
        exact ⟨rfl, belowCall bel2 b3⟩
      · obtain rfl : s = 0 := e2 rfl
        clear e2
        rw [if_neg (by decide), if_neg (by decide)]
        have cw : ∀ W1 : World, Gl W1 → Calls Tryd.prog 24 #[.string ⟨#[100, 114, 111, 112]⟩, .slice (some ⟨W1.heap.size, 0, none⟩) 1 1] (W1.alloc (.cells #[.int .i64 m] 3)) fun e w' => e = .returned (.string ⟨(([100, 114, 111, 112] : List UInt8) ++ numsT [m]).toArray⟩) ∧ Below W1.heap.size W1 w' := fun W1 h1 => write_nums ⟨#[100, 114, 111, 112]⟩ [m] W1 3 h1 (by simp; omega) (by simp) (by decide)
        go_enter Tryd.func6, Tryd.ntmps6
        go_wp2_with fail
        generalize w.alloc _ = w1 at *
        go_at_call 10
        refine (c1 _ S1).mono ?_
        rintro e w2 ⟨rfl, b2⟩
        have B2 := B0.keep b2 B0.lt
        have q0 := B2.cell 0
        have q1 := B2.cell 1
        have q2 := B2.cell 2
        have q3 := B2.cell 3
        have l2 := B2.lt
        have g2 := g1.call b2
        have bel2 := belowCall bel b2
        go_wp2_with fail
        go_at_call 24
        refine (cw w2 g2).mono ?_
        rintro e w3 ⟨rfl, b3⟩
        go_wp2_with fail
        go_ret2
        exact ⟨rfl, belowCall bel2 b3⟩
  · rw [T0 h0]
    have h0' : ¬ recE r = 0 := h0
    obtain ⟨E, hE'⟩ : ∃ E, E = recE r := ⟨_, rfl⟩
    rw [← hE'] at c1 h0' ⊢
    obtain ⟨k, s, m, l⟩ := r
    simp only at *
    have hd : decide (E = 0) = false := decide_eq_false h0'
    clear hE T0 h0 hE'
    replace hn := hide hn
    go_enter Tryd.func6, Tryd.ntmps6
    go_wp2_with fail
    generalize w.alloc _ = w1 at *
    go_at_call 10
    refine (c1 _ S1).mono ?_
    rintro e w2 ⟨rfl, b2⟩
    go_wp2_with fail
    go_ret2
    exact ⟨rfl, belowCall bel b2⟩

end Go.Proofs.YtabeihkfjlmepaaDoor
