/-
  A region of plain operations inside a round of a loop over an iterator, by its plain walk: such operations make no call. No function of the program is named.
-/
import Derived.OrdersIn
import Derived.TacticsIn
import Derived.RangeFuncSeq
import Derived.Deep.AppendLies
import Derived.Lib.AppendZeros
import Derived.Deep.RegionHeld
import Derived.Test.YtcjdpilmhlfmfaaGreatDoorP07
import Derived.Test.YtcjdpilmhlfmfaaGreatDoorP05
import Derived.Test.YtcjdpilmhlfmfaaGreatDoorP01
import Derived.Test.YtcjdpilmhlfmfaaGreatDoorP06
namespace Go.Proofs.YtcjdpilmhlfmfaaGreatDoor
open Go.RowKit

/-- No call comes of it. -/
def NoCall : Result Next → Prop
  | .ok (.value _) _ => True
  | .ok .skip _ => True
  | .halt _ _ => True
  | _ => False

theorem noCall_v (P : Program) (w : World) (s : Sem Value) : NoCall (Sem.run P (do pure (Next.value (← s))) w) := by
  simp only [Sem.run_bind]
  cases h : Sem.run P s w with
  | ok v w' => simp [Result.andThen, NoCall]
  | halt e w' => simp [Result.andThen, NoCall]

theorem noCall_u (P : Program) (w : World) (s : Sem Unit) : NoCall (Sem.run P (do s; pure Next.skip) w) := by
  simp only [Sem.run_bind]
  cases h : Sem.run P s w with
  | ok v w' => simp [Result.andThen, NoCall]
  | halt e w' => simp [Result.andThen, NoCall]

/-- Operations that make no call. -/
def mild : Op → Bool
  | .move _ | .assign _ | .build _ _ | .buildSlice _ _ _ | .load _ _ | .store _ _ _ | .indexAddr _ _ _ | .fieldAddr _ _ _ => true
  | .call c => match c.callee with
    | .builtin .append => true
    | .builtin .len => true
    | _ => false
  | _ => false

theorem mild_noCall (P : Program) (w : World) (ρ : Operand → Value) (o : Oper) (h : mild o.op = true) : NoCall (Sem.run P (execOp ρ o) w) := by
  unfold execOp
  cases ho : o.op <;> rw [ho] at h <;> first | (cases h; done) | skip
  all_goals first
    | trivial
    | exact noCall_v _ _ _
    | exact noCall_u _ _ _
    | skip
  rename_i c
  obtain ⟨callee, args, at'⟩ := c
  cases callee with
  | builtin b =>
    cases b <;> first | (cases h; done) | skip
    · exact noCall_v _ _ _
    · exact noCall_v _ _ _
  | invoke _ _ => cases h
  | value _ => cases h

theorem upon_in {P : Program} {F : Fence} {n : Nat} {o : Oper} {a : Act} {K : Act → World → Prop} {Q : Exit → Act → World → Prop} : ∀ r : Result Next, NoCall r → Oper.upon P o a K Q r → Oper.uponIn F n P o a K Q r
  | .ok (.value _) _, _, h => h
  | .ok .skip _, _, h => h
  | .halt (.panic _) _, _, h => h
  | .halt _ _, _, h => by revert h; unfold Oper.upon Oper.uponIn; split <;> simp_all

theorem mild_about (P : Program) (w : World) (ρ : Operand → Value) (o : Oper) (h : mild o.op = true) : o.about P w ρ = none := by
  unfold Oper.about
  cases ho : o.op <;> rw [ho] at h <;> first | rfl | (cases h; done) | skip
  rename_i c
  obtain ⟨callee, args, at'⟩ := c
  cases callee with
  | builtin b => simp [resolve, Target.leads]
  | invoke _ _ => cases h
  | value _ => cases h

theorem wpIn_mild {P : Program} {F : Fence} {n l : Nat} {o : Oper} {a : Act} {w : World} {K : Act → World → Prop} {Q : Exit → Act → World → Prop} (h : mild o.op = true) (hw : Oper.wp P o a w K Q) : Oper.wpIn (F.inRound l) n P o a w K Q := by
  refine ⟨fun f hf => ?_, ?_⟩
  · rw [mild_about P w a.eval o h] at hf
    cases hf
  · show Oper.uponIn _ _ _ _ _ _ _ (Sem.run P (Oper.semAt (some l) a.eval o) w)
    rw [Oper.semAt_some l a.eval o (fun c hc => by rw [hc] at h; cases h)]
    exact upon_in _ (mild_noCall P w a.eval o h) hw

theorem wpAnyIn_inv {P : Program} {F : Fence} {n l : Nat} {md : Region.Mode} {ops : Array Oper} {Q : Exit → Act → World → Prop} (Inv : (Nat → Bool) → Act → World → Prop) (hmild : ∀ (i : Nat) (o : Oper), ops[i]? = some o → mild o.op = true)
    (hback : ∀ (i : Nat) (o : Oper), ops[i]? = some o → ∀ e ∈ o.after, e.on < i)
    (hstep : ∀ (i : Nat) (o : Oper) (d : Nat → Bool) (a : Act) (w : World), ops[i]? = some o → d i = false → (∀ e ∈ o.after, Region.binds md e = true → d e.on = true) → Down md ops d → Inv d a w →
      ∀ K : Act → World → Prop, (∀ a' w', Inv (fun k => k == i || d k) a' w' → K a' w') → if Region.wanted o (yielded ops a.tmps) = true then Oper.wp P o a w K Q else K (a.put o.dst undef) w)
    (hend : ∀ d a w, (∀ i, i < ops.size → d i = true) → Inv d a w → Q .normal a w) :
    ∀ (fuel : Nat) (L : Array Bool) (a : Act) (w : World), L.size = ops.size → togo L.toList ≤ fuel → Down md ops (fun k => L.getD k false) → Inv (fun k => L.getD k false) a w → wpAnyIn (F.inRound l) n P md ops Q fuel L a w := by
  intro fuel
  induction fuel with
  | zero =>
    intro L a w hs ht hd inv
    have all : ∀ i, i < ops.size → L.getD i false = true := by
      intro i hi
      cases e : L.getD i false with
      | true => rfl
      | false => exact absurd (listed_off (listed_on (by omega) e)).2.2 (togo_zero _ i (by omega))
    refine ⟨?_, hend _ a w all inv⟩
    cases hr : Region.ready md ops L with
    | nil => rfl
    | cons j rs =>
      obtain ⟨hu, _⟩ := mem_ready.1 (show j ∈ Region.ready md ops L by rw [hr]; exact List.mem_cons_self)
      exact absurd (listed_off hu).2.2 (togo_zero _ j (by omega))
  | succ fuel ih =>
    intro L a w hs ht hd inv
    refine ⟨fun hr => ?_, fun i hi => ?_⟩
    · refine hend _ a w ?_ inv
      intro i
      induction i using Nat.strongRecOn with
      | _ i ihi =>
        intro hi
        cases e : L.getD i false with
        | true => rfl
        | false =>
          exfalso
          have ho : ops[i]? = some ops[i] := Array.getElem?_eq_getElem hi
          have : i ∈ Region.ready md ops L := mem_ready.2 ⟨listed_on (by omega) e, _, ho, fun x hx _ => ihi x.on (hback i _ ho x hx) (by have := hback i _ ho x hx; omega)⟩
          rw [hr] at this
          cases this
    · obtain ⟨hu, o, ho, hall⟩ := mem_ready.1 hi
      obtain ⟨hlt, hoff, hget⟩ := listed_off hu
      have hfun : (fun k => (L.setIfInBounds i true).getD k false) = (fun k => k == i || L.getD k false) := funext fun k => listed_set L i k hlt
      refine wpOpIn_step ho (fun K hK => ?_)
      have hmo := hmild i o ho
      have st := hstep i o (fun k => L.getD k false) a w ho hoff hall hd inv K (fun a' w' inv' => ?_)
      · by_cases hw : Region.wanted o (yielded ops a.tmps) = true
        · rw [if_pos hw] at st ⊢
          exact wpIn_mild hmo st
        · rw [if_neg hw] at st ⊢
          exact ⟨fun f hf => (by rw [mild_about P w a.eval o hmo] at hf; cases hf), st⟩
      refine hK _ _ (ih _ a' w' (by simpa using hs) ?_ ?_ ?_)
      · have := togo_set L.toList i hget
        rw [Array.toList_setIfInBounds]
        omega
      · rw [hfun]
        intro j oj hoj hj e he hb
        by_cases hji : j = i
        · subst hji
          rw [ho] at hoj
          obtain rfl := Option.some.inj hoj
          have := hall e he hb
          simp only [this, Bool.or_true]
        · have h1 : L.getD j false = true := by
            have : (j == i) = false := by simp [hji]
            simpa [this] using hj
          have := hd j oj hoj h1 e he hb
          simp only at this
          simp only [this, Bool.or_true]
      · rw [hfun]; exact inv'

theorem wpIn_region_inv {P : Program} {F : Fence} {n l : Nat} {ops : Array Oper} {Q : Exit → Act → World → Prop} {id : Nat} {a : Act} {w : World} (hm : P.follows .mixedOrders = true) (hb : backB ops = true) (hmild : ∀ (i : Nat) (o : Oper), ops[i]? = some o → mild o.op = true) (Inv : (Nat → Bool) → Act → World → Prop)
    (hstep : ∀ (i : Nat) (o : Oper) (d : Nat → Bool) (a : Act) (w : World), i < ops.size → ops[i]? = some o → d i = false → (∀ e ∈ o.after, Region.binds .any e = true → d e.on = true) → Down .any ops d → Inv d a w →
      ∀ K : Act → World → Prop, (∀ a' w', Inv (fun k => k == i || d k) a' w' → K a' w') → if Region.wanted o (yielded ops a.tmps) = true then Oper.wp P o a w K Q else K (a.put o.dst undef) w)
    (hend : ∀ d a w, (∀ i, i < ops.size → d i = true) → Inv d a w → Q .normal a w) (inv0 : Inv (fun _ => false) a w.drew) : (Code.region id ops true).wpIn (F.inRound l) n P Q a w := by
  have e : (fun k => (Array.replicate ops.size false).getD k false) = fun _ => false := funext fun k => by
    by_cases hk : k < ops.size
    · simp [Array.getD, hk]
    · simp [Array.getD, hk]
  refine wpIn_region_any hm (wpAnyIn_inv Inv hmild (back_of hb) (fun i o d a w ho => hstep i o d a w (Array.getElem?_eq_some_iff.1 ho).1 ho) hend _ _ _ _ (by simp) (by rw [Array.toList_replicate, togo_new]; exact Nat.le_refl _) ?_ (by rw [e]; exact inv0))
  intro i o _ hd
  rw [e] at hd
  cases hd

/-- All of a region's operations are plain. -/
def mildB (ops : Array Oper) : Bool := ops.all fun o => mild o.op

theorem mild_of {ops : Array Oper} (h : mildB ops = true) (i : Nat) (o : Oper) (ho : ops[i]? = some o) : mild o.op = true := by
  obtain ⟨hi, rfl⟩ := Array.getElem?_eq_some_iff.1 ho
  exact (Array.all_eq_true_iff_forall_mem.1 h) _ (Array.getElem_mem hi)

end Go.Proofs.YtcjdpilmhlfmfaaGreatDoor

/-
  slices.Chunk's maker and contract; note.entriesOf.
-/
namespace Go.Proofs.YtcjdpilmhlfmfaaGreatDoor
open Go.RowKit Go.Shelf
attribute [local go_sem] Oper.semAt_some

/-- Entries of numbers, three by three. -/
def chunkL : List Int → List Nt
  | a :: b :: c :: r => (a, b, c) :: chunkL r
  | _ => []

def ent (ns : List Int) (j : Nat) : Nt := (ns.getD (j * 3) 0, ns.getD (j * 3 + 1) 0, ns.getD (j * 3 + 2) 0)

theorem chunk_range : ∀ (m : Nat) (ns : List Int), ns.length = m * 3 → (List.range m).map (ent ns) = chunkL ns
  | 0, [], _ => rfl
  | 0, _ :: _, h => by simp at h
  | m + 1, [], h => by simp at h
  | m + 1, [_], h => by simp at h; omega
  | m + 1, [_, _], h => by simp at h; omega
  | m + 1, a :: b :: c :: r, h => by
    have ih := chunk_range m r (by simp at h; omega)
    rw [List.range_succ_eq_map, List.map_cons, List.map_map, chunkL, ← ih]
    congr 1
    refine List.map_congr_left (fun j _ => ?_)
    simp [ent, Function.comp, Nat.succ_mul]

theorem infoE : (Tryz.prog.info? 68).map (fun i => (i.zero, i.size, i.bytes)) = some (some (.agg #[.int .i64 0, .int .i64 0, .int .i64 0]), 3, 24) := by kernel_rfl

set_option maxRecDepth 100000 in
set_option maxHeartbeats 1000000 in
theorem chunk0_in (F : Fence) (n : Nat) (hf : F.fn 231) (hro : F.round = none) (l Bs Bn cap : Nat) (a : Option Addr) (J : List (Fin 0) → World → Prop) (W : World) (hBs : W.cell? ⟨Bs, 0, none⟩ = some (.slice a 0 cap)) (h0 : J [] W) :
    CallsIn F n Tryz.prog 231 #[.func (.yield l) #[] #[], .pointer (some ⟨Bs, 0, none⟩), .pointer (some ⟨Bn, 0, none⟩)] W fun e W' => (∃ v, e = .returned v) ∧ J [] W' := by
  refine callsIn_of_wp Tryz.func231 rfl hf ?_ hro
  simp only [Tryz.ntmps231, List.size_toArray, List.length_cons, List.length_nil, Nat.reduceAdd, Nat.reduceSub, Array.replicate_succ, Array.replicate_zero, List.push_toArray, List.append_toArray, List.nil_append, List.cons_append]
  gi_wp2
  gi_loopw [4] (fun i wr => i = .int .i64 0 ∧ J [] wr ∧ wr = W) (fun _ _ => 0)
  case atStart => exact ⟨rfl, h0, rfl⟩
  case round =>
    obtain ⟨rfl, hJs, rfl⟩ := hrel
    gi_wp2
    go_end0
    exact ⟨⟨_, rfl⟩, hJs⟩

set_option maxRecDepth 100000 in
set_option maxHeartbeats 1000000 in
theorem chunk_in (F : Fence) (n : Nat) (hf : F.fn 206) (hro : F.round = none) (a : Option Addr) (len cap : Nat) (w : World) :
    CallsIn F n Tryz.prog 206 #[.slice a len cap, .int .i64 3] w fun e w' => e = .returned (.func (.func 231) #[] #[.pointer (some ⟨w.heap.size, 0, none⟩), .pointer (some ⟨w.heap.size + 1, 0, none⟩)]) ∧ w' = (w.alloc (.cells #[.slice a len cap] 28)).alloc (.cells #[.int .i64 3] 3) := by
  refine callsIn_of_wp Tryz.func206 rfl hf ?_ hro
  simp only [Tryz.ntmps206, List.size_toArray, List.length_cons, List.length_nil, Nat.reduceAdd, Nat.reduceSub, Array.replicate_succ, Array.replicate_zero, List.push_toArray, List.append_toArray, List.nil_append, List.cons_append]
  gi_wp2
  go_ret
  exact ⟨rfl, rfl⟩

theorem chunk_stops (F : Fence) (n : Nat) (hf : F.fn 231) (hro : F.round = none) (hn : 1 ≤ n) (Bs Bn n₀ b off m m3 cap : Nat) (hm3 : m3 = m * 3) (hm : m3 ≤ 1000000) (hc3 : m3 ≤ cap) (hcap : cap ≤ 9223372036854775807) (w : World) (hBs : Boxed w Bs 28 (.slice (some ⟨b, off, none⟩) m3 cap)) (hBn : Boxed w Bn 3 (.int .i64 3)) :
    SeqStopsK F n Tryz.prog 231 #[.pointer (some ⟨Bs, 0, none⟩), .pointer (some ⟨Bn, 0, none⟩)] (fun x : Fin m => #[Value.slice (some ⟨b, off + x.val * 3, none⟩) 3 3]) (Kc n₀ Bs Bn) (fun ys => ys.map Fin.val = List.range m) (fun _ => True) m w := fun l J Jx W hW hJ _ hY h0 =>
  chunk1_in F n hf hro hn l Bs Bn n₀ b off m m3 cap hm3 hm hc3 hcap J Jx W hJ hY ((hW.block Bs hBs.lt).trans hBs) ((hW.block Bn hBn.lt).trans hBn) h0

theorem chunk_stops0 (F : Fence) (n : Nat) (hf : F.fn 231) (hro : F.round = none) (Bs Bn n₀ b off cap : Nat) (a : Option Addr) (w : World) (hBs : Boxed w Bs 28 (.slice a 0 cap)) :
    SeqStopsK F n Tryz.prog 231 #[.pointer (some ⟨Bs, 0, none⟩), .pointer (some ⟨Bn, 0, none⟩)] (fun x : Fin 0 => #[Value.slice (some ⟨b, off + x.val * 3, none⟩) 3 3]) (Kc n₀ Bs Bn) (fun ys => ys.map Fin.val = List.range 0) (fun _ => True) 0 w := fun l J _ W hW _ _ _ h0 =>
  (chunk0_in F n hf hro l Bs Bn cap a J W (show Boxed W Bs _ _ from (hW.block Bs hBs.lt).trans hBs).cell h0).mono fun _ _ ⟨he, hj⟩ => ⟨he, .inl ⟨[], rfl, hj⟩⟩

def frE (a : Option Addr) (n cap B b o2 : Nat) (V : Nat → Value) : Act :=
  { tmps := #[.slice a n cap, undef, .slice none 0 0, .pointer (some ⟨B, 0, none⟩), .slice (some ⟨b, o2, none⟩) 3 3, .slice a n cap, .func (.func 231) #[] #[.pointer (some ⟨B + 1, 0, none⟩), .pointer (some ⟨B + 2, 0, none⟩)], .slice (some ⟨b, o2, none⟩) 3 3, V 0, V 1, V 2, V 3, V 4, V 5, V 6, V 7, V 8, V 9, V 10, V 11, V 12, undef], defers := [] }

def putV (V : Nat → Value) (i : Nat) (v : Value) : Nat → Value := fun k => if k = i then v else V k

def valsE (v0 : Value) (b o2 q : Nat) (e0 e1 e2 : Int) (v1 : Value) : Nat → Value → Prop
  | 0, v => v = v0
  | 1, v => v = .slice (some ⟨b, o2, none⟩) 3 3
  | 2, v => v = .pointer (some ⟨b, o2, none⟩)
  | 3, v => v = .int .i64 e0
  | 4, v => v = .slice (some ⟨b, o2, none⟩) 3 3
  | 5, v => v = .pointer (some ⟨b, o2 + 1, none⟩)
  | 6, v => v = .int .i64 e1
  | 7, v => v = .slice (some ⟨b, o2, none⟩) 3 3
  | 8, v => v = .pointer (some ⟨b, o2 + 2, none⟩)
  | 9, v => v = .int .i64 e2
  | 10, v => v = .agg #[.int .i64 e0, .int .i64 e1, .int .i64 e2]
  | 11, v => v = .slice (some ⟨q, 0, none⟩) 1 1
  | 12, v => v = v1
  | _, _ => True

theorem valsE_put {P : Nat → Value → Prop} {d : Nat → Bool} {V : Nat → Value} (h : ∀ i, d i = true → P i (V i)) (i : Nat) (v : Value) (hv : P i v) : ∀ k, (k == i || d k) = true → P k (putV V i v k) := by
  intro k hk
  unfold putV
  by_cases e : k = i
  · subst e
    rw [if_pos rfl]
    exact hv
  · rw [if_neg e]
    exact h k (by simpa [e] using hk)

def stE (Wd Wa w1 wF : World) (d : Nat → Bool) : World := if d 13 then wF else if d 12 then w1 else if d 11 then Wa else Wd

theorem stE_same (Wd Wa w1 wF : World) (d : Nat → Bool) (i : Nat) (h1 : i ≠ 11) (h2 : i ≠ 12) (h3 : i ≠ 13) : stE Wd Wa w1 wF (fun k => k == i || d k) = stE Wd Wa w1 wF d := by
  unfold stE
  simp [Ne.symm h1, Ne.symm h2, Ne.symm h3]

theorem Kc.putObj {n₀ Bs Bn : Nat} {w : World} (hn : n₀ ≤ w.heap.size) (h1 : Bs < w.heap.size) (h2 : Bn < w.heap.size) (W : World) (l : Nat) (o o' : Obj) (hl : w.heap.size ≤ l) (h : W.heap[l]? = some o) (hc : o.isCells = false) (hw : o.isWalk = false) : Kc n₀ Bs Bn W (W.putObj l o') := by
  have g := grownBy_putObj' W l o'
  have lt := (Array.getElem?_eq_some_iff.1 h).1
  exact ⟨belowK_b hn W l o o' hl h hc hw, g.block Bs (by omega) (by intro e; cases e; omega), g.block Bn (by omega) (by intro e; cases e; omega)⟩

set_option maxRecDepth 100000 in
set_option maxHeartbeats 4000000 in
theorem entries_gen (ns : List Int) (m b off n cap : Nat) (a : Option Addr) (w : World) (hm : m ≤ 100000)
    (hcell : ∀ j, j < m * 3 → w.cell? ⟨b, off + j, none⟩ = some (.int .i64 (ns.getD j 0))) (hb : m ≠ 0 → b < w.heap.size)
    (hs : ∀ W : World, Boxed W (w.heap.size + 1) 28 (.slice a n cap) → Boxed W (w.heap.size + 2) 3 (.int .i64 3) → SeqStopsK Fence.wide 4 Tryz.prog 231 #[.pointer (some ⟨w.heap.size + 1, 0, none⟩), .pointer (some ⟨w.heap.size + 2, 0, none⟩)] (fun x : Fin m => #[Value.slice (some ⟨b, off + x.val * 3, none⟩) 3 3]) (Kc w.heap.size (w.heap.size + 1) (w.heap.size + 2)) (fun ys => ys.map Fin.val = List.range m) (fun _ => True) m W) :
    Calls Tryz.prog 172 #[.slice a n cap] w fun e w' => ∃ v, e = .returned v ∧ w'.ownsRow w.heap.size 68 3 v m (((List.range m).map (ent ns)).flatMap ec) ∧ Below w.heap.size w w' := by
  obtain ⟨i0, hi, hz0, hz1, hz2⟩ := info_parts infoE
  refine (callsIn_wide (n := 5)).1 ?_
  refine callsIn_of_wp_marks Tryz.func172 rfl trivial ?_ rfl
  simp only [Tryz.ntmps172, List.size_toArray, List.length_cons, List.length_nil, Nat.reduceAdd, Nat.reduceSub, Array.replicate_succ, Array.replicate_zero, List.push_toArray, List.append_toArray, List.nil_append, List.cons_append]
  gi_wp2
  refine ⟨trivial, ?_⟩
  refine (chunk_in Fence.wide 4 trivial rfl _ _ _ _).mono ?_
  rintro e w' ⟨rfl, rfl⟩
  gi_wp2
  have bO := ((Boxed.new w 64 (.slice none 0 0)).alloc (.cells #[.slice a n cap] 28)).alloc (.cells #[.int .i64 3] 3)
  have bS := (Boxed.new (w.alloc (.cells #[.slice none 0 0] 64)) 28 (.slice a n cap)).alloc (.cells #[.int .i64 3] 3)
  have bN := Boxed.new ((w.alloc (.cells #[.slice none 0 0] 64)).alloc (.cells #[.slice a n cap] 28)) 3 (.int .i64 3)
  rw [World.size_alloc] at bS
  rw [World.size_alloc, World.size_alloc] at bN
  have hB0 : Below w.heap.size w (((w.alloc (.cells #[.slice none 0 0] 64)).alloc (.cells #[.slice a n cap] 28)).alloc (.cells #[.int .i64 3] 3)) := newB (newB (newB (Below.refl _ w) _) _) _
  have hsz : (((w.alloc (.cells #[.slice none 0 0] 64)).alloc (.cells #[.slice a n cap] 28)).alloc (.cells #[.int .i64 3] 3)).heap.size = w.heap.size + 3 := by simp
  generalize ((w.alloc (.cells #[.slice none 0 0] 64)).alloc (.cells #[.slice a n cap] 28)).alloc (.cells #[.int .i64 3] 3) = W3 at *
  have h15 : 1 ≤ 5 := by decide
  refine wpIn_rangeFunc_ownG (α := Fin m) (ps := #[7]) rfl h15 (gf := 231) (lb := #[.pointer (some ⟨w.heap.size + 1, 0, none⟩), .pointer (some ⟨w.heap.size + 2, 0, none⟩)]) rfl trivial (enters_of Tryz.func231 (by kernel_rfl) rfl)
    (hs W3 bS bN) Kc.trans (Kc.putObj (w := W3) (by omega) (by omega) (by omega)) (Below.refl _ _) (fun _ => rfl)
    (fun (pre : List (Fin m)) W => (∃ v, Boxed W w.heap.size 64 v ∧ W.ownsRow w.heap.size 68 3 v pre.length ((pre.map (fun x => ent ns x.val)).flatMap ec) ∧ True) ∧ (Boxed W (w.heap.size + 1) 28 (.slice a n cap) ∧ Boxed W (w.heap.size + 2) 3 (.int .i64 3)) ∧ Below w.heap.size w W)
    (fun _ _ _ => False)
    (OwnFrom.and (Own.from (holdsRow_own w.heap.size w.heap.size 64 68 3 (fun pre : List (Fin m) => pre.length) (fun pre : List (Fin m) => (pre.map (fun x => ent ns x.val)).flatMap ec) (fun _ _ => True)) _) (OwnFrom.and (OwnFrom.and (Own.from (boxed_own _ _ (fun _ => .slice a n cap)) _) (Own.from (boxed_own _ _ (fun _ => .int .i64 3)) _)) (ownFrom_below (Nat.le_refl _) (by omega))))
    (fun _ _ _ _ _ hs _ _ => hs)
    ⟨⟨_, bO, World.ownsRow_nil _ _ _ _, trivial⟩, ⟨bS, bN⟩, hB0⟩
    (fun x : Fin m => { tmps := #[.slice a n cap, undef, .slice none 0 0, .pointer (some ⟨w.heap.size, 0, none⟩), .slice (some ⟨b, off + x.val * 3, none⟩) 3 3, .slice a n cap, .func (.func 231) #[] #[.pointer (some ⟨w.heap.size + 1, 0, none⟩), .pointer (some ⟨w.heap.size + 2, 0, none⟩)], .slice (some ⟨b, off + x.val * 3, none⟩) 3 3, undef, undef, undef, undef, undef, undef, undef, undef, undef, undef, undef, undef, undef, undef], defers := [] }) ?assign ?body ?done ?stop
  case assign =>
    intro l x W K hK
    gi_wp2
    exact hK
  case body =>
    rintro l pre x W ⟨⟨v, hv, hrow, -⟩, ⟨hS, hN⟩, hB⟩ hlt
    have mixed : Tryz.prog.follows .mixedOrders = true := by kernel_rfl
    have hx3 : x.val * 3 + 2 < m * 3 := by have := x.isLt; omega
    have hbl : b < w.heap.size := hb (by have := x.isLt; omega)
    have c0 := (hB.cell (p := ⟨b, off + x.val * 3, none⟩) hbl).trans (hcell (x.val * 3) (by omega))
    have c1 := (hB.cell (p := ⟨b, off + x.val * 3 + 1, none⟩) hbl).trans (hcell (x.val * 3 + 1) (by omega))
    have c2 := (hB.cell (p := ⟨b, off + x.val * 3 + 2, none⟩) hbl).trans (hcell (x.val * 3 + 2) (by omega))
    have hent : ent ns x.val = (ns.getD (x.val * 3) 0, ns.getD (x.val * 3 + 1) 0, ns.getD (x.val * 3 + 2) 0) := rfl
    generalize ns.getD (x.val * 3) 0 = e0 at *
    generalize ns.getD (x.val * 3 + 1) 0 = e1 at *
    generalize ns.getD (x.val * 3 + 2) 0 = e2 at *
    obtain ⟨ao, G, rfl⟩ : ∃ ao G, v = .slice ao pre.length G := by
      rcases hrow.2 with ⟨h, h'⟩ | ⟨g, cap', cur, h, _⟩
      · exact ⟨none, 0, by rw [h, h']⟩
      · exact ⟨_, _, h⟩
    have hcO := hv.cell
    have hD : Below W.heap.size W W.drew := belowDrew (Below.refl _ _)
    have hrowD := ownCall hrow hD
    have hvD : Boxed W.drew w.heap.size 64 (.slice ao pre.length G) := hv
    obtain ⟨g7, G7, w1, hrun, own1, grow1, -, lt1⟩ := run_append_lies (P := Tryz.prog) (W.drew.alloc (.cells #[.int .i64 e0, .int .i64 e1, .int .i64 e2] 68)) 64 64 w.heap.size 68 i0 _ 3 24 Tryz.underlying64 hi hz0 hz1 hz2 rfl (by decide) (.slice ao pre.length G) pre.length _ (hrowD.alloc _) ⟨W.heap.size, 0, none⟩ 1 1 [.int .i64 e0, .int .i64 e1, .int .i64 e2] rfl (World.news_of_block (cs := #[.int .i64 e0, .int .i64 e1, .int .i64 e2]) (t := 68) (fr := (0, 0)) (heap_alloc_new W.drew _)) (by simp [Value.oneCell']) (by decide) (by unfold maxLen; omega) (by omega) (by have := hB.size; simp; omega) _ rfl
    obtain ⟨hv1, hv2, hr2, hk2, hb2⟩ := hvD.appended (by decide) hrowD hB.size (Nat.le_refl _) own1 grow1
    have cw1 := hv1.cell
    have fw1 := hv1.frozen
    have kS : some (w.heap.size + 1) ≠ (Value.slice ao pre.length G).ownBlock := hS.not_row (by decide) hrow
    have kN : some (w.heap.size + 2) ≠ (Value.slice ao pre.length G).ownBlock := hN.not_row (by decide) hrow
    have hS1 : Boxed w1 (w.heap.size + 1) 28 (.slice a n cap) := ((show Boxed W.drew _ _ _ from hS).alloc _).kept grow1 kS
    have hN1 : Boxed w1 (w.heap.size + 2) 3 (.int .i64 3) := ((show Boxed W.drew _ _ _ from hN).alloc _).kept grow1 kN
    have hS2 := hS1.other (B' := w.heap.size) (by omega) (.slice (some ⟨g7, 0, none⟩) (pre.length + 1) G7)
    have hN2 := hN1.other (B' := w.heap.size) (by omega) (.slice (some ⟨g7, 0, none⟩) (pre.length + 1) G7)
    have fin : ∀ W', W' = w1.setCell ⟨w.heap.size, 0, none⟩ (.slice (some ⟨g7, 0, none⟩) (pre.length + 1) G7) → KeepsFrom W3.heap.size W W' ∧ Kc w.heap.size (w.heap.size + 1) (w.heap.size + 2) W W' ∧ ((∃ v, Boxed W' w.heap.size 64 v ∧ W'.ownsRow w.heap.size 68 3 v (pre ++ [x]).length (((pre ++ [x]).map (fun x => ent ns x.val)).flatMap ec) ∧ True) ∧ (Boxed W' (w.heap.size + 1) 28 (.slice a n cap) ∧ Boxed W' (w.heap.size + 2) 3 (.int .i64 3)) ∧ Below w.heap.size w W') := by
      rintro W' rfl
      have bb : Below w.heap.size W _ := (hD.mono hB.size).trans hb2
      refine ⟨((KeepsOthers.drew W).trans hk2).from _, ⟨bb, hS2.trans hS.symm, hN2.trans hN.symm⟩, ⟨_, hv2, ?_, trivial⟩, ⟨hS2, hN2⟩, hB.trans bb⟩
      rw [List.length_append, List.map_append, List.flatMap_append]
      simpa [hent, ec] using hr2
    clear hs hS1 hN1 hS2 hN2 hv1 hv2 hr2 hk2 hb2 own1 grow1 kS kN hrowD hvD hrow hS hN
    gi_wp2
    have cOa : (W.drew.alloc (.cells #[.int .i64 e0, .int .i64 e1, .int .i64 e2] 68)).cell? ⟨w.heap.size, 0, none⟩ = some (.slice ao pre.length G) := (World.cell?_alloc_some W.drew _ _ (by rw [show W.drew.cell? ⟨w.heap.size, 0, none⟩ = _ from hcO]; rfl)).trans hcO
    refine wpIn_region_inv (by kernel_rfl) (by kernel_rfl) (mild_of (by kernel_rfl)) (fun d a' W' => ∃ V, a' = frE a n cap w.heap.size b (off + x.val * 3) V ∧ (∀ i, d i = true → valsE (.slice ao pre.length G) b (off + x.val * 3) W.heap.size e0 e1 e2 (.slice (some ⟨g7, 0, none⟩) (pre.length + 1) G7) i (V i)) ∧ W' = stE W.drew (W.drew.alloc (.cells #[.int .i64 e0, .int .i64 e1, .int .i64 e2] 68)) w1 (w1.setCell ⟨w.heap.size, 0, none⟩ (.slice (some ⟨g7, 0, none⟩) (pre.length + 1) G7)) d) ?step ?fin ?start
    case start => exact ⟨fun _ => undef, rfl, fun _ h => Bool.noConfusion h, rfl⟩
    case fin =>
      intro d a' W' hall inv
      obtain ⟨V, rfl, _, hW⟩ := inv
      have h13 : d 13 = true := hall 13 (by decide)
      unfold stE at hW
      rw [if_pos h13] at hW
      subst hW
      unfold frE
      gi_wp2
      exact fin _ rfl
    case step =>
      intro i o d a' W' hi' ho hd hall down inv K' hK
      obtain ⟨V, rfl, hv, hW⟩ := inv
      have HW := hide hW
      clear hW
      have key : i = 0 ∨ i = 1 ∨ i = 2 ∨ i = 3 ∨ i = 4 ∨ i = 5 ∨ i = 6 ∨ i = 7 ∨ i = 8 ∨ i = 9 ∨ i = 10 ∨ i = 11 ∨ i = 12 ∨ i = 13 := by
        have : i < 14 := hi'
        omega
      clear hi'
      rcases key with rfl | rfl | rfl | rfl | rfl | rfl | rfl | rfl | rfl | rfl | rfl | rfl | rfl | rfl
      · obtain rfl := Option.some.inj ho
        rw [if_pos (by rfl)]
        have h12 : d 12 = false := no down 12 _ rfl ⟨0, .data⟩ (by simp) rfl hd
        have h13 : d 13 = false := no down 13 _ rfl ⟨12, .data⟩ (by simp) rfl h12
        have ec' : W'.cell? ⟨w.heap.size, 0, none⟩ = some (.slice ao pre.length G) := by
          rw [HW.out]
          unfold stE
          rw [h13, h12]
          cases d 11
          · exact hcO
          · exact cOa
        have lB' : w.heap.size < W'.heap.size := World.block_lt_of_cell? _ _ ec'
        unfold frE
        go_simp
        refine hK _ _ ⟨putV V 0 _, ?_, valsE_put hv 0 _ rfl, by rw [HW.out, stE_same _ _ _ _ _ _ (by decide) (by decide) (by decide)]⟩
        unfold frE putV
        simp
      · obtain rfl := Option.some.inj ho
        rw [if_pos (by rfl)]
        unfold frE
        go_simp
        refine hK _ _ ⟨putV V 1 _, ?_, valsE_put hv 1 _ rfl, by rw [HW.out, stE_same _ _ _ _ _ _ (by decide) (by decide) (by decide)]⟩
        unfold frE putV
        simp
      · obtain rfl := Option.some.inj ho
        rw [if_pos (by rfl)]
        have q1 : V 1 = .slice (some ⟨b, off + x.val * 3, none⟩) 3 3 := hv 1 (hall ⟨1, .data⟩ (by simp) rfl)
        unfold frE
        rw [q1]
        go_simp
        refine hK _ _ ⟨putV V 2 _, ?_, valsE_put hv 2 _ rfl, by rw [HW.out, stE_same _ _ _ _ _ _ (by decide) (by decide) (by decide)]⟩
        unfold frE putV
        simp [q1]
      · obtain rfl := Option.some.inj ho
        rw [if_pos (by rfl)]
        have q2 : V 2 = .pointer (some ⟨b, off + x.val * 3, none⟩) := hv 2 (hall ⟨2, .data⟩ (by simp) rfl)
        have h10 : d 10 = false := no down 10 _ rfl ⟨3, .data⟩ (by simp) rfl hd
        have h11 : d 11 = false := no down 11 _ rfl ⟨10, .data⟩ (by simp) rfl h10
        have h12 : d 12 = false := no down 12 _ rfl ⟨11, .data⟩ (by simp) rfl h11
        have h13 : d 13 = false := no down 13 _ rfl ⟨12, .data⟩ (by simp) rfl h12
        have ec' : W'.cell? ⟨b, off + x.val * 3, none⟩ = some (.int .i64 e0) := by
          rw [HW.out]
          unfold stE
          rw [h13, h12, h11]
          exact c0
        have lb' := World.block_lt_of_cell? _ _ ec'
        unfold frE
        rw [q2]
        go_simp
        refine hK _ _ ⟨putV V 3 _, ?_, valsE_put hv 3 _ rfl, by rw [HW.out, stE_same _ _ _ _ _ _ (by decide) (by decide) (by decide)]⟩
        unfold frE putV
        simp [q2]
      · obtain rfl := Option.some.inj ho
        rw [if_pos (by rfl)]
        unfold frE
        go_simp
        refine hK _ _ ⟨putV V 4 _, ?_, valsE_put hv 4 _ rfl, by rw [HW.out, stE_same _ _ _ _ _ _ (by decide) (by decide) (by decide)]⟩
        unfold frE putV
        simp
      · obtain rfl := Option.some.inj ho
        rw [if_pos (by rfl)]
        have q4 : V 4 = .slice (some ⟨b, off + x.val * 3, none⟩) 3 3 := hv 4 (hall ⟨4, .data⟩ (by simp) rfl)
        unfold frE
        rw [q4]
        go_simp
        refine hK _ _ ⟨putV V 5 _, ?_, valsE_put hv 5 _ rfl, by rw [HW.out, stE_same _ _ _ _ _ _ (by decide) (by decide) (by decide)]⟩
        unfold frE putV
        simp [q4]
      · obtain rfl := Option.some.inj ho
        rw [if_pos (by rfl)]
        have q5 : V 5 = .pointer (some ⟨b, off + x.val * 3 + 1, none⟩) := hv 5 (hall ⟨5, .data⟩ (by simp) rfl)
        have h10 : d 10 = false := no down 10 _ rfl ⟨6, .data⟩ (by simp) rfl hd
        have h11 : d 11 = false := no down 11 _ rfl ⟨10, .data⟩ (by simp) rfl h10
        have h12 : d 12 = false := no down 12 _ rfl ⟨11, .data⟩ (by simp) rfl h11
        have h13 : d 13 = false := no down 13 _ rfl ⟨12, .data⟩ (by simp) rfl h12
        have ec' : W'.cell? ⟨b, off + x.val * 3 + 1, none⟩ = some (.int .i64 e1) := by
          rw [HW.out]
          unfold stE
          rw [h13, h12, h11]
          exact c1
        have lb' := World.block_lt_of_cell? _ _ ec'
        unfold frE
        rw [q5]
        go_simp
        refine hK _ _ ⟨putV V 6 _, ?_, valsE_put hv 6 _ rfl, by rw [HW.out, stE_same _ _ _ _ _ _ (by decide) (by decide) (by decide)]⟩
        unfold frE putV
        simp [q5]
      · obtain rfl := Option.some.inj ho
        rw [if_pos (by rfl)]
        unfold frE
        go_simp
        refine hK _ _ ⟨putV V 7 _, ?_, valsE_put hv 7 _ rfl, by rw [HW.out, stE_same _ _ _ _ _ _ (by decide) (by decide) (by decide)]⟩
        unfold frE putV
        simp
      · obtain rfl := Option.some.inj ho
        rw [if_pos (by rfl)]
        have q7 : V 7 = .slice (some ⟨b, off + x.val * 3, none⟩) 3 3 := hv 7 (hall ⟨7, .data⟩ (by simp) rfl)
        unfold frE
        rw [q7]
        go_simp
        refine hK _ _ ⟨putV V 8 _, ?_, valsE_put hv 8 _ rfl, by rw [HW.out, stE_same _ _ _ _ _ _ (by decide) (by decide) (by decide)]⟩
        unfold frE putV
        simp [q7]
      · obtain rfl := Option.some.inj ho
        rw [if_pos (by rfl)]
        have q8 : V 8 = .pointer (some ⟨b, off + x.val * 3 + 2, none⟩) := hv 8 (hall ⟨8, .data⟩ (by simp) rfl)
        have h10 : d 10 = false := no down 10 _ rfl ⟨9, .data⟩ (by simp) rfl hd
        have h11 : d 11 = false := no down 11 _ rfl ⟨10, .data⟩ (by simp) rfl h10
        have h12 : d 12 = false := no down 12 _ rfl ⟨11, .data⟩ (by simp) rfl h11
        have h13 : d 13 = false := no down 13 _ rfl ⟨12, .data⟩ (by simp) rfl h12
        have ec' : W'.cell? ⟨b, off + x.val * 3 + 2, none⟩ = some (.int .i64 e2) := by
          rw [HW.out]
          unfold stE
          rw [h13, h12, h11]
          exact c2
        have lb' := World.block_lt_of_cell? _ _ ec'
        unfold frE
        rw [q8]
        go_simp
        refine hK _ _ ⟨putV V 9 _, ?_, valsE_put hv 9 _ rfl, by rw [HW.out, stE_same _ _ _ _ _ _ (by decide) (by decide) (by decide)]⟩
        unfold frE putV
        simp [q8]
      · obtain rfl := Option.some.inj ho
        rw [if_pos (by rfl)]
        have q3 : V 3 = .int .i64 e0 := hv 3 (hall ⟨3, .data⟩ (by simp) rfl)
        have q6 : V 6 = .int .i64 e1 := hv 6 (hall ⟨6, .data⟩ (by simp) rfl)
        have q9 : V 9 = .int .i64 e2 := hv 9 (hall ⟨9, .data⟩ (by simp) rfl)
        unfold frE
        rw [q3, q6, q9]
        go_simp
        refine hK _ _ ⟨putV V 10 _, ?_, valsE_put hv 10 _ rfl, by rw [HW.out, stE_same _ _ _ _ _ _ (by decide) (by decide) (by decide)]⟩
        unfold frE putV
        simp [q3, q6, q9]
      · obtain rfl := Option.some.inj ho
        rw [if_pos (by rfl)]
        have q10 : V 10 = .agg #[.int .i64 e0, .int .i64 e1, .int .i64 e2] := hv 10 (hall ⟨10, .data⟩ (by simp) rfl)
        have h12 : d 12 = false := no down 12 _ rfl ⟨11, .data⟩ (by simp) rfl hd
        have h13 : d 13 = false := no down 13 _ rfl ⟨12, .data⟩ (by simp) rfl h12
        have hW := HW.out
        unfold stE at hW
        rw [h13, h12, hd] at hW
        simp only [Bool.false_eq_true, if_false] at hW
        clear HW
        subst hW
        unfold frE
        rw [q10]
        go_simp
        refine hK _ _ ⟨putV V 11 _, ?_, valsE_put hv 11 _ rfl, ?_⟩
        · unfold frE putV
          simp [q10]
        · unfold stE
          simp [h12, h13]
          rfl
      · obtain rfl := Option.some.inj ho
        rw [if_pos (by rfl)]
        have q0 : V 0 = .slice ao pre.length G := hv 0 (hall ⟨0, .data⟩ (by simp) rfl)
        have q11 : V 11 = .slice (some ⟨W.heap.size, 0, none⟩) 1 1 := hv 11 (hall ⟨11, .data⟩ (by simp) rfl)
        have h13 : d 13 = false := no down 13 _ rfl ⟨12, .data⟩ (by simp) rfl hd
        have h11 : d 11 = true := hall ⟨11, .data⟩ (by simp) rfl
        have hW := HW.out
        unfold stE at hW
        rw [h13, hd, h11] at hW
        simp only [Bool.false_eq_true, if_false, if_true] at hW
        clear HW
        subst hW
        refine Lib.wp_append_run _ (.tmp 8) (.tmp 19) _ _ rfl (.slice ao pre.length G) (.slice (some ⟨W.heap.size, 0, none⟩) 1 1) q0 q11 _ _ hrun ?_
        refine hK _ _ ⟨putV V 12 _, ?_, valsE_put hv 12 _ rfl, ?_⟩
        · rfl
        · unfold stE
          simp [h13]
      · obtain rfl := Option.some.inj ho
        rw [if_pos (by rfl)]
        have q12 : V 12 = .slice (some ⟨g7, 0, none⟩) (pre.length + 1) G7 := hv 12 (hall ⟨12, .data⟩ (by simp) rfl)
        have h12 : d 12 = true := hall ⟨12, .data⟩ (by simp) rfl
        have hW := HW.out
        unfold stE at hW
        rw [hd, h12] at hW
        simp only [Bool.false_eq_true, if_false, if_true] at hW
        clear HW
        subst hW
        have l1 := World.block_lt_of_cell? _ _ cw1
        unfold frE
        rw [q12]
        go_simp
        refine hK _ _ ⟨V, ?_, ?_, ?_⟩
        · unfold frE
          simp [q12]
        · intro k hk
          by_cases e : k = 13
          · subst e
            trivial
          · exact hv k (by simpa [e] using hk)
        · unfold stE
          simp
  case done =>
    rintro D ys W hD hys ⟨⟨v, hv, hrow, -⟩, -, hB⟩ hK
    have hc := hv.cell
    gi_wp2
    refine ⟨by simp, .inl ⟨_, _, rfl, run_takeDeferred hK, ?_⟩⟩
    have hl : ys.length = m := chunks m m ys hys
    have he : ys.map (fun x => ent ns x.val) = (List.range m).map (ent ns) := by rw [← hys, List.map_map]; rfl
    rw [hl, he] at hrow
    exact ⟨_, results_tmp rfl _ _ _, v, rfl, ownsRow_putObj hrow _ hK rfl, hB.trans (belowK_b (w := w) (Nat.le_refl _) W D _ _ (by omega) hK rfl rfl)⟩
  case stop =>
    rintro D c pre W _ _ h _
    exact h.elim

theorem entries_any (ns : List Int) (m n cap : Nat) (a : Option Addr) (w : World) (S : Sl w a cap (ns.map (Value.int .i64))) (hn : n = ns.length) (h3 : n = m * 3) (hm : m ≤ 100000) :
    Calls Tryz.prog 172 #[.slice a n cap] w fun e w' => ∃ v, e = .returned v ∧ w'.ownsRow w.heap.size 68 3 v m ((chunkL ns).flatMap ec) ∧ Below w.heap.size w w' := by
  rw [← chunk_range m ns (by omega)]
  by_cases h0 : m = 0
  · subst h0
    obtain rfl : n = 0 := by omega
    exact entries_gen ns 0 0 0 0 cap a w hm (fun j hj => absurd hj (by omega)) (fun h => absurd rfl h) (fun W hS _ => chunk_stops0 Fence.wide 4 trivial rfl _ _ _ 0 0 cap a W hS)
  · obtain ⟨b, off, rfl, hb, hc⟩ := S.row.at (by intro h; have := congrArg List.length h; simp at this; subst this; simp at hn; omega)
    have hle := S.le
    rw [List.length_map, ← hn] at hle
    refine entries_gen ns m b off n cap _ w hm (fun j hj => ?_) (fun _ => hb) (fun W hS hN => chunk_stops Fence.wide 4 trivial rfl (by decide) _ _ _ b off m n cap h3 (by omega) hle S.max W hS hN)
    have hj' : j < ns.length := by omega
    refine hc j _ ?_
    rw [List.getElem?_map, List.getElem?_eq_getElem hj']
    simp [List.getD, hj']

end Go.Proofs.YtcjdpilmhlfmfaaGreatDoor

/-
  Texts as records, as plain lists: what note.read and note.Parse say. No program is named.
-/
namespace Go.Proofs.YtcjdpilmhlfmfaaGreatDoor

/-- The record that words tell. -/
def readR : List (List UInt8) → Option Rc
  | [] => none
  | w :: r => (readNums r).bind fun ns =>
    if w = wBatch ∧ ns.length % 3 = 0 then some ⟨1, 0, 0, chunkL ns⟩
    else if w = wSeal ∧ ns.length = 2 then some ⟨2, ns.getD 0 0, ns.getD 1 0, []⟩
    else if w = wMerge ∧ ns.length = 2 then some ⟨3, ns.getD 0 0, ns.getD 1 0, []⟩
    else if w = wDrop ∧ ns.length = 1 then some ⟨4, 0, ns.getD 0 0, []⟩
    else none

def blank : ByteArray := ⟨#[32]⟩

def wordsB (s : ByteArray) : List ByteArray := Lib.splitB blank 0 (Lib.countB s blank) s

def textR (s : ByteArray) : Option Rc := readR ((wordsB s).map bytes)

theorem split_small (sep : ByteArray) (sv : Nat) : ∀ (k : Nat) (s b : ByteArray), b ∈ Lib.splitB sep sv k s → b.size ≤ s.size
  | 0, s, b, h => by
    rw [Lib.splitB_zero] at h
    simp at h
    subst h
    exact Nat.le_refl _
  | k + 1, s, b, h => by
    unfold Lib.splitB at h
    split at h
    · simp at h
      subst h
      exact Nat.le_refl _
    · rcases List.mem_cons.1 h with h | h
      · subst h
        rw [ByteArray.size_extract]
        omega
      · have := split_small sep sv k _ b h
        rw [ByteArray.size_extract] at this
        omega

theorem chunk_length : ∀ (m : Nat) (ns : List Int), ns.length = m * 3 → (chunkL ns).length = m := fun m ns h => by
  rw [← chunk_range m ns h]
  simp

end Go.Proofs.YtcjdpilmhlfmfaaGreatDoor

/-
  Two slices of the call's own whose elements are of two types lie in two blocks.
-/
namespace Go.Proofs.YtcjdpilmhlfmfaaGreatDoor
open Go.RowKit

theorem apartTy {w : World} {b1 b2 s1 s2 n m : Nat} {t1 t2 : TypeId} {u v : Value} {xs ys : List Value} (h : w.ownsRow b1 t1 s1 u n xs) (k : w.ownsRow b2 t2 s2 v m ys) (ht : t1 ≠ t2) : Apart u v := by
  intro g hu hv
  rcases h.2 with ⟨rfl, _⟩ | ⟨g1, c1, cur1, rfl, _, h1, _⟩
  · simp [Value.ownBlock] at hu
  rcases k.2 with ⟨rfl, _⟩ | ⟨g2, c2, cur2, rfl, _, h2, _⟩
  · simp [Value.ownBlock] at hv
  have e1 : g1 = g := Option.some.inj hu
  have e2 : g2 = g := Option.some.inj hv
  subst e1
  subst e2
  rw [h1] at h2
  simp only [Option.some.injEq, Obj.cells.injEq] at h2
  exact ht h2.2.1

theorem ownNe {w : World} {base n g : Nat} {e t : TypeId} {size : Nat} {v : Value} {xs cs : List Value} (h : w.ownsRow base e size v n xs) (B : Blk w g cs t) (ht : e ≠ t) : v.ownBlock ≠ some g := by
  rcases h.2 with ⟨rfl, _⟩ | ⟨g1, c1, cur1, rfl, _, h1, _⟩
  · intro e; cases e
  · intro e
    have e1 : g1 = g := by simpa [Value.ownBlock] using e
    subst e1
    have h2 := h1.symm.trans B
    simp only [Option.some.injEq, Obj.cells.injEq] at h2
    exact ht h2.2.1

theorem owndown {w : World} {base base' : Nat} {e : TypeId} {size n : Nat} {v : Value} {xs : List Value} (h : w.ownsRow base e size v n xs) (hb : base' ≤ base) : w.ownsRow base' e size v n xs := by
  refine ⟨h.1, ?_⟩
  rcases h.2 with h0 | ⟨g, cap, cur, e1, h1, h2⟩
  · exact .inl h0
  · exact .inr ⟨g, cap, cur, e1, Nat.le_trans hb h1, h2⟩

end Go.Proofs.YtcjdpilmhlfmfaaGreatDoor

/-
  note.write: a word and numbers, a blank ahead of each.
-/
namespace Go.Proofs.YtcjdpilmhlfmfaaGreatDoor
open Go.RowKit

set_option maxHeartbeats 1000000 in
set_option maxRecDepth 100000 in
theorem write_any (wd : ByteArray) (ns : List Int) (a : Option Addr) (cap n : Nat) (w : World) (hg : Gl w) (S : Sl w a cap (ns.map (Value.int .i64))) (hn : n = ns.length) (hb : ∀ m ∈ ns, -9223372036854775808 ≤ m ∧ m ≤ 9223372036854775807) (few : n ≤ 1000) (hw : wd.size ≤ 1000) :
    Calls Tryz.prog 232 #[.string wd, .slice a n cap] w fun e w' => e = .returned (.string ⟨(wd.data.toList ++ numsT ns).toArray⟩) ∧ Below w.heap.size w w' := by
  replace hn := hide hn
  have I0 := Lib.IsBuilderF.of (Lib.fresh_isBuilder 212 5 w)
  have bel : Below w.heap.size w (w.alloc (.cells #[.pointer none, .slice none 0 0] 212)) := (Below.refl _ _).alloc (Nat.le_refl _) _
  go_enter Tryz.func232, Tryz.ntmps232
  go_wp2_with fail
  generalize w.alloc _ = w1 at *
  go_at_call 179
  refine (writeString w.heap.size w.heap.size [] wd _ I0 (by simp; omega) bel.size).mono ?_
  rintro e w2 ⟨rfl, I1, b2, -⟩
  have bel2 : Below w.heap.size w w2 := bel.trans b2
  replace I1 : Lib.IsBuilderF 212 5 w.heap.size w.heap.size (Lib.byteCells (wd.data.toList ++ numsT (ns.take 0))) w2 := .inr (by simpa [numsT, Lib.strCells_eq] using I1)
  clear I0 b2 bel
  go_wp2_with fail
  go_loopw [12] (fun i wr => ∃ (k : Nat), k ≤ n ∧ i = .int .i64 k ∧ Lib.IsBuilderF 212 5 w.heap.size w.heap.size (Lib.byteCells (wd.data.toList ++ numsT (ns.take k))) wr ∧ Below w.heap.size w wr) (fun i _ => n - (intOf i).toNat)
  case atStart => exact ⟨0, Nat.zero_le _, rfl, I1, bel2⟩
  case round =>
    clear I1 bel2
    obtain ⟨k, hk, rfl, I1, bel⟩ := hrel
    by_cases hlt : k < n
    · have hkl : k < ns.length := by rw [← hn.out]; exact hlt
      obtain ⟨m, hm⟩ : ∃ m, ns[k]? = some m := ⟨_, List.getElem?_eq_getElem hkl⟩
      have hm2 := hb m (List.mem_of_getElem? hm)
      have S1 := S.keep bel (Nat.le_refl _)
      obtain ⟨b1, o1, rfl, -, hc⟩ := S1.row.at (by intro h; have := congrArg List.length h; simp at this; subst this; simp at hkl)
      have d0 : wr.cell? ⟨b1, o1 + k, none⟩ = some (.int .i64 m) := hc k _ (by rw [List.getElem?_map, hm]; rfl)
      have g1 := hg.call bel
      have hle := numsT_le (ns.take k) (fun q hq => hb q (List.mem_of_mem_take hq))
      have hlen : (Lib.byteCells (wd.data.toList ++ numsT (ns.take k))).length ≤ 30000 := by
        rw [Lib.byteCells_length, List.length_append]
        have h1 : (ns.take k).length ≤ 1000 := by rw [List.length_take]; omega
        have h2 : wd.data.toList.length = wd.size := rfl
        omega
      have hit := itoa_le m hm2.1 hm2.2
      have hT : Lib.byteCells (wd.data.toList ++ numsT (ns.take k)) ++ [Value.int .u8 32] ++ Lib.strCells ⟨(Lib.itoa m).toArray⟩ = Lib.byteCells (wd.data.toList ++ numsT (ns.take (k + 1))) := by
        rw [List.take_add_one, hm]
        simp only [Option.toList_some]
        rw [numsT_snoc, Lib.strCells_eq, ← List.append_assoc, Lib.byteCells_append (_ ++ _) (32 :: _)]
        rw [List.append_assoc]
        rfl
      generalize Lib.byteCells (wd.data.toList ++ numsT (ns.take k)) = X at *
      replace hT := hide hT
      replace hm := hide hm
      clear S1 hc hkl hle
      go_wp2_with fail
      go_at_call 241
      refine (writeByte w.heap.size w.heap.size X 32 _ I1 (by omega) bel.size).mono ?_
      rintro e w3 ⟨rfl, I3, b3, -⟩
      have bel3 : Below w.heap.size w w3 := bel.trans b3
      have g3 := hg.call bel3
      go_wp2_with fail
      go_at_call 143
      refine (Tryz.strconv_Itoa m hm2.1 hm2.2 _ g3.tab).mono ?_
      rintro e w4 ⟨rfl, q, os, hw4⟩
      have b4 : Below w3.heap.size w3 w4 := by rw [hw4]; exact Lib.below_grow _ _ (Nat.le_refl _) _ _
      have I4 := isB_call (.inr I3) b4
      have bel4 := belowCall bel3 b4
      clear hw4 I3 b3 bel3 g3
      go_wp2_with fail
      go_at_call 179
      refine (writeString w.heap.size w.heap.size _ ⟨(Lib.itoa m).toArray⟩ _ I4 (by simp [ByteArray.size]; omega) bel4.size).mono ?_
      rintro e w5 ⟨rfl, I5, b5, -⟩
      rw [hT.out] at I5
      have bel5 : Below w.heap.size w w5 := bel4.trans b5
      clear I4 b4 b5 bel4
      go_wp2_with fail
      go_roundw
      case rel => exact ⟨k + 1, by omega, by go_num, .inr I5, bel5⟩
      case measure => simp [intOf]; omega
    · obtain rfl : n = k := by omega
      rw [List.take_of_length_le (by rw [← hn.out]; exact Nat.le_refl _)] at I1
      go_wp2_with fail
      go_at_call 180
      refine (Tryz.Builder_String_any_k w.heap.size w.heap.size _ _ I1 bel.size).mono ?_
      rintro e w5 ⟨rfl, -, b5, -⟩
      go_wp2_with fail
      go_ret
      exact ⟨rfl, bel.trans b5⟩

end Go.Proofs.YtcjdpilmhlfmfaaGreatDoor

/-
  note.Check, whatever the record.
-/
namespace Go.Proofs.YtcjdpilmhlfmfaaGreatDoor
open Go.RowKit

set_option maxHeartbeats 1000000 in
set_option maxRecDepth 100000 in
theorem checkBatch_any (s m : Int) (l : List Nt) (a : Option Addr) (cap n : Nat) (w : World) (S : SlW ec w a cap l) (hn : n = l.length) :
    Calls Tryz.prog 145 #[.agg #[.int .i64 1, .int .i64 s, .int .i64 m, .slice a n cap]] w fun e w' => e = .returned (.int .i64 (if s ≠ 0 ∨ m ≠ 0 then 4 else if 10 < l.length then 2 else if l.all ntOk then 0 else 3)) ∧ Below w.heap.size w w' := by
  by_cases hs : s = 0
  · subst hs
    by_cases hm : m = 0
    · subst hm
      rw [if_neg (by simp)]
      by_cases h10 : 10 < n
      · rw [if_pos (by rw [← hn]; exact h10)]
        have h10' : (10 : Int) < n := by omega
        replace hn := hide hn
        go_enter Tryz.func145, Tryz.ntmps145
        go_wp2_with fail
        go_ret
        exact ⟨rfl, (Below.refl _ _).alloc (Nat.le_refl _) _⟩
      · rw [if_neg (by rw [← hn]; exact h10)]
        exact batchLoop l a cap n w S hn (by omega)
    · rw [if_pos (.inr hm)]
      replace hn := hide hn
      have hm' : decide (m = 0) = false := decide_eq_false hm
      go_enter Tryz.func145, Tryz.ntmps145
      go_wp2_with fail
      go_ret
      exact ⟨rfl, (Below.refl _ _).alloc (Nat.le_refl _) _⟩
  · rw [if_pos (.inl hs)]
    replace hn := hide hn
    have hs' : decide (s = 0) = false := decide_eq_false hs
    go_enter Tryz.func145, Tryz.ntmps145
    go_wp2_with fail
    go_ret
    exact ⟨rfl, (Below.refl _ _).alloc (Nat.le_refl _) _⟩

def plainE (k s m : Int) (l : List Nt) : Int := if l ≠ [] ∨ (k = 4 ∧ s ≠ 0) then 4 else if 0 ≤ s ∧ s < 4 ∧ 0 ≤ m ∧ m ≤ 100001 then 0 else 3

set_option maxHeartbeats 1000000 in
set_option maxRecDepth 100000 in
theorem plain_rest (k s m : Int) (a : Option Addr) (cap : Nat) (w : World) (hk : k ≠ 4 ∨ s = 0) :
    Calls Tryz.prog 146 #[.agg #[.int .i64 k, .int .i64 s, .int .i64 m, .slice a 0 cap]] w fun e w' => e = .returned (.int .i64 (if 0 ≤ s ∧ s < 4 ∧ 0 ≤ m ∧ m ≤ 100001 then 0 else 3)) ∧ Below w.heap.size w w' := by
  obtain ⟨E, hE⟩ : ∃ E : Int, E = if 0 ≤ s ∧ s < 4 ∧ 0 ≤ m ∧ m ≤ 100001 then 0 else 3 := ⟨_, rfl⟩
  rw [← hE]
  have c1 := fun W => nIsSeries_any s W
  by_cases h4 : k = 4
  · obtain rfl : s = 0 := hk.resolve_left (fun h => h h4)
    subst h4
    rw [decide_eq_true (by omega : (0 : Int) ≤ 0 ∧ (0 : Int) < 4)] at c1
    clear hk
    by_cases m0 : m < 0
    · obtain rfl : E = 3 := by rw [hE, if_neg (by omega)]
      clear hE
      have d0 : decide (m < 0) = true := decide_eq_true m0
      go_enter Tryz.func146, Tryz.ntmps146
      go_wp2_with fail
      go_at_call 181
      refine (c1 _).mono ?_
      rintro e w2 ⟨rfl, rfl⟩
      go_wp2_with fail
      go_ret
      exact ⟨rfl, (Below.refl _ _).alloc (Nat.le_refl _) _⟩
    · have d0 : decide (m < 0) = false := decide_eq_false m0
      by_cases m1 : 100001 < m
      · obtain rfl : E = 3 := by rw [hE, if_neg (by omega)]
        clear hE
        have d1 : decide ((100001 : Int) < m) = true := decide_eq_true m1
        go_enter Tryz.func146, Tryz.ntmps146
        go_wp2_with fail
        go_at_call 181
        refine (c1 _).mono ?_
        rintro e w2 ⟨rfl, rfl⟩
        go_wp2_with fail
        go_ret
        exact ⟨rfl, (Below.refl _ _).alloc (Nat.le_refl _) _⟩
      · obtain rfl : E = 0 := by rw [hE, if_pos (by omega)]
        clear hE
        have d1 : decide ((100001 : Int) < m) = false := decide_eq_false m1
        go_enter Tryz.func146, Tryz.ntmps146
        go_wp2_with fail
        go_at_call 181
        refine (c1 _).mono ?_
        rintro e w2 ⟨rfl, rfl⟩
        go_wp2_with fail
        go_ret
        exact ⟨rfl, (Below.refl _ _).alloc (Nat.le_refl _) _⟩
  · have d4 : decide (k = 4) = false := decide_eq_false h4
    clear hk
    by_cases hs : 0 ≤ s ∧ s < 4
    · rw [decide_eq_true hs] at c1
      by_cases m0 : m < 0
      · obtain rfl : E = 3 := by rw [hE, if_neg (by omega)]
        clear hE
        have d0 : decide (m < 0) = true := decide_eq_true m0
        go_enter Tryz.func146, Tryz.ntmps146
        go_wp2_with fail
        go_at_call 181
        refine (c1 _).mono ?_
        rintro e w2 ⟨rfl, rfl⟩
        go_wp2_with fail
        go_ret
        exact ⟨rfl, (Below.refl _ _).alloc (Nat.le_refl _) _⟩
      · have d0 : decide (m < 0) = false := decide_eq_false m0
        by_cases m1 : 100001 < m
        · obtain rfl : E = 3 := by rw [hE, if_neg (by omega)]
          clear hE
          have d1 : decide ((100001 : Int) < m) = true := decide_eq_true m1
          go_enter Tryz.func146, Tryz.ntmps146
          go_wp2_with fail
          go_at_call 181
          refine (c1 _).mono ?_
          rintro e w2 ⟨rfl, rfl⟩
          go_wp2_with fail
          go_ret
          exact ⟨rfl, (Below.refl _ _).alloc (Nat.le_refl _) _⟩
        · obtain rfl : E = 0 := by rw [hE, if_pos (by omega)]
          clear hE
          have d1 : decide ((100001 : Int) < m) = false := decide_eq_false m1
          go_enter Tryz.func146, Tryz.ntmps146
          go_wp2_with fail
          go_at_call 181
          refine (c1 _).mono ?_
          rintro e w2 ⟨rfl, rfl⟩
          go_wp2_with fail
          go_ret
          exact ⟨rfl, (Below.refl _ _).alloc (Nat.le_refl _) _⟩
    · rw [decide_eq_false hs] at c1
      obtain rfl : E = 3 := by rw [hE, if_neg (by omega)]
      clear hE
      go_enter Tryz.func146, Tryz.ntmps146
      go_wp2_with fail
      go_at_call 181
      refine (c1 _).mono ?_
      rintro e w2 ⟨rfl, rfl⟩
      go_wp2_with fail
      go_ret
      exact ⟨rfl, (Below.refl _ _).alloc (Nat.le_refl _) _⟩

set_option maxHeartbeats 1000000 in
set_option maxRecDepth 100000 in
theorem checkPlain_any (k s m : Int) (l : List Nt) (a : Option Addr) (cap n : Nat) (w : World) (hn : n = l.length) :
    Calls Tryz.prog 146 #[.agg #[.int .i64 k, .int .i64 s, .int .i64 m, .slice a n cap]] w fun e w' => e = .returned (.int .i64 (plainE k s m l)) ∧ Below w.heap.size w w' := by
  unfold plainE
  by_cases h0 : n = 0
  · subst h0
    obtain rfl := List.length_eq_zero_iff.1 hn.symm
    by_cases hk : k = 4 ∧ s ≠ 0
    · rw [if_pos (.inr hk)]
      obtain ⟨rfl, hs⟩ := hk
      have d1 : decide (s = 0) = false := decide_eq_false hs
      clear hn
      go_enter Tryz.func146, Tryz.ntmps146
      go_wp2_with fail
      go_ret
      exact ⟨rfl, (Below.refl _ _).alloc (Nat.le_refl _) _⟩
    · rw [if_neg (by rintro (h | h); exact h rfl; exact hk h)]
      exact plain_rest k s m a cap w (by by_cases h4 : k = 4; exact .inr (Decidable.of_not_not (fun h => hk ⟨h4, h⟩)); exact .inl h4)
  · rw [if_pos (.inl (by intro h; subst h; exact h0 hn))]
    have hp : (0 : Int) < n := by omega
    have hd : decide (0 < n) = true := decide_eq_true (by omega)
    replace hn := hide hn
    go_enter Tryz.func146, Tryz.ntmps146
    go_wp2_with fail
    go_ret
    exact ⟨rfl, (Below.refl _ _).alloc (Nat.le_refl _) _⟩

set_option maxHeartbeats 1000000 in
set_option maxRecDepth 100000 in
theorem check_is (r : Rc) (a : Option Addr) (cap n : Nat) (w : World) (S : SlW ec w a cap r.e) (hn : n = r.e.length) :
    Calls Tryz.prog 115 #[.agg #[.int .i64 r.k, .int .i64 r.s, .int .i64 r.n, .slice a n cap]] w fun e w' => e = .returned (.int .i64 (recE r)) ∧ Below w.heap.size w w' := by
  obtain ⟨k, s, m, l⟩ := r
  simp only at *
  have cp := fun W => checkPlain_any k s m l a cap n W hn
  have S1 := S.alloc (.cells #[.int .i64 k, .int .i64 s, .int .i64 m, .slice a n cap] 66)
  have bel : Below w.heap.size w (w.alloc (.cells #[.int .i64 k, .int .i64 s, .int .i64 m, .slice a n cap] 66)) := (Below.refl _ _).alloc (Nat.le_refl _) _
  by_cases h1 : k = 1
  · subst h1
    have c := fun W h => checkBatch_any s m l a cap n W h hn
    rw [show recE ⟨1, s, m, l⟩ = if s ≠ 0 ∨ m ≠ 0 then 4 else if 10 < l.length then 2 else if l.all ntOk then 0 else 3 from rfl]
    generalize (if s ≠ 0 ∨ m ≠ 0 then (4 : Int) else if 10 < l.length then 2 else if l.all ntOk then 0 else 3) = E at *
    replace hn := hide hn
    go_enter Tryz.func115, Tryz.ntmps115
    go_wp2_with fail
    go_at_call 145
    refine (c _ S1).mono ?_
    rintro e w2 ⟨rfl, b2⟩
    go_wp2_with fail
    go_ret
    exact ⟨rfl, belowCall bel b2⟩
  · have d1 : decide (k = 1) = false := decide_eq_false h1
    by_cases h2 : k = 2 ∨ k = 3 ∨ k = 4
    · rw [show recE ⟨k, s, m, l⟩ = plainE k s m l by unfold recE plainE; rw [if_neg h1, if_pos h2]]
      generalize plainE k s m l = E at *
      replace hn := hide hn
      rcases h2 with rfl | rfl | rfl
      · go_enter Tryz.func115, Tryz.ntmps115
        go_wp2_with fail
        go_at_call 146
        refine (cp _).mono ?_
        rintro e w2 ⟨rfl, b2⟩
        go_wp2_with fail
        go_ret
        exact ⟨rfl, belowCall bel b2⟩
      · go_enter Tryz.func115, Tryz.ntmps115
        go_wp2_with fail
        go_at_call 146
        refine (cp _).mono ?_
        rintro e w2 ⟨rfl, b2⟩
        go_wp2_with fail
        go_ret
        exact ⟨rfl, belowCall bel b2⟩
      · go_enter Tryz.func115, Tryz.ntmps115
        go_wp2_with fail
        go_at_call 146
        refine (cp _).mono ?_
        rintro e w2 ⟨rfl, b2⟩
        go_wp2_with fail
        go_ret
        exact ⟨rfl, belowCall bel b2⟩
    · rw [show recE ⟨k, s, m, l⟩ = 4 by unfold recE; rw [if_neg h1, if_neg h2]]
      have d2 : ¬ k = 2 := fun h => h2 (.inl h)
      have d3 : ¬ k = 3 := fun h => h2 (.inr (.inl h))
      have d4 : ¬ k = 4 := fun h => h2 (.inr (.inr h))
      replace hn := hide hn
      clear h2 d1
      go_enter Tryz.func115, Tryz.ntmps115
      go_wp2_with fail
      go_ret
      exact ⟨rfl, bel⟩

end Go.Proofs.YtcjdpilmhlfmfaaGreatDoor
