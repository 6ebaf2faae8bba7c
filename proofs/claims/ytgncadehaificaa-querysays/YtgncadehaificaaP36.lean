/-
  rainbookref.Ranged: the points of a range, in memory of the call's own.
-/
import Derived.Deep.Cut
import Derived.Deep.CutRange
import Derived.Test.YtgncadehaificaaP07
import Derived.Test.YtgncadehaificaaP10
import Derived.Test.YtgncadehaificaaP01
import Derived.Test.YtgncadehaificaaP04
namespace Go.Proofs.Ytgncadehaificaa
open Go.RowKit

theorem rng_snoc {l : List Pt} {j : Nat} {p : Pt} (f t : Int) (hx : l[j]? = some p) : rngL (l.take (j + 1)) f t = if inR f t p = true then rngL (l.take j) f t ++ [p] else rngL (l.take j) f t := by
  unfold rngL
  rw [List.take_add_one, hx, List.filter_append]
  cases h : inR f t p with
  | true => simp [h]
  | false => simp [h]

set_option maxHeartbeats 1000000 in
set_option maxRecDepth 100000 in
theorem refRng_any (l : List Pt) (ao : Option Addr) (cap n : Nat) (f t : Int) (w : World) (S : SlP w ao cap l) (hn : l.length = n) (few : n ≤ 40) :
    Calls Try.prog 34 #[.slice ao n cap, .int .i64 f, .int .i64 t] w fun e w' => ∃ a' G', e = .returned (.slice a' (rngL l f t).length G') ∧ w'.ownsRow w.heap.size 44 2 (.slice a' (rngL l f t).length G') (rngL l f t).length (cellsP (rngL l f t)) ∧ Below w.heap.size w w' := by
  have hn0 : Hid (n = l.length) := hide hn.symm
  clear hn
  obtain ⟨R, hR⟩ : ∃ R, R = rngL l f t := ⟨_, rfl⟩
  rw [← hR]
  replace hR := hide hR
  obtain ⟨i0, hi, hz0, hz1, hz2⟩ := info_parts infoPoint
  go_enter Try.func34, Try.ntmps34
  go_wp2_with fail
  go_loopw [12, 7] (fun i o wr => ∃ (j q G : Nat) (a' : Option Addr) (O : List Pt), j ≤ n ∧ i = .int .i64 j ∧ o = .slice a' q G ∧ q ≤ j ∧ Hid (q = O.length) ∧ Hid (O = rngL (l.take j) f t) ∧ wr.ownsRow w.heap.size 44 2 (.slice a' q G) q (cellsP O) ∧ Below w.heap.size w wr) (fun i _ _ => n - (intOf i).toNat)
  case atStart => exact ⟨0, 0, 0, none, [], by omega, rfl, rfl, by omega, hide rfl, hide rfl, World.ownsRow_nil _ _ _ _, Below.refl _ _⟩
  case round =>
    obtain ⟨j, q, G, a', O, hj, rfl, rfl, hq, eq, eO, own, bel⟩ := hrel
    by_cases hlt : j < n
    · have S1 := S.keep bel (Nat.le_refl _)
      have hjl : j < l.length := by rw [← hn0.out]; exact hlt
      obtain ⟨b, off, rfl, hbw⟩ := S1.where (by intro e; rw [e] at hjl; simp at hjl)
      obtain ⟨x, y, e0, e1, hx, _⟩ := S1.pt j hjl
      have st := rng_snoc f t hx
      have o2 := own.alloc (.cells #[.int .i64 x, .int .i64 y] 44)
      have bel2 := belowNew bel (.cells #[.int .i64 x, .int .i64 y] 44)
      clear hx hjl S1
      by_cases hf : f ≤ x
      · by_cases ht : x < t
        · rw [if_pos (by unfold inR; simp; omega)] at st
          have eO2 : Hid (O ++ [(x, y)] = rngL (l.take (j + 1)) f t) := by rw [st, eO.out]; exact hide rfl
          replace st := hide st
          have BP := Blk.laid wr [.int .i64 x, .int .i64 y] 44 _ rfl
          go_upto_region 6 with fail
          generalize wr.heap.size = g9 at *
          generalize wr.alloc _ = w8 at *
          have v1 : w8.cell? ⟨g9, 0, none⟩ = some (.int .i64 x) := BP.cell 0
          have v2 : w8.cell? ⟨g9, 1, none⟩ = some (.int .i64 y) := BP.cell 1
          have hbz := bel2.size
          clear e0 e1
          go_wp2_with (at_builtin; refine wpList_append_new w8 rfl (.tmp 26) (.tmp 28) 26 rfl w.heap.size 44 i0 _ 2 16 Try.underlying26 hi hz0 hz1 hz2 rfl (by decide) (.slice a' q G) q _ (by rfl) o2 1 #[.int .i64 x, .int .i64 y] 44 (by rfl) (by rfl) (by simp [Value.oneCell']) (by decide) (by unfold maxLen; omega) (by omega) hbz ?_)
          intro v9 w9 own9 grow9 went9
          have bel9 := belowGrown bel2 o2 grow9 (Nat.le_refl _) hbz
          rw [show cellsP O ++ (#[Value.int .i64 x, .int .i64 y] : Array Value).toList = cellsP (O ++ [(x, y)]) by rw [cellsP_append]; rfl] at own9
          obtain ⟨a9, G9, rfl, _, _, _⟩ := SlP.ofOwn own9
          have eq9 : Hid (q + 1 = (O ++ [(x, y)]).length) := by rw [List.length_append, ← eq.out]; exact hide rfl
          go_wp2_with fail
          go_roundw
          case rel => exact ⟨j + 1, q + 1, G9, a9, _, by omega, by go_num, rfl, by omega, eq9, eO2, own9, bel9⟩
          case measure => simp [intOf]; omega
        · rw [if_neg (by unfold inR; simp; omega)] at st
          have eO2 : Hid (O = rngL (l.take (j + 1)) f t) := by rw [st]; exact eO
          replace st := hide st
          go_wp2_with fail
          go_roundw
          case rel => exact ⟨j + 1, q, G, a', O, by omega, by go_num, rfl, by omega, eq, eO2, o2, bel2⟩
          case measure => simp [intOf]; omega
      · rw [if_neg (by unfold inR; simp; omega)] at st
        have eO2 : Hid (O = rngL (l.take (j + 1)) f t) := by rw [st]; exact eO
        replace st := hide st
        go_wp2_with fail
        go_roundw
        case rel => exact ⟨j + 1, q, G, a', O, by omega, by go_num, rfl, by omega, eq, eO2, o2, bel2⟩
        case measure => simp [intOf]; omega
    · obtain rfl : j = n := by omega
      have eO' := eO.out
      rw [hn0.out, List.take_length, ← hR.out] at eO'
      subst eO'
      go_wp2_with fail
      go_ret
      exact ⟨_, _, by rw [eq.out]; rfl, by rw [← eq.out]; exact own, bel⟩

end Go.Proofs.Ytgncadehaificaa

/-
  A region that draws its order, by an invariant: whatever has come up so far, what holds then; each operation shown once, wherever it comes up.
-/
namespace Go.Proofs.Ytgncadehaificaa
open Go.RowKit

def togo : List Bool → Nat
  | [] => 0
  | b :: r => (if b then 0 else 1) + togo r

theorem togo_set : ∀ (l : List Bool) (i : Nat), l[i]? = some false → togo (l.set i true) + 1 = togo l
  | [], i, h => by simp at h
  | b :: r, 0, h => by
    simp at h
    subst h
    simp [togo]
    omega
  | b :: r, i + 1, h => by
    have := togo_set r i (by simpa using h)
    simp only [List.set_cons_succ, togo]
    omega

theorem togo_zero : ∀ (l : List Bool) (i : Nat), togo l = 0 → l[i]? ≠ some false
  | [], i, _ => by simp
  | b :: r, 0, h => by
    cases b with
    | false => simp [togo] at h
    | true => simp
  | b :: r, i + 1, h => by
    have : togo r = 0 := by simp only [togo] at h; omega
    simpa using togo_zero r i this

/-- What has come up has behind it all that it waits for. -/
def Down (md : Region.Mode) (ops : Array Oper) (d : Nat → Bool) : Prop :=
  ∀ i o, ops[i]? = some o → d i = true → ∀ e ∈ o.after, Region.binds md e = true → d e.on = true

/-- What waits for something that has not come up has not come up. -/
theorem no {md : Region.Mode} {ops : Array Oper} {d : Nat → Bool} (h : Down md ops d) (i : Nat) (o : Oper) (ho : ops[i]? = some o) (e : Edge) (he : e ∈ o.after) (hb : Region.binds md e = true) (hd : d e.on = false) : d i = false := by
  cases hi : d i with
  | false => rfl
  | true =>
    have := h i o ho hi e he hb
    rw [hd] at this
    cases this

theorem listed_off {L : Array Bool} {i : Nat} (h : L.getD i true = false) : i < L.size ∧ L.getD i false = false ∧ L.toList[i]? = some false := by
  by_cases hi : i < L.size
  · have e : L[i] = false := by simpa [Array.getD, hi] using h
    refine ⟨hi, by simp [Array.getD, hi, e], ?_⟩
    rw [Array.getElem?_toList, Array.getElem?_eq_getElem hi, e]
  · simp [Array.getD, hi] at h

theorem listed_on {L : Array Bool} {i : Nat} (hi : i < L.size) (h : L.getD i false = false) : L.getD i true = false := by
  simpa [Array.getD, hi] using h

theorem listed_set (L : Array Bool) (i k : Nat) (hi : i < L.size) : (L.setIfInBounds i true).getD k false = (k == i || L.getD k false) := by
  by_cases hk : k = i
  · subst hk
    simp [Array.getD, hi]
  · by_cases hs : k < L.size
    · have : (L.setIfInBounds i true)[k]'(by simpa using hs) = L[k] := by rw [Array.getElem_setIfInBounds_ne (hj := hs) (h := fun e => hk e.symm)]
      simp [Array.getD, hs, hk, this]
    · simp [Array.getD, hs, hk]

theorem wpAny_inv {P : Program} {md : Region.Mode} {ops : Array Oper} {Q : Exit → Act → World → Prop} (Inv : (Nat → Bool) → Act → World → Prop)
    (hback : ∀ (i : Nat) (o : Oper), ops[i]? = some o → ∀ e ∈ o.after, e.on < i)
    (hstep : ∀ (i : Nat) (o : Oper) (d : Nat → Bool) (a : Act) (w : World), ops[i]? = some o → d i = false → (∀ e ∈ o.after, Region.binds md e = true → d e.on = true) → Down md ops d → Inv d a w →
      ∀ K : Act → World → Prop, (∀ a' w', Inv (fun k => k == i || d k) a' w' → K a' w') → if Region.wanted o (yielded ops a.tmps) = true then Oper.wp P o a w K Q else K (a.put o.dst undef) w)
    (hend : ∀ d a w, (∀ i, i < ops.size → d i = true) → Inv d a w → Q .normal a w) :
    ∀ (fuel : Nat) (L : Array Bool) (a : Act) (w : World), L.size = ops.size → togo L.toList ≤ fuel → Down md ops (fun k => L.getD k false) → Inv (fun k => L.getD k false) a w → wpAny P md ops Q fuel L a w := by
  intro fuel
  induction fuel with
  | zero =>
    intro L a w hs ht hd inv
    have all : ∀ i, i < ops.size → L.getD i false = true := by
      intro i hi
      cases e : L.getD i false with
      | true => rfl
      | false => exact absurd (listed_off (listed_on (by omega) e)).2.2 (togo_zero _ i (by omega))
    refine ⟨?_, hend _ a w all inv⟩
    cases hr : Region.ready md ops L with
    | nil => rfl
    | cons j rs =>
      obtain ⟨hu, _⟩ := mem_ready.1 (show j ∈ Region.ready md ops L by rw [hr]; exact List.mem_cons_self)
      exact absurd (listed_off hu).2.2 (togo_zero _ j (by omega))
  | succ fuel ih =>
    intro L a w hs ht hd inv
    refine ⟨fun hr => ?_, fun i hi => ?_⟩
    · refine hend _ a w ?_ inv
      intro i
      induction i using Nat.strongRecOn with
      | _ i ihi =>
        intro hi
        cases e : L.getD i false with
        | true => rfl
        | false =>
          exfalso
          have ho : ops[i]? = some ops[i] := Array.getElem?_eq_getElem hi
          have : i ∈ Region.ready md ops L := mem_ready.2 ⟨listed_on (by omega) e, _, ho, fun x hx _ => ihi x.on (hback i _ ho x hx) (by have := hback i _ ho x hx; omega)⟩
          rw [hr] at this
          cases this
    · obtain ⟨hu, o, ho, hall⟩ := mem_ready.1 hi
      obtain ⟨hlt, hoff, hget⟩ := listed_off hu
      have hfun : (fun k => (L.setIfInBounds i true).getD k false) = (fun k => k == i || L.getD k false) := funext fun k => listed_set L i k hlt
      refine wpOp_step ho (fun K hK => ?_)
      refine hstep i o (fun k => L.getD k false) a w ho hoff hall hd inv K (fun a' w' inv' => ?_)
      refine hK _ _ (ih _ a' w' (by simpa using hs) ?_ ?_ ?_)
      · have := togo_set L.toList i hget
        rw [Array.toList_setIfInBounds]
        omega
      · rw [hfun]
        intro j oj hoj hj e he hb
        by_cases hji : j = i
        · subst hji
          rw [ho] at hoj
          obtain rfl := Option.some.inj hoj
          have := hall e he hb
          simp only [this, Bool.or_true]
        · have h1 : L.getD j false = true := by
            have : (j == i) = false := by simp [hji]
            simpa [this] using hj
          have := hd j oj hoj h1 e he hb
          simp only at this
          simp only [this, Bool.or_true]
      · rw [hfun]; exact inv'

/-- Each operation waits for earlier ones alone. -/
def backB (ops : Array Oper) : Bool := (List.range ops.size).all fun i => ((ops[i]?).map fun o => o.after.all fun e => decide (e.on < i)).getD true

theorem back_of {ops : Array Oper} (h : backB ops = true) : ∀ (i : Nat) (o : Oper), ops[i]? = some o → ∀ e ∈ o.after, e.on < i := by
  intro i o ho e he
  have hi := (Array.getElem?_eq_some_iff.1 ho).1
  have := List.all_eq_true.1 h i (List.mem_range.2 hi)
  rw [ho] at this
  simp only [Option.map_some, Option.getD_some] at this
  have := (Array.all_eq_true_iff_forall_mem.1 this) e he
  simpa using this

theorem togo_new : ∀ n : Nat, togo (List.replicate n false) = n
  | 0 => rfl
  | n + 1 => by
    rw [List.replicate_succ, togo, togo_new n]
    simp
    omega

theorem wp_region_inv {P : Program} {ops : Array Oper} {Q : Exit → Act → World → Prop} {id : Nat} {a : Act} {w : World} (hm : P.follows .mixedOrders = true) (hb : backB ops = true) (Inv : (Nat → Bool) → Act → World → Prop)
    (hstep : ∀ (i : Nat) (o : Oper) (d : Nat → Bool) (a : Act) (w : World), i < ops.size → ops[i]? = some o → d i = false → (∀ e ∈ o.after, Region.binds .any e = true → d e.on = true) → Down .any ops d → Inv d a w →
      ∀ K : Act → World → Prop, (∀ a' w', Inv (fun k => k == i || d k) a' w' → K a' w') → if Region.wanted o (yielded ops a.tmps) = true then Oper.wp P o a w K Q else K (a.put o.dst undef) w)
    (hend : ∀ d a w, (∀ i, i < ops.size → d i = true) → Inv d a w → Q .normal a w) (inv0 : Inv (fun _ => false) a w.drew) : (Code.region id ops true).wp P Q a w := by
  have e : (fun k => (Array.replicate ops.size false).getD k false) = fun _ => false := funext fun k => by
    by_cases hk : k < ops.size
    · simp [Array.getD, hk]
    · simp [Array.getD, hk]
  refine wp_region_any hm (wpAny_inv Inv (back_of hb) (fun i o d a w ho => hstep i o d a w (Array.getElem?_eq_some_iff.1 ho).1 ho) hend _ _ _ _ (by simp) (by rw [Array.toList_replicate, togo_new]; exact Nat.le_refl _) ?_ (by rw [e]; exact inv0))
  intro i o _ hd
  rw [e] at hd
  cases hd

end Go.Proofs.Ytgncadehaificaa

/-
  The reference's SumOf: what it returns, in the words of sums; nothing that was there is written.
-/
namespace Go.Proofs.Ytgncadehaificaa
open Go.RowKit

/-- The frame of a round while the statement that adds a point goes on: what is in it already, and the slots that the statement writes, by the number of their operation. -/
def fr (b off n cap g0 q k : Nat) (y0 x y : Int) (u45 : Value) (V : Nat → Value) : Act :=
  { tmps := #[.slice (some ⟨b, off, none⟩) n cap, undef, .pointer (some ⟨g0, 0, none⟩), .pointer (some ⟨g0 + 1, 0, none⟩), undef, .pointer (some ⟨q, 0, none⟩), .slice (some ⟨b, off, none⟩) n cap, .int .i64 n, .bool ((n : Int) == 0), undef, .slice (some ⟨b, off, none⟩) n cap,
      .int .i64 n, .slice (some ⟨b, off, none⟩) n cap, .pointer (some ⟨b, off, none⟩), .pointer (some ⟨b, off + 1, none⟩), .int .i64 y0, .slice (some ⟨b, off, none⟩) n cap, .pointer (some ⟨b, off, none⟩), .pointer (some ⟨b, off + 1, none⟩), .int .i64 y0,
      .agg #[.int .i64 n, .int .i64 y0, .int .i64 y0, .int .i64 0], .slice (some ⟨b, off, none⟩) n cap, .int .i64 n, .int .i64 k, .bool true, .pointer (some ⟨b, off + k * 2, none⟩), .agg #[.int .i64 x, .int .i64 y],
      V 0, V 1, V 2, V 3, V 4, V 5, V 6, V 7, V 8, V 9, V 10, V 11, V 12, V 13, V 14, V 15, V 17, V 19, u45, undef], defers := [] }

/-- What each slot holds when its operation has come up. -/
def vals (g q : Nat) (lo hi tot y : Int) : Nat → Value → Prop
  | 0, v => v = .pointer (some ⟨g, 1, none⟩)
  | 1, v => v = .int .i64 lo
  | 2, v => v = .pointer (some ⟨q, 1, none⟩)
  | 3, v => v = .int .i64 y
  | 4, v => v = .int .i64 (min lo y)
  | 5, v => v = .pointer (some ⟨g, 2, none⟩)
  | 6, v => v = .int .i64 hi
  | 7, v => v = .pointer (some ⟨q, 1, none⟩)
  | 8, v => v = .int .i64 y
  | 9, v => v = .int .i64 (max hi y)
  | 10, v => v = .pointer (some ⟨g, 3, none⟩)
  | 11, v => v = .int .i64 tot
  | 12, v => v = .pointer (some ⟨q, 1, none⟩)
  | 13, v => v = .int .i64 y
  | 14, v => v = .int .i64 (wrap64 (tot + y))
  | 15, v => v = .pointer (some ⟨g, 1, none⟩)
  | 17, v => v = .pointer (some ⟨g, 2, none⟩)
  | 19, v => v = .pointer (some ⟨g, 3, none⟩)
  | _, _ => True

/-- The world, by the stores that have come up. -/
def stW (w : World) (g : Nat) (lo hi tot y : Int) (d : Nat → Bool) : World :=
  let w1 := if d 16 = true then w.setCell ⟨g, 1, none⟩ (.int .i64 (min lo y)) else w
  let w2 := if d 18 = true then w1.setCell ⟨g, 2, none⟩ (.int .i64 (max hi y)) else w1
  if d 20 = true then w2.setCell ⟨g, 3, none⟩ (.int .i64 (wrap64 (tot + y))) else w2

theorem stW_none (w : World) (g : Nat) (lo hi tot y : Int) (d : Nat → Bool) (h16 : d 16 = false) (h18 : d 18 = false) (h20 : d 20 = false) : stW w g lo hi tot y d = w := by
  simp [stW, h16, h18, h20]

theorem stW_same (w : World) (g : Nat) (lo hi tot y : Int) (d : Nat → Bool) (i : Nat) (h1 : 16 ≠ i) (h2 : 18 ≠ i) (h3 : 20 ≠ i) : stW w g lo hi tot y (fun k => k == i || d k) = stW w g lo hi tot y d := by
  have e16 : (16 == i) = false := by simpa using h1
  have e18 : (18 == i) = false := by simpa using h2
  have e20 : (20 == i) = false := by simpa using h3
  simp [stW, e16, e18, e20]

theorem stW_cell (w : World) (g q : Nat) (lo hi tot y : Int) (d : Nat → Bool) (hne : g ≠ q) : (stW w g lo hi tot y d).cell? ⟨q, 1, none⟩ = w.cell? ⟨q, 1, none⟩ := by
  have key : ∀ (W : World) (i : Nat) (u : Value), (W.setCell ⟨g, i, none⟩ u).cell? ⟨q, 1, none⟩ = W.cell? ⟨q, 1, none⟩ := by
    intro W i u
    unfold World.cell?
    rw [heap_setCell_other W _ q u (fun e => hne e.symm)]
  unfold stW
  simp only
  split <;> split <;> split <;> simp only [key]

def putS (V : Nat → Value) (i : Nat) (v : Value) : Nat → Value := fun k => if k = i then v else V k

theorem vals_put {G : Nat → Value → Prop} {d : Nat → Bool} {V : Nat → Value} (h : ∀ i, d i = true → G i (V i)) (i : Nat) (v : Value) (hv : G i v) : ∀ k, (k == i || d k) = true → G k (putS V i v k) := by
  intro k hk
  by_cases hki : k = i
  · subst hki
    simpa [putS] using hv
  · simpa [putS, hki] using h k (by simpa [hki] using hk)

set_option maxHeartbeats 1000000 in
set_option maxRecDepth 100000 in
theorem refSum_any (ao : Option Addr) (cap : Nat) (l : List Pt) (w : World) (hr : SlP w ao cap l) (hw : ∀ p ∈ l, (Lit.int .i64 p.2).wf = true) :
    Calls Try.prog 77 #[.slice ao l.length cap] w fun e w' => e = .returned (smV (sumS l)) ∧ Below w.heap.size w w' := by
  have hlc := hr.le
  have hcm := hr.max
  cases hl : l with
  | nil =>
    subst hl
    rw [List.length_nil]
    go_enter Try.func77, Try.ntmps77
    go_wp2
    exact bodyPost_ret (v := .agg #[.int .i64 0, .int .i64 0, .int .i64 0, .int .i64 0]) (by simp [results, Try.results77, go_sem]) rfl ⟨rfl, (Below.refl _ _).alloc (Nat.le_refl _) _⟩
  | cons p r =>
    have hS : sumS (p :: r) = accS ⟨l.length, p.2, p.2, 0⟩ l := by
      rw [hl]
      exact sumS_acc p r (wrap_wf (hw p (by rw [hl]; exact List.mem_cons_self))) (by rw [← hl]; omega)
    rw [← hl] at hS ⊢
    rw [hS]
    have hne : l ≠ [] := by rw [hl]; simp
    obtain ⟨b, off, rfl, hbw⟩ := hr.where hne
    obtain ⟨x0, y0, q0, q1, hx0, -⟩ := hr.pt 0 (by rw [hl]; simp)
    obtain rfl : p = (x0, y0) := by rw [hl] at hx0; simpa using hx0
    rw [Nat.zero_mul, Nat.add_zero] at q0 q1
    have hl1 : 0 < l.length := by rw [hl]; simp
    clear hw hS hx0 hne hl
    obtain ⟨n, hn⟩ : ∃ n, n = l.length := ⟨_, rfl⟩
    rw [← hn] at hlc ⊢
    simp only
    obtain ⟨C, hC⟩ : ∃ C, C = accS ⟨n, y0, y0, 0⟩ l := ⟨_, rfl⟩
    rw [← hC]
    have hn1 : 0 < n := by rw [hn]; exact hl1
    have HL := hide hn
    have HC : Hid (C = accS ⟨n, y0, y0, 0⟩ (l.drop 0)) := by rw [List.drop_zero]; exact hC
    clear hn hC
    go_enter Try.func77, Try.ntmps77
    go_wp2_with fail
    go_region
    all_goals go_wp2_with fail
    have B0 := Blk.laid w sm0.cells 61 _ rfl
    have B1 := (Blk.laid (w.alloc (.cells sm0.cells.toArray 61)) (Sm.mk n y0 y0 0).cells 61 (w.heap.size + 1) (by simp)).drewS
    have B2 := (B0.alc (.cells (Sm.mk n y0 y0 0).cells.toArray 61)).drewS
    have bel0 : Below w.heap.size w ((w.alloc (.cells sm0.cells.toArray 61)).alloc (.cells (Sm.mk n y0 y0 0).cells.toArray 61)).drew := belowDrew (below2 w _ _)
    unfold Sm.cells sm0 at B1 B2 bel0
    clear B0 q0 q1
    generalize World.drew _ = w2 at *
    go_loopw [23] (fun i wr => ∃ (k : Nat) (lo hi tot : Int), k ≤ n ∧ i = .int .i64 k ∧ Hid (C = accS ⟨n, lo, hi, tot⟩ (l.drop k)) ∧ Blk wr (w.heap.size + 1) (Sm.mk n lo hi tot).cells 61 ∧ Blk wr w.heap.size sm0.cells 61 ∧ Below w.heap.size w wr) (fun i _ => n - (intOf i).toNat)
    case atStart => exact ⟨0, y0, y0, 0, by omega, rfl, HC, B1, B2, bel0⟩
    case round =>
      clear HC B1 B2 bel0
      obtain ⟨k, lo, hi, tot, hk, rfl, HC, B, BR, bel⟩ := hrel
      have c0 : wr.cell? ⟨w.heap.size + 1, 0, none⟩ = some (.int .i64 n) := B.cell 0
      have c1 : wr.cell? ⟨w.heap.size + 1, 1, none⟩ = some (.int .i64 lo) := B.cell 1
      have c2 : wr.cell? ⟨w.heap.size + 1, 2, none⟩ = some (.int .i64 hi) := B.cell 2
      have c3 : wr.cell? ⟨w.heap.size + 1, 3, none⟩ = some (.int .i64 tot) := B.cell 3
      have hgl := B.lt
      have f1 := B.free 1
      have f2 := B.free 2
      have f3 := B.free 3
      by_cases hlt : k < n
      · have hs := hr.keep bel (Nat.le_refl _)
        obtain ⟨x, y, e0, e1, hx, hd⟩ := hs.pt k (by rw [← HL.out]; exact hlt)
        have HC' := HC.out
        rw [hd, accS] at HC'
        simp only at HC'
        have HC2 := hide HC'
        have hbr : b < wr.heap.size := Nat.lt_of_lt_of_le hbw bel.size
        clear HC HC' hx hd
        go_wp2_with fail
        have B4 := B.alc (.cells #[.int .i64 x, .int .i64 y] 44)
        have R4 := BR.alc (.cells #[.int .i64 x, .int .i64 y] 44)
        have bel4 := bel.alloc bel.size (.cells #[.int .i64 x, .int .i64 y] 44)
        have p4 : (wr.alloc (.cells #[.int .i64 x, .int .i64 y] 44)).cell? ⟨wr.heap.size, 1, none⟩ = some (.int .i64 y) := by rw [World.cell?_alloc_at (hn := rfl)]; rfl
        clear c0 c1 c2 c3 f1 f2 f3 B BR bel e0 e1 hs hbr
        generalize wr.alloc _ = w4 at *
        generalize wr.heap.size = q at *
        clear wr
        have hq1 : w.heap.size + 1 ≠ q := by omega
        have hnz : ¬ n = 0 := by omega
        have c1 : w4.drew.cell? ⟨w.heap.size + 1, 1, none⟩ = some (.int .i64 lo) := B4.cell 1
        have c2 : w4.drew.cell? ⟨w.heap.size + 1, 2, none⟩ = some (.int .i64 hi) := B4.cell 2
        have c3 : w4.drew.cell? ⟨w.heap.size + 1, 3, none⟩ = some (.int .i64 tot) := B4.cell 3
        refine wp_region_inv (by kernel_rfl) (by kernel_rfl) (fun d a W => ∃ V, a = fr b off n cap w.heap.size q k y0 x y u45 V ∧ (∀ i, d i = true → vals (w.heap.size + 1) q lo hi tot y i (V i)) ∧ W = stW w4.drew (w.heap.size + 1) lo hi tot y d) ?step ?fin ?start
        case start => exact ⟨fun i => [u27, u28, u29, u30, u31, u32, u33, u34, u35, u36, u37, u38, u39, u40, u41, u42, undef, u43, undef, u44].getD i undef, rfl, fun _ h => Bool.noConfusion h, (stW_none _ _ _ _ _ _ _ rfl rfl rfl).symm⟩
        case step =>
          intro i o d a W hi' ho hd hall down inv K' hK
          obtain ⟨V, rfl, hv, hW⟩ := inv
          have HW := hide hW
          clear hW
          have key : i = 0 ∨ i = 1 ∨ i = 2 ∨ i = 3 ∨ i = 4 ∨ i = 5 ∨ i = 6 ∨ i = 7 ∨ i = 8 ∨ i = 9 ∨ i = 10 ∨ i = 11 ∨ i = 12 ∨ i = 13 ∨ i = 14 ∨ i = 15 ∨ i = 16 ∨ i = 17 ∨ i = 18 ∨ i = 19 ∨ i = 20 := by
            have : i < 21 := hi'
            omega
          clear hi'
          rcases key with rfl | rfl | rfl | rfl | rfl | rfl | rfl | rfl | rfl | rfl | rfl | rfl | rfl | rfl | rfl | rfl | rfl | rfl | rfl | rfl | rfl
          · obtain rfl := Option.some.inj ho
            rw [if_pos (by rfl)]
            unfold fr
            go_simp
            refine hK _ _ ⟨putS V 0 _, ?_, vals_put hv 0 _ rfl, by rw [HW.out, stW_same _ _ _ _ _ _ _ _ (by decide) (by decide) (by decide)]⟩
            unfold fr putS
            simp [hnz]
          · obtain rfl := Option.some.inj ho
            rw [if_pos (by rfl)]
            have h16 : d 16 = false := no down 16 _ rfl ⟨1, .phase⟩ (by simp) rfl hd
            have h18 : d 18 = false := no down 18 _ rfl ⟨16, .chain⟩ (by simp) rfl h16
            have h20 : d 20 = false := no down 20 _ rfl ⟨18, .chain⟩ (by simp) rfl h18
            have hW := HW.out
            rw [stW_none _ _ _ _ _ _ _ h16 h18 h20] at hW
            clear HW
            subst hW
            have e0 : V 0 = .pointer (some ⟨w.heap.size + 1, 1, none⟩) := hv 0 (hall ⟨0, .data⟩ (by simp) rfl)
            unfold fr
            rw [e0]
            go_simp
            refine hK _ _ ⟨putS V 1 _, ?_, vals_put hv 1 _ rfl, by rw [stW_same _ _ _ _ _ _ _ _ (by decide) (by decide) (by decide), stW_none _ _ _ _ _ _ _ h16 h18 h20]⟩
            unfold fr putS
            simp [e0, hnz]
          · obtain rfl := Option.some.inj ho
            rw [if_pos (by rfl)]
            unfold fr
            go_simp
            refine hK _ _ ⟨putS V 2 _, ?_, vals_put hv 2 _ rfl, by rw [HW.out, stW_same _ _ _ _ _ _ _ _ (by decide) (by decide) (by decide)]⟩
            unfold fr putS
            simp [hnz]
          · obtain rfl := Option.some.inj ho
            rw [if_pos (by rfl)]
            have e2 : V 2 = .pointer (some ⟨q, 1, none⟩) := hv 2 (hall ⟨2, .data⟩ (by simp) rfl)
            have ec : W.cell? ⟨q, 1, none⟩ = some (.int .i64 y) := by rw [HW.out, stW_cell _ _ _ _ _ _ _ _ hq1]; exact p4
            unfold fr
            rw [e2]
            go_simp
            refine hK _ _ ⟨putS V 3 _, ?_, vals_put hv 3 _ rfl, by rw [HW.out, stW_same _ _ _ _ _ _ _ _ (by decide) (by decide) (by decide)]⟩
            unfold fr putS
            simp [e2, hnz]
          · obtain rfl := Option.some.inj ho
            rw [if_pos (by rfl)]
            have e1 : V 1 = .int .i64 lo := hv 1 (hall ⟨1, .data⟩ (by simp) rfl)
            have e3 : V 3 = .int .i64 y := hv 3 (hall ⟨3, .data⟩ (by simp) rfl)
            unfold fr
            rw [e1, e3]
            go_simp
            refine hK _ _ ⟨putS V 4 _, ?_, vals_put hv 4 _ rfl, by rw [HW.out, stW_same _ _ _ _ _ _ _ _ (by decide) (by decide) (by decide)]⟩
            unfold fr putS
            simp [e1, e3, hnz]
          · obtain rfl := Option.some.inj ho
            rw [if_pos (by rfl)]
            unfold fr
            go_simp
            refine hK _ _ ⟨putS V 5 _, ?_, vals_put hv 5 _ rfl, by rw [HW.out, stW_same _ _ _ _ _ _ _ _ (by decide) (by decide) (by decide)]⟩
            unfold fr putS
            simp [hnz]
          · obtain rfl := Option.some.inj ho
            rw [if_pos (by rfl)]
            have h16 : d 16 = false := no down 16 _ rfl ⟨6, .phase⟩ (by simp) rfl hd
            have h18 : d 18 = false := no down 18 _ rfl ⟨16, .chain⟩ (by simp) rfl h16
            have h20 : d 20 = false := no down 20 _ rfl ⟨18, .chain⟩ (by simp) rfl h18
            have hW := HW.out
            rw [stW_none _ _ _ _ _ _ _ h16 h18 h20] at hW
            clear HW
            subst hW
            have e5 : V 5 = .pointer (some ⟨w.heap.size + 1, 2, none⟩) := hv 5 (hall ⟨5, .data⟩ (by simp) rfl)
            unfold fr
            rw [e5]
            go_simp
            refine hK _ _ ⟨putS V 6 _, ?_, vals_put hv 6 _ rfl, by rw [stW_same _ _ _ _ _ _ _ _ (by decide) (by decide) (by decide), stW_none _ _ _ _ _ _ _ h16 h18 h20]⟩
            unfold fr putS
            simp [e5, hnz]
          · obtain rfl := Option.some.inj ho
            rw [if_pos (by rfl)]
            unfold fr
            go_simp
            refine hK _ _ ⟨putS V 7 _, ?_, vals_put hv 7 _ rfl, by rw [HW.out, stW_same _ _ _ _ _ _ _ _ (by decide) (by decide) (by decide)]⟩
            unfold fr putS
            simp [hnz]
          · obtain rfl := Option.some.inj ho
            rw [if_pos (by rfl)]
            have e7 : V 7 = .pointer (some ⟨q, 1, none⟩) := hv 7 (hall ⟨7, .data⟩ (by simp) rfl)
            have ec : W.cell? ⟨q, 1, none⟩ = some (.int .i64 y) := by rw [HW.out, stW_cell _ _ _ _ _ _ _ _ hq1]; exact p4
            unfold fr
            rw [e7]
            go_simp
            refine hK _ _ ⟨putS V 8 _, ?_, vals_put hv 8 _ rfl, by rw [HW.out, stW_same _ _ _ _ _ _ _ _ (by decide) (by decide) (by decide)]⟩
            unfold fr putS
            simp [e7, hnz]
          · obtain rfl := Option.some.inj ho
            rw [if_pos (by rfl)]
            have e6 : V 6 = .int .i64 hi := hv 6 (hall ⟨6, .data⟩ (by simp) rfl)
            have e8 : V 8 = .int .i64 y := hv 8 (hall ⟨8, .data⟩ (by simp) rfl)
            unfold fr
            rw [e6, e8]
            go_simp
            refine hK _ _ ⟨putS V 9 _, ?_, vals_put hv 9 _ rfl, by rw [HW.out, stW_same _ _ _ _ _ _ _ _ (by decide) (by decide) (by decide)]⟩
            unfold fr putS
            simp [e6, e8, hnz]
          · obtain rfl := Option.some.inj ho
            rw [if_pos (by rfl)]
            unfold fr
            go_simp
            refine hK _ _ ⟨putS V 10 _, ?_, vals_put hv 10 _ rfl, by rw [HW.out, stW_same _ _ _ _ _ _ _ _ (by decide) (by decide) (by decide)]⟩
            unfold fr putS
            simp [hnz]
          · obtain rfl := Option.some.inj ho
            rw [if_pos (by rfl)]
            have h16 : d 16 = false := no down 16 _ rfl ⟨11, .phase⟩ (by simp) rfl hd
            have h18 : d 18 = false := no down 18 _ rfl ⟨16, .chain⟩ (by simp) rfl h16
            have h20 : d 20 = false := no down 20 _ rfl ⟨18, .chain⟩ (by simp) rfl h18
            have hW := HW.out
            rw [stW_none _ _ _ _ _ _ _ h16 h18 h20] at hW
            clear HW
            subst hW
            have e10 : V 10 = .pointer (some ⟨w.heap.size + 1, 3, none⟩) := hv 10 (hall ⟨10, .data⟩ (by simp) rfl)
            unfold fr
            rw [e10]
            go_simp
            refine hK _ _ ⟨putS V 11 _, ?_, vals_put hv 11 _ rfl, by rw [stW_same _ _ _ _ _ _ _ _ (by decide) (by decide) (by decide), stW_none _ _ _ _ _ _ _ h16 h18 h20]⟩
            unfold fr putS
            simp [e10, hnz]
          · obtain rfl := Option.some.inj ho
            rw [if_pos (by rfl)]
            unfold fr
            go_simp
            refine hK _ _ ⟨putS V 12 _, ?_, vals_put hv 12 _ rfl, by rw [HW.out, stW_same _ _ _ _ _ _ _ _ (by decide) (by decide) (by decide)]⟩
            unfold fr putS
            simp [hnz]
          · obtain rfl := Option.some.inj ho
            rw [if_pos (by rfl)]
            have e12 : V 12 = .pointer (some ⟨q, 1, none⟩) := hv 12 (hall ⟨12, .data⟩ (by simp) rfl)
            have ec : W.cell? ⟨q, 1, none⟩ = some (.int .i64 y) := by rw [HW.out, stW_cell _ _ _ _ _ _ _ _ hq1]; exact p4
            unfold fr
            rw [e12]
            go_simp
            refine hK _ _ ⟨putS V 13 _, ?_, vals_put hv 13 _ rfl, by rw [HW.out, stW_same _ _ _ _ _ _ _ _ (by decide) (by decide) (by decide)]⟩
            unfold fr putS
            simp [e12, hnz]
          · obtain rfl := Option.some.inj ho
            rw [if_pos (by rfl)]
            have e11 : V 11 = .int .i64 tot := hv 11 (hall ⟨11, .data⟩ (by simp) rfl)
            have e13 : V 13 = .int .i64 y := hv 13 (hall ⟨13, .data⟩ (by simp) rfl)
            unfold fr
            rw [e11, e13]
            go_simp
            refine hK _ _ ⟨putS V 14 _, ?_, vals_put hv 14 _ rfl, by rw [HW.out, stW_same _ _ _ _ _ _ _ _ (by decide) (by decide) (by decide)]⟩
            unfold fr putS
            simp [e11, e13, hnz]
            rw [IntKind.wrap_i64, wrap64]
          · obtain rfl := Option.some.inj ho
            rw [if_pos (by rfl)]
            unfold fr
            go_simp
            refine hK _ _ ⟨putS V 15 _, ?_, vals_put hv 15 _ rfl, by rw [HW.out, stW_same _ _ _ _ _ _ _ _ (by decide) (by decide) (by decide)]⟩
            unfold fr putS
            simp [hnz]
          · obtain rfl := Option.some.inj ho
            rw [if_pos (by rfl)]
            have e15 : V 15 = .pointer (some ⟨w.heap.size + 1, 1, none⟩) := hv 15 (hall ⟨15, .data⟩ (by simp) rfl)
            have e4 : V 4 = .int .i64 (min lo y) := hv 4 (hall ⟨4, .data⟩ (by simp) rfl)
            have h18 : d 18 = false := no down 18 _ rfl ⟨16, .chain⟩ (by simp) rfl hd
            have h20 : d 20 = false := no down 20 _ rfl ⟨18, .chain⟩ (by simp) rfl h18
            have hW' : W = w4.drew := by rw [HW.out, stW_none _ _ _ _ _ _ _ hd h18 h20]
            have BB := B4.drewS
            rw [← hW'] at BB
            have qc : W.cell? ⟨w.heap.size + 1, 1, none⟩ = some (.int .i64 lo) := BB.cell 1
            have qf := BB.free 1
            have HW' := hide hW'
            clear hW'
            unfold fr
            rw [e15, e4]
            go_simp
            refine hK _ _ ⟨putS V 16 undef, ?_, vals_put hv 16 _ trivial, by rw [HW'.out]; simp [stW, h18, h20]⟩
            unfold fr putS
            simp [e15, e4, hnz]
          · obtain rfl := Option.some.inj ho
            rw [if_pos (by rfl)]
            unfold fr
            go_simp
            refine hK _ _ ⟨putS V 17 _, ?_, vals_put hv 17 _ rfl, by rw [HW.out, stW_same _ _ _ _ _ _ _ _ (by decide) (by decide) (by decide)]⟩
            unfold fr putS
            simp [hnz]
          · obtain rfl := Option.some.inj ho
            rw [if_pos (by rfl)]
            have e17 : V 17 = .pointer (some ⟨w.heap.size + 1, 2, none⟩) := hv 17 (hall ⟨17, .data⟩ (by simp) rfl)
            have e9 : V 9 = .int .i64 (max hi y) := hv 9 (hall ⟨9, .data⟩ (by simp) rfl)
            have h16 : d 16 = true := hall ⟨16, .chain⟩ (by simp) rfl
            have h20 : d 20 = false := no down 20 _ rfl ⟨18, .chain⟩ (by simp) rfl hd
            have hW' : W = w4.drew.setCell ⟨w.heap.size + 1, 1, none⟩ (.int .i64 (min lo y)) := by rw [HW.out]; simp [stW, h16, hd, h20]
            have BB := B4.drewS.set 1 (.int .i64 (min lo y))
            rw [← hW'] at BB
            have qc : W.cell? ⟨w.heap.size + 1, 2, none⟩ = some (.int .i64 hi) := BB.cell 2
            have qf := BB.free 2
            have HW' := hide hW'
            clear hW'
            unfold fr
            rw [e17, e9]
            go_simp
            refine hK _ _ ⟨putS V 18 undef, ?_, vals_put hv 18 _ trivial, by rw [HW'.out]; simp [stW, h16, h20]⟩
            unfold fr putS
            simp [e17, e9, hnz]
          · obtain rfl := Option.some.inj ho
            rw [if_pos (by rfl)]
            unfold fr
            go_simp
            refine hK _ _ ⟨putS V 19 _, ?_, vals_put hv 19 _ rfl, by rw [HW.out, stW_same _ _ _ _ _ _ _ _ (by decide) (by decide) (by decide)]⟩
            unfold fr putS
            simp [hnz]
          · obtain rfl := Option.some.inj ho
            rw [if_pos (by rfl)]
            have e19 : V 19 = .pointer (some ⟨w.heap.size + 1, 3, none⟩) := hv 19 (hall ⟨19, .data⟩ (by simp) rfl)
            have e14 : V 14 = .int .i64 (wrap64 (tot + y)) := hv 14 (hall ⟨14, .data⟩ (by simp) rfl)
            have h18 : d 18 = true := hall ⟨18, .chain⟩ (by simp) rfl
            have h16 : d 16 = true := down 18 _ rfl h18 ⟨16, .chain⟩ (by simp) rfl
            have hW' : W = (w4.drew.setCell ⟨w.heap.size + 1, 1, none⟩ (.int .i64 (min lo y))).setCell ⟨w.heap.size + 1, 2, none⟩ (.int .i64 (max hi y)) := by rw [HW.out]; simp [stW, h16, hd, h18]
            have BB := (B4.drewS.set 1 (.int .i64 (min lo y))).set 2 (.int .i64 (max hi y))
            rw [← hW'] at BB
            have qc : W.cell? ⟨w.heap.size + 1, 3, none⟩ = some (.int .i64 tot) := BB.cell 3
            have qf := BB.free 3
            have HW' := hide hW'
            clear hW'
            unfold fr
            rw [e19, e14]
            go_simp
            refine hK _ _ ⟨putS V 20 undef, ?_, vals_put hv 20 _ trivial, by rw [HW'.out]; simp [stW, h16, h18]⟩
            unfold fr putS
            simp [e19, e14, hnz]
        case fin =>
          intro d a W hd inv
          obtain ⟨V, rfl, -, hW⟩ := inv
          have hW' : W = ((w4.drew.setCell ⟨w.heap.size + 1, 1, none⟩ (.int .i64 (min lo y))).setCell ⟨w.heap.size + 1, 2, none⟩ (.int .i64 (max hi y))).setCell ⟨w.heap.size + 1, 3, none⟩ (.int .i64 (wrap64 (tot + y))) := by
            rw [hW]
            simp [stW, hd 16 (by decide), hd 18 (by decide), hd 20 (by decide)]
          have B5 := ((B4.drewS.set 1 (.int .i64 (min lo y))).set 2 (.int .i64 (max hi y))).set 3 (.int .i64 (wrap64 (tot + y)))
          have R5 := ((R4.drewS.other (g' := w.heap.size + 1) 1 (.int .i64 (min lo y)) (by omega)).other (g' := w.heap.size + 1) 2 (.int .i64 (max hi y)) (by omega)).other (g' := w.heap.size + 1) 3 (.int .i64 (wrap64 (tot + y))) (by omega)
          have bel5 : Below w.heap.size w (((w4.drew.setCell ⟨w.heap.size + 1, 1, none⟩ (.int .i64 (min lo y))).setCell ⟨w.heap.size + 1, 2, none⟩ (.int .i64 (max hi y))).setCell ⟨w.heap.size + 1, 3, none⟩ (.int .i64 (wrap64 (tot + y)))) :=
            (((belowDrew bel4).setCell (by simp) _).setCell (by simp) _).setCell (by simp) _
          rw [← hW'] at B5 R5 bel5
          clear hW hW' hd c1 c2 c3
          unfold fr
          go_wp2_with fail
          go_roundw
          case rel => exact ⟨k + 1, min lo y, max hi y, wrap64 (tot + y), by omega, by go_num, HC2, B5, R5, bel5⟩
          case measure => simp [intOf]; omega
      · obtain rfl : k = n := by omega
        have HC' := HC.out
        rw [HL.out, List.drop_length, accS, ← HL.out] at HC'
        subst HC'
        have f0' := BR.free 0
        have f1' := BR.free 1
        have f2' := BR.free 2
        have f3' := BR.free 3
        have d0 : wr.cell? ⟨w.heap.size, 0, none⟩ = some (.int .i64 0) := BR.cell 0
        have d1 : wr.cell? ⟨w.heap.size, 1, none⟩ = some (.int .i64 0) := BR.cell 1
        have d2 : wr.cell? ⟨w.heap.size, 2, none⟩ = some (.int .i64 0) := BR.cell 2
        have d3 : wr.cell? ⟨w.heap.size, 3, none⟩ = some (.int .i64 0) := BR.cell 3
        have hgl4 := BR.lt
        go_wp2_with fail
        have bel4 : Below w.heap.size w ((((wr.setCell ⟨w.heap.size, 0, none⟩ (.int .i64 k)).setCell ⟨w.heap.size, 1, none⟩ (.int .i64 lo)).setCell ⟨w.heap.size, 2, none⟩ (.int .i64 hi)).setCell ⟨w.heap.size, 3, none⟩ (.int .i64 tot)) :=
          (((bel.setCell (Nat.le_refl _) _).setCell (Nat.le_refl _) _).setCell (Nat.le_refl _) _).setCell (Nat.le_refl _) _
        have B4 := (((BR.set 0 (.int .i64 k)).set 1 (.int .i64 lo)).set 2 (.int .i64 hi)).set 3 (.int .i64 tot)
        generalize (((wr.setCell _ _).setCell _ _).setCell _ _).setCell _ _ = w5 at *
        have i0 : w5.cell? ⟨w.heap.size, 0, none⟩ = some (.int .i64 k) := B4.cell 0
        have i1 : w5.cell? ⟨w.heap.size, 1, none⟩ = some (.int .i64 lo) := B4.cell 1
        have i2 : w5.cell? ⟨w.heap.size, 2, none⟩ = some (.int .i64 hi) := B4.cell 2
        have i3 : w5.cell? ⟨w.heap.size, 3, none⟩ = some (.int .i64 tot) := B4.cell 3
        exact bodyPost_ret (v := smV ⟨k, lo, hi, tot⟩) (by simp [results, Try.results77, go_sem, i0, i1, i2, i3, smV]) rfl ⟨rfl, bel4⟩

end Go.Proofs.Ytgncadehaificaa
