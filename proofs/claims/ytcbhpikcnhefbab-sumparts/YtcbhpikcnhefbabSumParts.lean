/-
  Proved: for all points and any two numbers, SumParts returns true and leaves its arguments as they were: the sum of the parts, whichever two are joined first, is that of the whole.
-/
import Derived.Test.YtcbhpikcnhefbabRows
import Derived.Test.YtcbhpikcnhefbabAdded
import Derived.Test.YtcbhpikcnhefbabSumMore
import Derived.Test.YtcbhpikcnhefbabAt
import Derived.Test.YtcbhpikcnhefbabDrawn
namespace Go.Proofs.Ytcbhpikcnhefbab.sumParts
open Go.ChangeShapes Go.WideShapes Go.ChangeAt Go.RowKit
set_option linter.unusedVariables false

/-- A part of a slice of points, as the slice expression makes it. -/
theorem part {w : World} {ao : Option Addr} {cap : Nat} {l : List Pt} (h : SlP w ao cap l) (p q : Nat) (hpq : p ≤ q) (hq : q ≤ l.length) : SlP w (if cap = p then ao else Option.map (fun x => x.add (p * 2)) ao) (cap - p) ((l.take q).drop p) := by
  have hle := h.le
  have hlen : ((l.take q).drop p).length = q - p := by rw [List.length_drop, List.length_take]; omega
  refine ⟨?_, by rw [hlen]; omega, by have := h.max; omega, ?_⟩
  · by_cases he : p = q
    · left
      have e : (l.take q).drop p = [] := List.eq_nil_of_length_eq_zero (by rw [hlen]; omega)
      rw [e]
      rfl
    · right
      obtain ⟨b, off, rfl, hb, hc⟩ := (h.front q).row.at (fun e => by
        have h0 := cellsP_nil e
        have : (l.take q).length = 0 := by rw [h0]; rfl
        rw [List.length_take] at this
        omega)
      rw [if_neg (by omega)]
      refine ⟨b, off + p * 2, by rw [Option.map_some, Addr.add_lit], hb, fun i v hv => ?_⟩
      rw [← cellsP_drop, List.getElem?_drop] at hv
      rw [Nat.add_assoc]
      exact hc _ _ hv
  · intro e
    by_cases hc : cap = p
    · omega
    · rw [if_neg hc] at e
      have := h.nil (by simpa using e)
      omega

/-- The frame while the three parts are summed: what is in it already, and the slots that the statement writes, by the number of their operation. -/
def frame (a0 : Option Addr) (n cap p q : Nat) (j k J K : Int) (V : Nat → Value) : Act :=
  { tmps := #[.slice a0 n cap, .int .i64 p, .int .i64 q, undef, undef, undef, .bool false, V 13, V 14, V 15, undef, .int .i64 j, .slice a0 n cap, .int .i64 n, .int .i64 (n + 1), .int .i64 J, .int .i64 k, .slice a0 n cap, .int .i64 n, .int .i64 (n + 1), .int .i64 K,
      .int .i64 J, .int .i64 K, .int .i64 p, .int .i64 J, .int .i64 K, .int .i64 q, V 0, V 1, V 2, V 3, V 4, V 5, V 6, V 7, V 8, V 9, V 10, V 11, V 12,
      undef, undef, undef, undef, undef, undef, undef, undef, undef, undef, undef, undef, undef, undef, undef, undef, undef, undef, undef, undef, undef, undef, undef, undef, undef, undef, undef, undef, undef, undef], defers := [] }

/-- What each slot holds when its operation has come up. -/
def F (w0 : World) (a0 : Option Addr) (n cap p q : Nat) (l : List Pt) (S : Nat → Sm) : Nat → Value → Prop
  | 0, v => v = .slice a0 n cap
  | 1, v => v = .int .i64 p
  | 2, v => ∃ a' c', v = .slice a' p c' ∧ SlP w0 a' c' (l.take p)
  | 3, v => v = smV (S 13)
  | 4, v => v = .slice a0 n cap
  | 5, v => v = .int .i64 p
  | 6, v => v = .int .i64 q
  | 7, v => ∃ a' c', v = .slice a' (q - p) c' ∧ SlP w0 a' c' ((l.take q).drop p)
  | 8, v => v = smV (S 14)
  | 9, v => v = .slice a0 n cap
  | 10, v => v = .int .i64 q
  | 11, v => ∃ a' c', v = .slice a' (n - q) c' ∧ SlP w0 a' c' (l.drop q)
  | 12, v => v = smV (S 15)
  | _, _ => True

structure Good (w0 : World) (G : Nat → Value → Prop) (S : Nat → Sm) (d : Nat → Bool) (V : Nat → Value) (w : World) : Prop where
  bel : Below w0.heap.size w0 w
  val : ∀ i, i < 13 → d i = true → G i (V i)
  blk : ∀ s, 13 ≤ s → s < 16 → d s = true → ∃ g, V s = .pointer (some ⟨g, 0, none⟩) ∧ w0.heap.size ≤ g ∧ Blk w g (if d (s + 3) = true then (S s).cells else sm0.cells) 39
  ne : ∀ s t, 13 ≤ s → s < 16 → 13 ≤ t → t < 16 → s ≠ t → d s = true → d t = true → V s ≠ V t

def put (V : Nat → Value) (i : Nat) (v : Value) : Nat → Value := fun k => if k = i then v else V k

theorem Good.world {w0 : World} {G : Nat → Value → Prop} {S : Nat → Sm} {d : Nat → Bool} {V : Nat → Value} {w w' : World} (h : Good w0 G S d V w) (hb : Below w.heap.size w w') : Good w0 G S d V w' :=
  ⟨belowCall h.bel hb, h.val, fun s h1 h2 h3 => by
    obtain ⟨g, e, hg, hB⟩ := h.blk s h1 h2 h3
    exact ⟨g, e, hg, hB.keep hb hB.lt⟩, h.ne⟩

theorem Good.pure {w0 : World} {G : Nat → Value → Prop} {S : Nat → Sm} {d : Nat → Bool} {V : Nat → Value} {w : World} (h : Good w0 G S d V w) (i : Nat) (hi : i < 13) (v : Value) (hv : G i v) : Good w0 G S (fun k => k == i || d k) (put V i v) w := by
  have e : ∀ k, 13 ≤ k → (k == i || d k) = d k := fun k hk => by
    have : (k == i) = false := by simp; omega
    simp [this]
  have e2 : ∀ k, 13 ≤ k → put V i v k = V k := fun k hk => if_neg (by omega)
  refine ⟨h.bel, ?_, ?_, ?_⟩
  · intro k hk hd
    by_cases hki : k = i
    · subst hki
      simpa [put] using hv
    · have : d k = true := by simpa [hki] using hd
      simpa [put, hki] using h.val k hk this
  · intro s h1 h2 h3
    rw [e s h1] at h3
    rw [e2 s h1, e (s + 3) (by omega)]
    exact h.blk s h1 h2 h3
  · intro s t h1 h2 h3 h4 h5 h6 h7
    rw [e s h1] at h6
    rw [e t h3] at h7
    rw [e2 s h1, e2 t h3]
    exact h.ne s t h1 h2 h3 h4 h5 h6 h7

theorem Good.fresh {w0 : World} {G : Nat → Value → Prop} {S : Nat → Sm} {d : Nat → Bool} {V : Nat → Value} {w : World} (h : Good w0 G S d V w) (i : Nat) (h1 : 13 ≤ i) (h2 : i < 16) (hs : d (i + 3) = false) :
    Good w0 G S (fun k => k == i || d k) (put V i (.pointer (some ⟨w.heap.size, 0, none⟩))) (w.alloc (.cells sm0.cells.toArray 39)) := by
  have hb : Below w.heap.size w (w.alloc (.cells sm0.cells.toArray 39)) := (Below.refl _ _).alloc (Nat.le_refl _) _
  have e : ∀ k, k ≠ i → (k == i || d k) = d k := fun k hk => by
    have : (k == i) = false := by simp [hk]
    simp [this]
  have e2 : ∀ k, k ≠ i → put V i (.pointer (some ⟨w.heap.size, 0, none⟩)) k = V k := fun k hk => if_neg hk
  have e3 : put V i (.pointer (some ⟨w.heap.size, 0, none⟩)) i = .pointer (some ⟨w.heap.size, 0, none⟩) := if_pos rfl
  have old : ∀ s, 13 ≤ s → s < 16 → d s = true → V s ≠ .pointer (some ⟨w.heap.size, 0, none⟩) := by
    intro s g1 g2 g3 he
    obtain ⟨g, e', _, hB⟩ := h.blk s g1 g2 g3
    rw [e'] at he
    simp at he
    have := hB.lt
    omega
  refine ⟨belowCall h.bel hb, ?_, ?_, ?_⟩
  · intro k hk hd
    rw [e k (by omega)] at hd
    rw [e2 k (by omega)]
    exact h.val k hk hd
  · intro s g1 g2 g3
    have es : ((s + 3) == i || d (s + 3)) = d (s + 3) := e (s + 3) (by omega)
    rw [es]
    by_cases hsi : s = i
    · subst hsi
      rw [e3, hs]
      exact ⟨_, rfl, h.bel.size, Blk.laid w sm0.cells _ _ rfl⟩
    · rw [e s hsi] at g3
      rw [e2 s hsi]
      obtain ⟨g, e', hg, hB⟩ := h.blk s g1 g2 g3
      exact ⟨g, e', hg, hB.keep hb hB.lt⟩
  · intro s t g1 g2 g3 g4 g5 g6 g7
    by_cases hsi : s = i
    · subst hsi
      rw [e t (fun x => g5 x.symm)] at g7
      rw [e3, e2 t (fun x => g5 x.symm)]
      exact fun x => old t g3 g4 g7 x.symm
    · rw [e s hsi] at g6
      rw [e2 s hsi]
      by_cases hti : t = i
      · subst hti
        rw [e3]
        exact old s g1 g2 g6
      · rw [e t hti] at g7
        rw [e2 t hti]
        exact h.ne s t g1 g2 g3 g4 g5 g6 g7

theorem Good.store {w0 : World} {G : Nat → Value → Prop} {S : Nat → Sm} {d : Nat → Bool} {V : Nat → Value} {w : World} (h : Good w0 G S d V w) (i : Nat) (h1 : 13 ≤ i) (h2 : i < 16) (hd : d i = true) (g : Nat) (hg : V i = .pointer (some ⟨g, 0, none⟩)) :
    Good w0 G S (fun k => k == i + 3 || d k) V ((((w.setCell ⟨g, 0, none⟩ (.int .i64 (S i).n)).setCell ⟨g, 1, none⟩ (.int .i64 (S i).lo)).setCell ⟨g, 2, none⟩ (.int .i64 (S i).hi)).setCell ⟨g, 3, none⟩ (.int .i64 (S i).tot)) := by
  obtain ⟨g', e', hg', hB⟩ := h.blk i h1 h2 hd
  obtain rfl : g = g' := by rw [hg] at e'; simpa using e'
  have e : ∀ k, k < 16 → (k == i + 3 || d k) = d k := fun k hk => by
    have : (k == i + 3) = false := by simp; omega
    simp [this]
  have k0 : w0.heap.size ≤ (⟨g, 0, none⟩ : Addr).block := hg'
  refine ⟨(((h.bel.setCell hg' _).setCell hg' _).setCell hg' _).setCell hg' _, ?_, ?_, ?_⟩
  · intro k hk hk'
    rw [e k (by omega)] at hk'
    exact h.val k hk hk'
  · intro s g1 g2 g3
    rw [e s g2] at g3
    by_cases hsi : s = i
    · subst hsi
      refine ⟨g, hg, hg', ?_⟩
      rw [if_pos (by simp)]
      split at hB
      · exact (((hB.set 0 _).set 1 _).set 2 _).set 3 _
      · exact (((hB.set 0 _).set 1 _).set 2 _).set 3 _
    · obtain ⟨gs, es, hgs, hBs⟩ := h.blk s g1 g2 g3
      have hne : g ≠ gs := by
        intro x
        subst x
        exact h.ne s i g1 g2 h1 h2 hsi g3 hd (by rw [es, hg])
      have e4 : ((s + 3) == i + 3 || d (s + 3)) = d (s + 3) := by
        have : ((s + 3) == i + 3) = false := by simp; exact hsi
        simp [this]
      rw [e4]
      exact ⟨gs, es, hgs, (((hBs.other 0 _ hne).other 1 _ hne).other 2 _ hne).other 3 _ hne⟩
  · intro s t g1 g2 g3 g4 g5 g6 g7
    rw [e s g2] at g6
    rw [e t g4] at g7
    exact h.ne s t g1 g2 g3 g4 g5 g6 g7

/-- What stays while sums are joined: four sums, each in its own block. -/
structure K4 (w : World) (g0 g1 g2 g3 : Nat) (A B C T : Sm) (W : World) : Prop where
  b0 : Blk W g0 A.cells 39
  b1 : Blk W g1 B.cells 39
  b2 : Blk W g2 C.cells 39
  b3 : Blk W g3 T.cells 39
  bel : Below w.heap.size w W

theorem K4.over {w : World} {g0 g1 g2 g3 : Nat} {A B C T : Sm} {W : World} {f : Nat} {args : Array Value} {v : Value} (c : Calls Try.prog f args W fun e w' => e = .returned v ∧ Below W.heap.size W w') (h : K4 w g0 g1 g2 g3 A B C T W) :
    Calls Try.prog f args W fun e w' => e = .returned v ∧ w'.cell? ⟨g0, 0, none⟩ = some (.int .i64 A.n) ∧ w'.cell? ⟨g0, 1, none⟩ = some (.int .i64 A.lo) ∧ w'.cell? ⟨g0, 2, none⟩ = some (.int .i64 A.hi) ∧ w'.cell? ⟨g0, 3, none⟩ = some (.int .i64 A.tot) ∧ w'.cell? ⟨g1, 0, none⟩ = some (.int .i64 B.n) ∧ w'.cell? ⟨g1, 1, none⟩ = some (.int .i64 B.lo) ∧ w'.cell? ⟨g1, 2, none⟩ = some (.int .i64 B.hi) ∧ w'.cell? ⟨g1, 3, none⟩ = some (.int .i64 B.tot) ∧ w'.cell? ⟨g2, 0, none⟩ = some (.int .i64 C.n) ∧ w'.cell? ⟨g2, 1, none⟩ = some (.int .i64 C.lo) ∧ w'.cell? ⟨g2, 2, none⟩ = some (.int .i64 C.hi) ∧ w'.cell? ⟨g2, 3, none⟩ = some (.int .i64 C.tot) ∧ w'.cell? ⟨g3, 0, none⟩ = some (.int .i64 T.n) ∧ w'.cell? ⟨g3, 1, none⟩ = some (.int .i64 T.lo) ∧ w'.cell? ⟨g3, 2, none⟩ = some (.int .i64 T.hi) ∧ w'.cell? ⟨g3, 3, none⟩ = some (.int .i64 T.tot) ∧ K4 w g0 g1 g2 g3 A B C T w' := by
  refine c.mono ?_
  rintro e w' ⟨he, hb⟩
  have k : K4 w g0 g1 g2 g3 A B C T w' := ⟨h.b0.keep hb h.b0.lt, h.b1.keep hb h.b1.lt, h.b2.keep hb h.b2.lt, h.b3.keep hb h.b3.lt, belowCall h.bel hb⟩
  exact ⟨he, k.b0.cell 0, k.b0.cell 1, k.b0.cell 2, k.b0.cell 3, k.b1.cell 0, k.b1.cell 1, k.b1.cell 2, k.b1.cell 3, k.b2.cell 0, k.b2.cell 1, k.b2.cell 2, k.b2.cell 3, k.b3.cell 0, k.b3.cell 1, k.b3.cell 2, k.b3.cell 3, k⟩

set_option maxHeartbeats 400000 in
set_option maxRecDepth 100000 in
theorem walk (w : World) (a0 : Option Addr) (cap0 : Nat) (l : List Pt) (s0 : SlP w a0 cap0 l) (hreach : cap0 * 16 ≤ 140737488351232) (wf : ∀ p ∈ l, (Lit.int .i64 p.1).wf = true ∧ (Lit.int .i64 p.2).wf = true) (j : Int) (wj : (Lit.int .i64 j).wf = true) (k : Int) (wk : (Lit.int .i64 k).wf = true) :
    Calls Try.prog 7 #[.slice a0 l.length cap0, .int .i64 j, .int .i64 k] w fun e w' => e = .returned (.bool true) ∧ Below w.heap.size w w' := by
  have hlc := s0.le
  have hcm := s0.max
  have hj0 := Int.emod_nonneg j (show (l.length : Int) + 1 ≠ 0 by omega)
  have hj1 := Int.emod_lt_of_pos j (show 0 < (l.length : Int) + 1 by omega)
  have hk0 := Int.emod_nonneg k (show (l.length : Int) + 1 ≠ 0 by omega)
  have hk1 := Int.emod_lt_of_pos k (show 0 < (l.length : Int) + 1 by omega)
  have c1 := fun W => at_any j ((l.length : Int) + 1) W (by omega) (by omega)
  have c2 := fun W => at_any k ((l.length : Int) + 1) W (by omega) (by omega)
  generalize j % ((l.length : Int) + 1) = J at *
  generalize k % ((l.length : Int) + 1) = K at *
  obtain ⟨p, hp⟩ : ∃ p : Nat, min J K = (p : Int) := ⟨(min J K).toNat, by omega⟩
  obtain ⟨q, hq⟩ : ∃ q : Nat, max J K = (q : Int) := ⟨(max J K).toNat, by omega⟩
  have hpq : p ≤ q := by omega
  have hqn : q ≤ l.length := by omega
  have hcr : cap0 ≤ 8796093022208 := by omega
  clear wj wk wf hreach hj0 hj1 hk0 hk1 hcm
  obtain ⟨n, hn⟩ : ∃ n, n = l.length := ⟨_, rfl⟩
  rw [← hn] at c1 c2 hlc hqn ⊢
  have hpq' : (p : Int) ≤ (q : Int) := by omega
  have hqn' : (q : Int) ≤ (n : Int) := by omega
  have hqc' : (q : Int) ≤ (cap0 : Int) := by omega
  have hnc' : (n : Int) ≤ (cap0 : Int) := by omega
  have hp0' : (0 : Int) ≤ (p : Int) := by omega
  have hcm' : (cap0 : Int) ≤ 8796093022208 := by omega
  have hnm' : (n : Int) ≤ 8796093022208 := by omega
  have HL := hide hn
  clear hn
  obtain ⟨S, hS⟩ : ∃ S : Nat → Sm, S = fun s => if s = 13 then sumS (l.take p) else if s = 14 then sumS ((l.take q).drop p) else sumS (l.drop q) := ⟨_, rfl⟩
  have S13 : S 13 = sumS (l.take p) := by rw [hS]; rfl
  have S14 : S 14 = sumS ((l.take q).drop p) := by rw [hS]; rfl
  have S15 : S 15 = sumS (l.drop q) := by rw [hS]; rfl
  have hpc : p ≤ cap0 := by omega
  have cA : ∀ W a' c', SlP W a' c' (l.take p) → Calls Try.prog 16 #[.slice a' p c'] W fun e w' => e = .returned (smV (S 13)) ∧ Below W.heap.size W w' := by
    intro W a' c' h
    have t := of_any a' c' _ W h
    rw [List.length_take, Nat.min_eq_left (by rw [← HL.out]; omega), ← S13] at t
    exact t
  have cB : ∀ W a' c', SlP W a' c' ((l.take q).drop p) → Calls Try.prog 16 #[.slice a' (q - p) c'] W fun e w' => e = .returned (smV (S 14)) ∧ Below W.heap.size W w' := by
    intro W a' c' h
    have t := of_any a' c' _ W h
    rw [List.length_drop, List.length_take, Nat.min_eq_left (by rw [← HL.out]; omega), ← S14] at t
    exact t
  have cC : ∀ W a' c', SlP W a' c' (l.drop q) → Calls Try.prog 16 #[.slice a' (n - q) c'] W fun e w' => e = .returned (smV (S 15)) ∧ Below W.heap.size W w' := by
    intro W a' c' h
    have t := of_any a' c' _ W h
    rw [List.length_drop, ← HL.out, ← S15] at t
    exact t
  have hz : SlP w (if cap0 = q then a0 else Option.map (fun x => x.add (q * 2)) a0) (cap0 - q) (l.drop q) := by
    have t := part s0 q l.length (by rw [← HL.out]; exact hqn) (Nat.le_refl _)
    rw [List.take_length] at t
    exact t
  have hlen : l.length ≤ 9223372036854775807 := by rw [← HL.out]; omega
  have ex : l.take p ++ (l.take q).drop p = l.take q := by
    have t := List.take_append_drop p (l.take q)
    rw [List.take_take, Nat.min_eq_left hpq] at t
    exact t
  have ey : (l.take q).drop p ++ l.drop q = l.drop p := by
    have t := List.take_append_drop q l
    have u : (l.take q ++ l.drop q).drop p = l.drop p := by rw [t]
    rw [List.drop_append_of_le_length (by rw [List.length_take, ← HL.out]; omega)] at u
    exact u
  have lx : (l.take p).length = p := by rw [List.length_take, ← HL.out]; omega
  have ly : ((l.take q).drop p).length = q - p := by rw [List.length_drop, List.length_take, ← HL.out]; omega
  have lz : (l.drop q).length = n - q := by rw [List.length_drop, ← HL.out]
  have lxy : (l.take q).length = q := by rw [List.length_take, ← HL.out]; omega
  have lyz : (l.drop p).length = n - p := by rw [List.length_drop, ← HL.out]
  have j1 : joinS (S 13) (S 14) = sumS (l.take q) := by rw [S13, S14, sumS_append _ _ (by omega), ex]
  have j2 : joinS (sumS (l.take q)) (S 15) = sumS l := by rw [S15, sumS_append _ _ (by omega), List.take_append_drop]
  have j3 : joinS (S 14) (S 15) = sumS (l.drop p) := by rw [S14, S15, sumS_append _ _ (by omega), ey]
  have j4 : joinS (S 13) (sumS (l.drop p)) = sumS l := by rw [S13, sumS_append _ _ (by omega), List.take_append_drop]
  have j5 : joinS (S 14) (S 13) = sumS (l.take q) := by rw [S13, S14, sumS_comm _ _ (by omega), ex]
  have j6 : joinS (S 15) (sumS (l.take q)) = sumS l := by rw [S15, sumS_comm _ _ (by omega), List.take_append_drop]
  clear ex ey lx ly lz lxy lyz hlen
  have cW : ∀ W, SlP W a0 cap0 l → Calls Try.prog 16 #[.slice a0 n cap0] W fun e w' => e = .returned (smV (sumS l)) ∧ Below W.heap.size W w' := by
    intro W h
    have t := of_any a0 cap0 l W h
    rw [← HL.out] at t
    exact t
  have HS := hide (And.intro S13 (And.intro S14 S15))
  clear hS S13 S14 S15
  go_enter Try.func7, Try.ntmps7
  go_wp2_with fail
  go_at_call 14
  refine (c1 _).mono ?_
  rintro e w1 ⟨rfl, rfl⟩
  go_wp2_with fail
  go_at_call 14
  refine (c2 _).mono ?_
  rintro e w1 ⟨rfl, rfl⟩
  go_wp2_with fail
  refine wp_region_inv (by kernel_rfl) (by kernel_rfl) (fun d a W => ∃ V, a = frame a0 n cap0 p q j k J K V ∧ Good w (F w a0 n cap0 p q l S) S d V W) ?step ?fin ?start
  case start => exact ⟨fun _ => undef, rfl, ⟨belowDrew (Below.refl _ _), fun _ _ h => Bool.noConfusion h, fun _ _ _ h => Bool.noConfusion h, fun _ _ _ _ _ _ _ h => Bool.noConfusion h⟩⟩
  case step =>
    intro i o d a W hi ho hd hall down inv K' hK
    obtain ⟨V, rfl, good⟩ := inv
    have key : i = 0 ∨ i = 1 ∨ i = 2 ∨ i = 3 ∨ i = 4 ∨ i = 5 ∨ i = 6 ∨ i = 7 ∨ i = 8 ∨ i = 9 ∨ i = 10 ∨ i = 11 ∨ i = 12 ∨ i = 13 ∨ i = 14 ∨ i = 15 ∨ i = 16 ∨ i = 17 ∨ i = 18 := by
      have : i < 19 := hi
      omega
    clear hi
    rcases key with rfl | rfl | rfl | rfl | rfl | rfl | rfl | rfl | rfl | rfl | rfl | rfl | rfl | rfl | rfl | rfl | rfl | rfl | rfl
    · obtain rfl := Option.some.inj ho
      rw [if_pos (by rfl)]
      unfold frame
      go_simp
      exact hK _ _ ⟨put V 0 _, rfl, good.pure 0 (by omega) _ rfl⟩
    · obtain rfl := Option.some.inj ho
      rw [if_pos (by rfl)]
      unfold frame
      go_simp
      exact hK _ _ ⟨put V 1 _, rfl, good.pure 1 (by omega) _ rfl⟩
    · obtain rfl := Option.some.inj ho
      rw [if_pos (by rfl)]
      have e0 : V 0 = .slice a0 n cap0 := good.val 0 (by omega) (hall ⟨0, .data⟩ (by simp) rfl)
      have e1 : V 1 = .int .i64 p := good.val 1 (by omega) (hall ⟨1, .data⟩ (by simp) rfl)
      unfold frame
      rw [e0, e1]
      go_simp
      refine hK _ _ ⟨put V 2 _, ?_, good.pure 2 (by omega) _ ⟨_, _, rfl, s0.front p⟩⟩
      unfold frame put
      simp [e0, e1]
    · obtain rfl := Option.some.inj ho
      rw [if_pos (by rfl)]
      obtain ⟨a', c', e2, hs⟩ := good.val 2 (by omega) (hall ⟨2, .data⟩ (by simp) rfl)
      unfold frame
      rw [e2]
      go_simp
      refine (cA W a' c' (hs.keep good.bel (Nat.le_refl _))).mono ?_
      rintro e W' ⟨rfl, hb⟩
      go_simp
      refine hK _ _ ⟨put V 3 _, ?_, (good.world hb).pure 3 (by omega) _ rfl⟩
      unfold frame put
      simp [e2]
    · obtain rfl := Option.some.inj ho
      rw [if_pos (by rfl)]
      unfold frame
      go_simp
      exact hK _ _ ⟨put V 4 _, rfl, good.pure 4 (by omega) _ rfl⟩
    · obtain rfl := Option.some.inj ho
      rw [if_pos (by rfl)]
      unfold frame
      go_simp
      exact hK _ _ ⟨put V 5 _, rfl, good.pure 5 (by omega) _ rfl⟩
    · obtain rfl := Option.some.inj ho
      rw [if_pos (by rfl)]
      unfold frame
      go_simp
      exact hK _ _ ⟨put V 6 _, rfl, good.pure 6 (by omega) _ rfl⟩
    · obtain rfl := Option.some.inj ho
      rw [if_pos (by rfl)]
      have e4 : V 4 = .slice a0 n cap0 := good.val 4 (by omega) (hall ⟨4, .data⟩ (by simp) rfl)
      have e5 : V 5 = .int .i64 p := good.val 5 (by omega) (hall ⟨5, .data⟩ (by simp) rfl)
      have e6 : V 6 = .int .i64 q := good.val 6 (by omega) (hall ⟨6, .data⟩ (by simp) rfl)
      unfold frame
      rw [e4, e5, e6]
      go_simp
      refine hK _ _ ⟨put V 7 _, ?_, good.pure 7 (by omega) _ ⟨_, _, rfl, part s0 p q hpq (by rw [← HL.out]; exact hqn)⟩⟩
      unfold frame put
      simp [e4, e5, e6]
    · obtain rfl := Option.some.inj ho
      rw [if_pos (by rfl)]
      obtain ⟨a', c', e7, hs⟩ := good.val 7 (by omega) (hall ⟨7, .data⟩ (by simp) rfl)
      unfold frame
      rw [e7]
      go_simp
      refine (cB W a' c' (hs.keep good.bel (Nat.le_refl _))).mono ?_
      rintro e W' ⟨rfl, hb⟩
      go_simp
      refine hK _ _ ⟨put V 8 _, ?_, (good.world hb).pure 8 (by omega) _ rfl⟩
      unfold frame put
      simp [e7]
    · obtain rfl := Option.some.inj ho
      rw [if_pos (by rfl)]
      unfold frame
      go_simp
      exact hK _ _ ⟨put V 9 _, rfl, good.pure 9 (by omega) _ rfl⟩
    · obtain rfl := Option.some.inj ho
      rw [if_pos (by rfl)]
      unfold frame
      go_simp
      exact hK _ _ ⟨put V 10 _, rfl, good.pure 10 (by omega) _ rfl⟩
    · obtain rfl := Option.some.inj ho
      rw [if_pos (by rfl)]
      have e9 : V 9 = .slice a0 n cap0 := good.val 9 (by omega) (hall ⟨9, .data⟩ (by simp) rfl)
      have e10 : V 10 = .int .i64 q := good.val 10 (by omega) (hall ⟨10, .data⟩ (by simp) rfl)
      unfold frame
      rw [e9, e10]
      go_simp
      refine hK _ _ ⟨put V 11 _, ?_, good.pure 11 (by omega) _ ⟨_, _, rfl, hz⟩⟩
      unfold frame put
      simp [e9, e10]
    · obtain rfl := Option.some.inj ho
      rw [if_pos (by rfl)]
      obtain ⟨a', c', e11, hs⟩ := good.val 11 (by omega) (hall ⟨11, .data⟩ (by simp) rfl)
      unfold frame
      rw [e11]
      go_simp
      refine (cC W a' c' (hs.keep good.bel (Nat.le_refl _))).mono ?_
      rintro e W' ⟨rfl, hb⟩
      go_simp
      refine hK _ _ ⟨put V 12 _, ?_, (good.world hb).pure 12 (by omega) _ rfl⟩
      unfold frame put
      simp [e11]
    · obtain rfl := Option.some.inj ho
      rw [if_pos (by rfl)]
      have hs : d 16 = false := by
        cases e : d 16 with
        | false => rfl
        | true =>
          have := down 16 _ rfl e ⟨13, .data⟩ (by simp) rfl
          rw [hd] at this
          cases this
      unfold frame
      go_simp
      exact hK _ _ ⟨put V 13 _, rfl, good.fresh 13 (by omega) (by omega) hs⟩
    · obtain rfl := Option.some.inj ho
      rw [if_pos (by rfl)]
      have hs : d 17 = false := by
        cases e : d 17 with
        | false => rfl
        | true =>
          have := down 17 _ rfl e ⟨14, .data⟩ (by simp) rfl
          rw [hd] at this
          cases this
      unfold frame
      go_simp
      exact hK _ _ ⟨put V 14 _, rfl, good.fresh 14 (by omega) (by omega) hs⟩
    · obtain rfl := Option.some.inj ho
      rw [if_pos (by rfl)]
      have hs : d 18 = false := by
        cases e : d 18 with
        | false => rfl
        | true =>
          have := down 18 _ rfl e ⟨15, .data⟩ (by simp) rfl
          rw [hd] at this
          cases this
      unfold frame
      go_simp
      exact hK _ _ ⟨put V 15 _, rfl, good.fresh 15 (by omega) (by omega) hs⟩
    · obtain rfl := Option.some.inj ho
      rw [if_pos (by rfl)]
      have hdi : d 13 = true := hall ⟨13, .data⟩ (by simp) rfl
      obtain ⟨g, eg, hg, hB⟩ := good.blk 13 (by omega) (by omega) hdi
      have es : V 3 = smV (S 13) := good.val 3 (by omega) (hall ⟨3, .data⟩ (by simp) rfl)
      rw [hd] at hB
      have q0 : W.cell? ⟨g, 0, none⟩ = some (.int .i64 0) := hB.cell 0
      have q1 : W.cell? ⟨g, 1, none⟩ = some (.int .i64 0) := hB.cell 1
      have q2 : W.cell? ⟨g, 2, none⟩ = some (.int .i64 0) := hB.cell 2
      have q3 : W.cell? ⟨g, 3, none⟩ = some (.int .i64 0) := hB.cell 3
      have f0 := hB.free 0
      have f1 := hB.free 1
      have f2 := hB.free 2
      have f3 := hB.free 3
      unfold frame
      rw [eg, es]
      unfold smV
      go_simp
      refine hK _ _ ⟨V, ?_, good.store 13 (by omega) (by omega) hdi g eg⟩
      unfold frame
      rw [eg, es]
      rfl
    · obtain rfl := Option.some.inj ho
      rw [if_pos (by rfl)]
      have hdi : d 14 = true := hall ⟨14, .data⟩ (by simp) rfl
      obtain ⟨g, eg, hg, hB⟩ := good.blk 14 (by omega) (by omega) hdi
      have es : V 8 = smV (S 14) := good.val 8 (by omega) (hall ⟨8, .data⟩ (by simp) rfl)
      rw [hd] at hB
      have q0 : W.cell? ⟨g, 0, none⟩ = some (.int .i64 0) := hB.cell 0
      have q1 : W.cell? ⟨g, 1, none⟩ = some (.int .i64 0) := hB.cell 1
      have q2 : W.cell? ⟨g, 2, none⟩ = some (.int .i64 0) := hB.cell 2
      have q3 : W.cell? ⟨g, 3, none⟩ = some (.int .i64 0) := hB.cell 3
      have f0 := hB.free 0
      have f1 := hB.free 1
      have f2 := hB.free 2
      have f3 := hB.free 3
      unfold frame
      rw [eg, es]
      unfold smV
      go_simp
      refine hK _ _ ⟨V, ?_, good.store 14 (by omega) (by omega) hdi g eg⟩
      unfold frame
      rw [eg, es]
      rfl
    · obtain rfl := Option.some.inj ho
      rw [if_pos (by rfl)]
      have hdi : d 15 = true := hall ⟨15, .data⟩ (by simp) rfl
      obtain ⟨g, eg, hg, hB⟩ := good.blk 15 (by omega) (by omega) hdi
      have es : V 12 = smV (S 15) := good.val 12 (by omega) (hall ⟨12, .data⟩ (by simp) rfl)
      rw [hd] at hB
      have q0 : W.cell? ⟨g, 0, none⟩ = some (.int .i64 0) := hB.cell 0
      have q1 : W.cell? ⟨g, 1, none⟩ = some (.int .i64 0) := hB.cell 1
      have q2 : W.cell? ⟨g, 2, none⟩ = some (.int .i64 0) := hB.cell 2
      have q3 : W.cell? ⟨g, 3, none⟩ = some (.int .i64 0) := hB.cell 3
      have f0 := hB.free 0
      have f1 := hB.free 1
      have f2 := hB.free 2
      have f3 := hB.free 3
      unfold frame
      rw [eg, es]
      unfold smV
      go_simp
      refine hK _ _ ⟨V, ?_, good.store 15 (by omega) (by omega) hdi g eg⟩
      unfold frame
      rw [eg, es]
      rfl
  case fin =>
    intro d a W hd inv
    obtain ⟨V, rfl, good⟩ := inv
    obtain ⟨g7, e7, h7, B7⟩ := good.blk 13 (by omega) (by omega) (hd 13 (by decide))
    obtain ⟨g8, e8, h8, B8⟩ := good.blk 14 (by omega) (by omega) (hd 14 (by decide))
    obtain ⟨g9, e9, h9, B9⟩ := good.blk 15 (by omega) (by omega) (hd 15 (by decide))
    rw [if_pos (hd 16 (by decide))] at B7
    rw [if_pos (hd 17 (by decide))] at B8
    rw [if_pos (hd 18 (by decide))] at B9
    have bel := good.bel
    have v0 : V 0 = .slice a0 n cap0 := good.val 0 (by omega) (hd 0 (by decide))
    clear good hd
    unfold frame
    rw [e7, e8, e9]
    go_wp2_with fail
    go_at_call 16
    refine (cW _ (s0.keep bel (Nat.le_refl _))).mono ?_
    rintro e w2 ⟨rfl, b2⟩
    have bel2 := belowCall bel b2
    have B72 := B7.keep b2 B7.lt
    have B82 := B8.keep b2 B8.lt
    have B92 := B9.keep b2 B9.lt
    clear bel B7 B8 B9 b2 cW cA cB cC c1 c2 hz
    generalize S 13 = A at *
    generalize S 14 = B at *
    generalize S 15 = C at *
    generalize sumS (l.take q) = AB at *
    generalize sumS (l.drop p) = BC at *
    generalize sumS l = T at *
    obtain ⟨An, Alo, Ahi, Atot⟩ := A
    obtain ⟨Bn, Blo, Bhi, Btot⟩ := B
    obtain ⟨Cn, Clo, Chi, Ctot⟩ := C
    obtain ⟨Tn, Tlo, Thi, Ttot⟩ := T
    obtain ⟨ABn, ABlo, ABhi, ABtot⟩ := AB
    obtain ⟨BCn, BClo, BChi, BCtot⟩ := BC
    unfold smV at *
    simp only at *
    go_wp2_with fail
    have k0 : K4 w g7 g8 g9 w2.heap.size ⟨An, Alo, Ahi, Atot⟩ ⟨Bn, Blo, Bhi, Btot⟩ ⟨Cn, Clo, Chi, Ctot⟩ ⟨Tn, Tlo, Thi, Ttot⟩ (w2.alloc (.cells #[.int .i64 Tn, .int .i64 Tlo, .int .i64 Thi, .int .i64 Ttot] 39)) :=
      ⟨B72.alc _, B82.alc _, B92.alc _, Blk.laid w2 (Sm.cells ⟨Tn, Tlo, Thi, Ttot⟩) _ _ rfl, bel2.alloc bel2.size _⟩
    generalize w2.alloc _ = w3 at *
    generalize w2.heap.size = g10 at *
    have k1 : K4 w g7 g8 g9 g10 ⟨An, Alo, Ahi, Atot⟩ ⟨Bn, Blo, Bhi, Btot⟩ ⟨Cn, Clo, Chi, Ctot⟩ ⟨Tn, Tlo, Thi, Ttot⟩ w3.drew := ⟨k0.b0, k0.b1, k0.b2, k0.b3, belowDrew k0.bel⟩
    have q0 : w3.cell? ⟨g7, 0, none⟩ = some (.int .i64 An) := k0.b0.cell 0
    have q1 : w3.cell? ⟨g7, 1, none⟩ = some (.int .i64 Alo) := k0.b0.cell 1
    have q2 : w3.cell? ⟨g7, 2, none⟩ = some (.int .i64 Ahi) := k0.b0.cell 2
    have q3 : w3.cell? ⟨g7, 3, none⟩ = some (.int .i64 Atot) := k0.b0.cell 3
    have q4 : w3.cell? ⟨g8, 0, none⟩ = some (.int .i64 Bn) := k0.b1.cell 0
    have q5 : w3.cell? ⟨g8, 1, none⟩ = some (.int .i64 Blo) := k0.b1.cell 1
    have q6 : w3.cell? ⟨g8, 2, none⟩ = some (.int .i64 Bhi) := k0.b1.cell 2
    have q7 : w3.cell? ⟨g8, 3, none⟩ = some (.int .i64 Btot) := k0.b1.cell 3
    have q8 : w3.cell? ⟨g9, 0, none⟩ = some (.int .i64 Cn) := k0.b2.cell 0
    have q9 : w3.cell? ⟨g9, 1, none⟩ = some (.int .i64 Clo) := k0.b2.cell 1
    have q10 : w3.cell? ⟨g9, 2, none⟩ = some (.int .i64 Chi) := k0.b2.cell 2
    have q11 : w3.cell? ⟨g9, 3, none⟩ = some (.int .i64 Ctot) := k0.b2.cell 3
    have q12 : w3.cell? ⟨g10, 0, none⟩ = some (.int .i64 Tn) := k0.b3.cell 0
    have q13 : w3.cell? ⟨g10, 1, none⟩ = some (.int .i64 Tlo) := k0.b3.cell 1
    have q14 : w3.cell? ⟨g10, 2, none⟩ = some (.int .i64 Thi) := k0.b3.cell 2
    have q15 : w3.cell? ⟨g10, 3, none⟩ = some (.int .i64 Ttot) := k0.b3.cell 3
    have dA := fun W (h : K4 w g7 g8 g9 g10 ⟨An, Alo, Ahi, Atot⟩ ⟨Bn, Blo, Bhi, Btot⟩ ⟨Cn, Clo, Chi, Ctot⟩ ⟨Tn, Tlo, Thi, Ttot⟩ W) => K4.over (added_any W) h
    have dJ := fun x0 x1 x2 x3 y0 y1 y2 y3 W (h : K4 w g7 g8 g9 g10 ⟨An, Alo, Ahi, Atot⟩ ⟨Bn, Blo, Bhi, Btot⟩ ⟨Cn, Clo, Chi, Ctot⟩ ⟨Tn, Tlo, Thi, Ttot⟩ W) => K4.over (join_raw x0 x1 x2 x3 y0 y1 y2 y3 W) h
    unfold smV at dJ
    simp only at dA dJ
    clear k0 B72 B82 B92 bel2 s0 HL HS
    go_region_held3 (fun w' => w'.cell? ⟨g7, 0, none⟩ = some (.int .i64 An) ∧ w'.cell? ⟨g7, 1, none⟩ = some (.int .i64 Alo) ∧ w'.cell? ⟨g7, 2, none⟩ = some (.int .i64 Ahi) ∧ w'.cell? ⟨g7, 3, none⟩ = some (.int .i64 Atot) ∧ w'.cell? ⟨g8, 0, none⟩ = some (.int .i64 Bn) ∧ w'.cell? ⟨g8, 1, none⟩ = some (.int .i64 Blo) ∧ w'.cell? ⟨g8, 2, none⟩ = some (.int .i64 Bhi) ∧ w'.cell? ⟨g8, 3, none⟩ = some (.int .i64 Btot) ∧ w'.cell? ⟨g9, 0, none⟩ = some (.int .i64 Cn) ∧ w'.cell? ⟨g9, 1, none⟩ = some (.int .i64 Clo) ∧ w'.cell? ⟨g9, 2, none⟩ = some (.int .i64 Chi) ∧ w'.cell? ⟨g9, 3, none⟩ = some (.int .i64 Ctot) ∧ w'.cell? ⟨g10, 0, none⟩ = some (.int .i64 Tn) ∧ w'.cell? ⟨g10, 1, none⟩ = some (.int .i64 Tlo) ∧ w'.cell? ⟨g10, 2, none⟩ = some (.int .i64 Thi) ∧ w'.cell? ⟨g10, 3, none⟩ = some (.int .i64 Ttot) ∧ K4 w g7 g8 g9 g10 ⟨An, Alo, Ahi, Atot⟩ ⟨Bn, Blo, Bhi, Btot⟩ ⟨Cn, Clo, Chi, Ctot⟩ ⟨Tn, Tlo, Thi, Ttot⟩ w') (go_keep)
      (first
        | (go_at_call 15; refine (dA _ ?_).mono ?_; (simp [*]); rintro e w' ⟨rfl, t0, t1, t2, t3, t4, t5, t6, t7, t8, t9, t10, t11, t12, t13, t14, t15, t16⟩)
        | (go_at_call 18; refine (dJ _ _ _ _ _ _ _ _ _ ?_).mono ?_; (simp [*]); simp only [j1, j2, j3, j4, j5, j6]; rintro e w' ⟨rfl, t0, t1, t2, t3, t4, t5, t6, t7, t8, t9, t10, t11, t12, t13, t14, t15, t16⟩))
    all_goals go_wp2_with fail
    all_goals go_ret
    all_goals exact ⟨by simp, K4.bel (by assumption)⟩

set_option maxRecDepth 100000 in
theorem lifted (os : Os) (started : os.Started) (H : Type) (enc : TypeId × Value → H) :
    ReturnsInHanded {} Try.checked os 7 .any (Rows.sumPartsSpec.pre6 enc Try.prog Try.f7 Rows.sumPartsRow.domain false) (Rows.sumPartsSpec.post enc Try.prog Try.f7 false true false false) := by
  refine returnsInHanded_of_change_sized (C := Try.checked) own started (by kernel_rfl) Try.func7
    (ChangeSpec.witness6 (enc := enc) (C := Try.checked) false ⟨#[], #[.slice none 0 0, .int .i64 0, .int .i64 0], []⟩ 8 (by kernel_rfl) (by kernel_rfl) (by kernel_rfl) (by kernel_rfl)) ?_
  intro W base args ds gs before hval0 hW hcnd hsz0 _
  have hsz : (DataW.weightsEach Try.prog (Try.f7.params.toList ++ Rows.sumPartsSpec.plain.varTypes Try.prog) (ds ++ gs)).all (· ≤ reachBytes) = true := hsz0
  have hval : ∀ (j : Nat) t v, Try.f7.params[j]? = some t → args[j]? = some v → Value.okWide Try.prog W .any base t v := hval0
  have hW' := hW
  obtain ⟨p, q, hA0, hV, rfl, hfz, hnd⟩ := hW
  have hA : DataW.TrodAll enc Try.prog W 0 (fun _ => true) true Try.f7.params.toList args.toList ds p := hA0
  rw [Try.params7] at hA hval hsz
  obtain ⟨v0, vs0, d0, ds0, p0, q0, hargs, rfl, rfl, h0, r0⟩ := trodAll_cons hA
  obtain ⟨v1, vs1, d1, ds1, p1, q1, rfl, rfl, rfl, h1, r1⟩ := trodAll_cons r0
  obtain ⟨v2, vs2, d2, ds2, p2, q2, rfl, rfl, rfl, h2, r2⟩ := trodAll_cons r1
  obtain ⟨rfl, rfl, rfl⟩ := trodAll_nil r2
  obtain rfl : args = #[v0, v1, v2] := by cases args; simp_all
  obtain ⟨rfl, rfl⟩ := trodVars_none hV
  obtain ⟨a0, len0, cap0, rfl⟩ := okWide_slice Try.underlying22 (hval 0 22 v0 rfl rfl)
  have k0 := h0
  have lt0 : ∀ x ∈ p0, x.block < W.heap.size := by obtain ⟨m, hm⟩ := k0; exact DataW.trod_lt m _ _ _ hm
  obtain ⟨l0, rfl, s0, wf0, dd0⟩ := open_points Try.underlying22 Try.underlying32 (by kernel_rfl) rfl rfl (by kernel_rfl) (by kernel_rfl) Try.underlying3 Try.underlying3 h0
  have reach0 := reach_of (j := 0) (bytes := 16) hsz rfl rfl Try.underlying22 (by kernel_rfl) dd0
  obtain ⟨a1, rfl, rfl, rfl, w1⟩ := open_int Try.underlying3 (hval 1 3 v1 rfl rfl) h1
  obtain ⟨a2, rfl, rfl, rfl, w2⟩ := open_int Try.underlying3 (hval 2 3 v2 rfl rfl) h2
  clear hA0 hval0 hsz0
  refine (walk W a0 cap0 l0 s0 reach0 wf0 a1 w1 a2 w2).mono fun e W' ⟨he, bel⟩ => ?_
  subst he
  exact ⟨_, rfl, _, _, _, [], _, [], hW', trodAll_mk1 (shut_bool Try.underlying4 _), (trodAll_cons_mk (Below.trod laidOut (by kernel_rfl) (of_decide_eq_true (by kernel_rfl)) k0 bel lt0) (trodAll_cons_mk (shut_int Try.underlying3 w1) (trodAll_cons_mk (shut_int Try.underlying3 w2) trodAll_mk0))), rfl, bel.frame _, fun h => by cases h⟩

theorem over : Rows.sumPartsRow.holds Try.pinned (OpenSpec.ofChange Rows.sumPartsSpec) :=
  OpenClaim.holds_of_wide 7 Try.f7 rfl rfl rfl rfl rfl rfl rfl ⟨rfl, rfl, rfl, rfl, rfl⟩ rfl rfl rfl rfl rfl (by kernel_rfl) Try.func7 (by kernel_rfl)
    (of_decide_eq_true (by kernel_rfl)) (by unfold Func.isWrapper; first | (rw [if_pos (by decide +kernel)]; kernel_rfl) | (rw [if_neg (by decide +kernel)]; exact ⟨rfl, rfl⟩))
    (fun os started H enc _ => lifted os started H enc)
end Go.Proofs.Ytcbhpikcnhefbab.sumParts

namespace Go.Proofs.Ytcbhpikcnhefbab
theorem sumParts_holds : Rows.SumPartsSaid := sumParts.over
#print axioms sumParts_holds
end Go.Proofs.Ytcbhpikcnhefbab
