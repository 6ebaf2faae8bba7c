/-
  rainbookref.Sealed, of a shelf that is right: what it answers; nothing that was there is written.
-/
import Derived.Deep.RegionHeld3
import Derived.Deep.AppendLies
import Derived.Test.YtabeihkfjlmepaaP06
import Derived.Test.YtabeihkfjlmepaaP26
import Derived.Test.YtabeihkfjlmepaaP07
import Derived.Test.YtabeihkfjlmepaaP22
namespace Go.Proofs.Ytabeihkfjlmepaa
open Go.RowKit

theorem rows_one (l : List Lr) : ∀ v ∈ l.flatMap Lr.cells, v.oneCell' = true := by
  intro v hv
  obtain ⟨r, _, h⟩ := List.mem_flatMap.1 hv
  simp only [Lr.cells, List.mem_cons, List.not_mem_nil, or_false] at h
  rcases h with rfl | rfl <;> rfl

theorem blocks_one (l : List Lb) : ∀ v ∈ l.flatMap Lb.cells, v.oneCell' = true := by
  intro v hv
  obtain ⟨r, _, h⟩ := List.mem_flatMap.1 hv
  simp only [Lb.cells, List.mem_cons, List.not_mem_nil, or_false] at h
  rcases h with rfl | rfl | rfl | rfl <;> rfl

/-- Two blocks of one cell, laid one behind the other: the second. -/
theorem three' (w : World) (x y : List Value) (t : TypeId) : Blk ((w.alloc (.cells x.toArray t)).alloc (.cells y.toArray t)) (w.heap.size + 1) y t ∧ Below w.heap.size w ((w.alloc (.cells x.toArray t)).alloc (.cells y.toArray t)) :=
  ⟨Blk.laid _ y t _ (by simp), below2 w _ _⟩

set_option maxHeartbeats 400000 in
set_option maxRecDepth 100000 in
theorem refSeal_who (m : Nat) (ao : Option Addr) (cap : Nat) (s n : Int) (w : World) (h : inI s 0 3 = false) :
    Calls Try.prog 51 #[.agg #[.slice ao m cap], .int .i64 s, .int .i64 n] w fun e w' => e = .returned (.tuple #[.agg #[.slice none 0 0], .int .i64 5]) ∧ Below w.heap.size w w' := by
  have c := fun W => in_any s 0 3 W
  unfold inI at h
  rw [h] at c
  clear h
  go_enter Try.func51, Try.ntmps51
  go_wp2_with fail
  go_at_call 48
  refine (c _).mono ?_
  rintro e w1 ⟨rfl, rfl⟩
  go_wp2_with fail
  exact bodyPost_ret (v := .tuple #[.agg #[.slice none 0 0], .int .i64 5]) (by simp [results, Try.results51, go_sem]) rfl ⟨rfl, below2 w _ _⟩

/-- The rows that were cloned: where they lie. -/
theorem four_own {w : World} {base : Nat} {e : TypeId} {v : Value} {xs : List Value} (h : w.ownsRow base e 2 v 4 xs) : ∃ g cap, v = .slice (some ⟨g, 0, none⟩) 4 cap ∧ base ≤ g ∧ g < w.heap.size := by
  rcases h.2 with ⟨rfl, h0⟩ | ⟨g, cap, cur, rfl, hb, hg, _⟩
  · cases h0
  · exact ⟨g, cap, rfl, hb, (Array.getElem?_eq_some_iff.1 hg).1⟩

theorem row_cells {w : World} {base g cap : Nat} {e : TypeId} {l : List Lr} (h : w.ownsRow base e 2 (.slice (some ⟨g, 0, none⟩) 4 cap) 4 (l.flatMap Lr.cells)) (k : Nat) (hk : k < 4) (r : Lr) (hr : l[k]? = some r) :
    w.cell? ⟨g, k * 2, none⟩ = some (.slice r.ba r.bs.length r.bc) ∧ w.cell? ⟨g, k * 2 + 1, none⟩ = some (.slice r.ha r.hd.length r.hc) := by
  rw [h.cellAt (k * 2) (by omega), h.cellAt (k * 2 + 1) (by omega)]
  exact ⟨flat_get Lr.two l k 0 r hr (by decide), flat_get Lr.two l k 1 r hr (by decide)⟩

set_option maxHeartbeats 400000 in
set_option maxRecDepth 100000 in
theorem refSeal_range (l : List Lr) (ao : Option Addr) (cap : Nat) (k : Nat) (n : Int) (w : World) (hs : SlR w ao cap l) (h4 : l.length = 4) (hk : k < 4) (r : Lr) (hr : l[k]? = some r) (h : inI n 1 r.hd.length = false) :
    Calls Try.prog 51 #[.agg #[.slice ao 4 cap], .int .i64 k, .int .i64 n] w fun e w' => e = .returned (.tuple #[.agg #[.slice none 0 0], .int .i64 3]) ∧ Below w.heap.size w w' := by
  have c := fun W => in_any (k : Int) 0 3 W
  rw [decide_eq_true (show (0 : Int) ≤ k ∧ (k : Int) ≤ 3 by omega)] at c
  have c2 := fun W => in_any n 1 (r.hd.length : Int) W
  unfold inI at h
  rw [h] at c2
  have c3 := fun W (hW : SlW Lr.cells W ao cap l) => cloneR ao cap (l.flatMap Lr.cells) 4 W hW.row (by have := hs.sl.le; omega) hs.sl.nil (by rw [flat_length Lr.two, h4]) (rows_one l) (by omega)
  have rc := fun W g c (h : World.ownsRow W (w.heap.size + 2) 56 2 (.slice (some ⟨g, 0, none⟩) 4 c) 4 (l.flatMap Lr.cells)) => row_cells h k hk r hr
  have s2 := fun o1 o2 => (hs.sl.alloc o1).alloc o2
  have hk' : (k : Int) < 4 := by omega
  generalize r.hd.length = m at *
  generalize r.bs.length = bn at *
  clear h hr h4 hs
  go_enter Try.func51, Try.ntmps51
  go_wp2_with fail
  go_at_call 48
  refine (c _).mono ?_
  rintro e w1 ⟨rfl, rfl⟩
  go_wp2_with fail
  have BR := (three' w [.slice ao 4 cap] [.slice none 0 0] 24)
  go_at_call 65
  refine (c3 _ (s2 _ _)).mono ?_
  rintro e w1 ⟨v1, rfl, own, b1⟩
  obtain ⟨BR, bel⟩ := BR
  replace BR := BR.keep b1 BR.lt
  replace bel := belowCall bel b1
  clear b1 s2 c3 c
  obtain ⟨g, G, rfl, hg1, hg2⟩ := four_own own
  simp only [World.size_alloc] at own hg1
  obtain ⟨e0, e1⟩ := rc _ _ _ own
  have f0 := BR.free 0
  have d0 : w1.cell? ⟨w.heap.size + 1, 0, none⟩ = some (.slice none 0 0) := BR.cell 0
  have hgl := BR.lt
  go_wp2_with fail
  go_at_call 48
  refine (c2 _).mono ?_
  rintro e w2 ⟨rfl, rfl⟩
  go_wp2_with fail
  exact bodyPost_ret (v := .tuple #[.agg #[.slice none 0 0], .int .i64 3]) (by simp [results, Try.results51, go_sem, d0, hgl]) rfl ⟨rfl, belowNew (bel.setCell (by simp) _) _⟩

set_option maxHeartbeats 400000 in
set_option maxRecDepth 100000 in
theorem refSeal_many (l : List Lr) (ao : Option Addr) (cap : Nat) (k : Nat) (q : Nat) (w : World) (hs : SlR w ao cap l) (h4 : l.length = 4) (hk : k < 4) (r : Lr) (hr : l[k]? = some r) (h : inI q 1 r.hd.length = true) (h8 : 8 ≤ r.bs.length) (hb : r.bs.length ≤ 8) :
    Calls Try.prog 51 #[.agg #[.slice ao 4 cap], .int .i64 k, .int .i64 q] w fun e w' => e = .returned (.tuple #[.agg #[.slice none 0 0], .int .i64 2]) ∧ Below w.heap.size w w' := by
  have c := fun W => in_any (k : Int) 0 3 W
  rw [decide_eq_true (show (0 : Int) ≤ k ∧ (k : Int) ≤ 3 by omega)] at c
  have c2 := fun W => in_any (q : Int) 1 (r.hd.length : Int) W
  unfold inI at h
  rw [h] at c2
  have c3 := fun W (hW : SlW Lr.cells W ao cap l) => cloneR ao cap (l.flatMap Lr.cells) 4 W hW.row (by have := hs.sl.le; omega) hs.sl.nil (by rw [flat_length Lr.two, h4]) (rows_one l) (by omega)
  have rc := fun W g c (h : World.ownsRow W (w.heap.size + 2) 56 2 (.slice (some ⟨g, 0, none⟩) 4 c) 4 (l.flatMap Lr.cells)) => row_cells h k hk r hr
  have s2 := fun o1 o2 => (hs.sl.alloc o1).alloc o2
  have hk' : (k : Int) < 4 := by omega
  generalize r.hd.length = m at *
  generalize r.bs.length = bn at *
  have h8' : (8 : Int) ≤ bn := by omega
  clear h hr h4 hs
  go_enter Try.func51, Try.ntmps51
  go_wp2_with fail
  go_at_call 48
  refine (c _).mono ?_
  rintro e w1 ⟨rfl, rfl⟩
  go_wp2_with fail
  have BR := (three' w [.slice ao 4 cap] [.slice none 0 0] 24)
  go_at_call 65
  refine (c3 _ (s2 _ _)).mono ?_
  rintro e w1 ⟨v1, rfl, own, b1⟩
  obtain ⟨BR, bel⟩ := BR
  replace BR := BR.keep b1 BR.lt
  replace bel := belowCall bel b1
  clear b1 s2 c3 c
  obtain ⟨g, G, rfl, hg1, hg2⟩ := four_own own
  simp only [World.size_alloc] at own hg1
  obtain ⟨e0, e1⟩ := rc _ _ _ own
  have f0 := BR.free 0
  have d0 : w1.cell? ⟨w.heap.size + 1, 0, none⟩ = some (.slice none 0 0) := BR.cell 0
  have hgl := BR.lt
  go_wp2_with fail
  go_at_call 48
  refine (c2 _).mono ?_
  rintro e w2 ⟨rfl, rfl⟩
  go_wp2_with fail
  exact bodyPost_ret (v := .tuple #[.agg #[.slice none 0 0], .int .i64 2]) (by simp [results, Try.results51, go_sem, d0, hgl]) rfl ⟨rfl, belowNew (bel.setCell (by simp) _) _⟩

/-- A row that is owned from here on is owned from further down on. -/
theorem own_base {w : World} {base base' : Nat} {e : TypeId} {size n : Nat} {v : Value} {xs : List Value} (h : w.ownsRow base e size v n xs) (hb : base' ≤ base) : w.ownsRow base' e size v n xs := by
  refine ⟨h.1, ?_⟩
  rcases h.2 with h0 | ⟨g, cap, cur, e1, h1, h2⟩
  · exact .inl h0
  · exact .inr ⟨g, cap, cur, e1, Nat.le_trans hb h1, h2⟩

set_option maxHeartbeats 1000000 in
set_option maxRecDepth 100000 in
theorem refSeal_ok (l : List Lr) (ao : Option Addr) (cap : Nat) (k q : Nat) (w : World) (hs : SlR w ao cap l) (h4 : l.length = 4) (hk : k < 4) (r : Lr) (hr : l[k]? = some r) (hm : r.hd.length ≤ 40) (h1 : 1 ≤ q) (h2 : q ≤ r.hd.length) (hb : r.bs.length < 8) :
    Calls Try.prog 51 #[.agg #[.slice ao 4 cap], .int .i64 k, .int .i64 q] w fun e w' =>
      ∃ rs a' G, e = .returned (.tuple #[.agg #[.slice a' 4 G], .int .i64 0]) ∧ rs.map Lr.rw = (l.map Lr.rw).set k ⟨r.bs.map Lb.b ++ [makeB (r.hd.take q)], r.hd.drop q⟩ ∧ SlR w' a' G rs ∧ Below w.heap.size w w' := by
  have c := fun W => in_any (k : Int) 0 3 W
  rw [decide_eq_true (show (0 : Int) ≤ k ∧ (k : Int) ≤ 3 by omega)] at c
  have c2 := fun W => in_any (q : Int) 1 (r.hd.length : Int) W
  rw [decide_eq_true (show (1 : Int) ≤ q ∧ (q : Int) ≤ r.hd.length by omega)] at c2
  obtain ⟨lb, lo, rfl, -⟩ := hs.where (by intro e; rw [e] at h4; simp at h4)
  have c3 := fun W (hW : SlW Lr.cells W (some ⟨lb, lo, none⟩) cap l) => cloneR2 ⟨lb, lo, none⟩ cap (l.flatMap Lr.cells) 4 W hW.row (by rw [flat_length Lr.two, h4]) (by decide) (by decide)
  have s2 := fun o1 o2 => (hs.sl.alloc o1).alloc o2
  have gr := hs.good r (List.mem_of_getElem? hr)
  have gl := hs.good
  have c4 : ∀ W, SlP W r.ha r.hc r.hd → Calls Try.prog 67 #[.slice r.ha q r.hc] W fun e w' => ∃ a' G, e = .returned (.tuple #[bkV (makeB (r.hd.take q)) a' G, .int .i64 (makeE (r.hd.take q))]) ∧ Sl w' a' G ((makeB (r.hd.take q)).bits.map Value.bool) ∧ Below W.heap.size W w' := by
    intro W h
    have t := refMake_any r.ha r.hc (r.hd.take q) W (h.front q)
    rw [List.length_take, Nat.min_eq_left h2] at t
    exact t
  have lM := makeB_bits (r.hd.take q)
  have hhc : r.hd.length ≤ r.hc := gr.hd.le
  have hhm := gr.hd.max
  obtain ⟨bs, ba, bc, hd, ha, hc⟩ := r
  simp only at *
  generalize makeB (hd.take q) = M at *
  generalize makeE (hd.take q) = ME at *
  have hk' : (k : Int) < 4 := by omega
  obtain ⟨m, em⟩ : ∃ m, m = hd.length := ⟨_, rfl⟩
  obtain ⟨bn, eb⟩ : ∃ bn, bn = bs.length := ⟨_, rfl⟩
  rw [← em] at c2 h2 hm hhc
  rw [← eb] at hb
  have hb' : (bn : Int) < 8 := by omega
  replace em := hide em
  replace eb := hide eb
  replace hr := hide hr
  replace h4 := hide h4
  have gW := fun W (hW : Below w.heap.size w W) => gr.keep hW (Nat.le_refl _)
  obtain ⟨hb0, ho0, rfl, hhb⟩ := gr.hd.where (by intro e; have e' : hd = [] := e; have := em.out; rw [e'] at this; simp at this; omega)
  have pt := gr.hd.part q hd.length (by rw [← em.out]; exact h2) (Nat.le_refl _)
  simp only at pt
  rw [List.take_length] at pt
  clear gr hs
  go_enter Try.func51, Try.ntmps51
  go_wp2_with fail
  go_at_call 48
  refine (c _).mono ?_
  rintro e w1 ⟨rfl, rfl⟩
  go_wp2_with fail
  have BR := (three' w [.slice (some ⟨lb, lo, none⟩) 4 cap] [.slice none 0 0] 24)
  go_at_call 65
  refine (c3 _ (s2 _ _)).mono ?_
  rintro e w1 ⟨g, G, L, rfl, B1, hL, hG, hGm, hg1, b1⟩
  have rows : Rows w1 g G l := ⟨⟨L, B1, hL⟩, by rw [h4.out]; exact hG, hGm⟩
  obtain ⟨BR, bel⟩ := BR
  replace BR := BR.keep b1 BR.lt
  replace bel := belowCall bel b1
  clear b1 s2 c3 c B1 hL L
  simp only [World.size_alloc] at hg1
  obtain ⟨e0, e1⟩ := rows.cells k _ hr.out
  simp only at e0 e1
  rw [← eb.out] at e0
  rw [← em.out] at e1
  have hg2 := rows.lt
  go_wp2_with fail
  go_at_call 48
  refine (c2 _).mono ?_
  rintro e w2 ⟨rfl, rfl⟩
  clear c2
  go_wp2_with fail
  have B9 := Blk.laid w1 [.slice ba bn bc, .slice (some ⟨hb0, ho0, none⟩) m hc] 56 _ rfl
  replace rows := rows.alloc (.cells #[.slice ba bn bc, .slice (some ⟨hb0, ho0, none⟩) m hc] 56)
  replace BR := BR.alc (.cells #[.slice ba bn bc, .slice (some ⟨hb0, ho0, none⟩) m hc] 56)
  replace bel := belowNew bel (.cells #[.slice ba bn bc, .slice (some ⟨hb0, ho0, none⟩) m hc] 56)
  clear e0 e1
  generalize hg9 : w1.heap.size = g9 at *
  generalize w1.alloc _ = w2 at *
  clear hg9
  go_at_call 67
  refine (c4 _ (gW _ bel).hd).mono ?_
  rintro e w3 ⟨a3, G3, rfl, t3, b3⟩
  replace rows := rows.call b3
  replace BR := BR.keep b3 BR.lt
  replace B9 := B9.keep b3 B9.lt
  replace bel := belowCall bel b3
  clear b3 c4
  unfold bkV
  go_wp2_with fail
  have B10 := Blk.laid w3 [.int .i64 M.n, .int .i64 M.fr, .int .i64 M.to, .slice a3 M.bits.length G3] 60 _ rfl
  have hg3 := rows.lt
  replace rows := rows.alloc (.cells #[.int .i64 M.n, .int .i64 M.fr, .int .i64 M.to, .slice a3 M.bits.length G3] 60)
  replace BR := BR.alc (.cells #[.int .i64 M.n, .int .i64 M.fr, .int .i64 M.to, .slice a3 M.bits.length G3] 60)
  replace B9 := B9.alc (.cells #[.int .i64 M.n, .int .i64 M.fr, .int .i64 M.to, .slice a3 M.bits.length G3] 60)
  replace bel := belowNew bel (.cells #[.int .i64 M.n, .int .i64 M.fr, .int .i64 M.to, .slice a3 M.bits.length G3] 60)
  replace t3 := t3.alloc (.cells #[.int .i64 M.n, .int .i64 M.fr, .int .i64 M.to, .slice a3 M.bits.length G3] 60)
  generalize hg10 : w3.heap.size = g10 at *
  generalize w3.alloc _ = w4 at *
  clear hg10
  obtain ⟨i1, hi1, y0, y1, y2⟩ := info_parts infoB
  have q0 : w4.cell? ⟨g9, 0, none⟩ = some (.slice ba bn bc) := B9.cell 0
  have q1 : w4.cell? ⟨g9, 1, none⟩ = some (.slice (some ⟨hb0, ho0, none⟩) m hc) := B9.cell 1
  have p0 : w4.cell? ⟨g10, 0, none⟩ = some (.int .i64 M.n) := B10.cell 0
  have p1 : w4.cell? ⟨g10, 1, none⟩ = some (.int .i64 M.fr) := B10.cell 1
  have p2 : w4.cell? ⟨g10, 2, none⟩ = some (.int .i64 M.to) := B10.cell 2
  have p3 : w4.cell? ⟨g10, 3, none⟩ = some (.slice a3 M.bits.length G3) := B10.cell 3
  have l9 := B9.lt
  have l10 := B10.lt
  have cB : ∀ W, Below w4.heap.size w4 W → Calls Try.prog 68 #[.slice ba bn bc] W fun e w' => ∃ v', e = .returned v' ∧ w'.ownsRow w4.heap.size 60 4 v' bn (bs.flatMap Lb.cells) ∧ Below W.heap.size W w' ∧ Below w4.heap.size w4 w' ∧ v'.ownBlock ≠ some g9 ∧ v'.ownBlock ≠ some g10 ∧ g9 < w'.heap.size ∧ g10 < w'.heap.size ∧ w'.cell? ⟨g9, 0, none⟩ = some (.slice ba bn bc) ∧ w'.cell? ⟨g9, 1, none⟩ = some (.slice (some ⟨hb0, ho0, none⟩) m hc) ∧ w'.cell? ⟨g10, 0, none⟩ = some (.int .i64 M.n) ∧ w'.cell? ⟨g10, 1, none⟩ = some (.int .i64 M.fr) ∧ w'.cell? ⟨g10, 2, none⟩ = some (.int .i64 M.to) ∧ w'.cell? ⟨g10, 3, none⟩ = some (.slice a3 M.bits.length G3) := by
    intro W hW
    have gg := (gW W (bel.trans (hW.mono bel.size))).bs
    refine (cloneB ba bc (bs.flatMap Lb.cells) bn W gg.sl.row (by have := gg.sl.le; rw [eb.out]; exact this) gg.sl.nil (by rw [flat_length Lb.four, eb.out]) (blocks_one bs) (by omega)).mono ?_
    rintro e w' ⟨v', rfl, o', b'⟩
    have o2 := own_base o' hW.size
    have bb := hW.trans (b'.mono hW.size)
    refine ⟨v', rfl, o2, b', bb, ?_, ?_, Nat.lt_of_lt_of_le l9 bb.size, Nat.lt_of_lt_of_le l10 bb.size, ?_⟩
    · intro e; have := (o2.lt g9 e).1; omega
    · intro e; have := (o2.lt g10 e).1; omega
    · have k9 := B9.keep bb l9
      have k10 := B10.keep bb l10
      exact ⟨k9.cell 0, k9.cell 1, k10.cell 0, k10.cell 1, k10.cell 2, k10.cell 3⟩
  have hone : ∀ u : Value, u ∈ ([.int .i64 M.n, .int .i64 M.fr, .int .i64 M.to, .slice a3 M.bits.length G3] : List Value) → u.oneCell' = true := by intro u hu; simp only [List.mem_cons, List.not_mem_nil, or_false] at hu; rcases hu with rfl | rfl | rfl | rfl <;> rfl
  have hg4 := rows.lt
  obtain ⟨r0, r1⟩ := rows.cells k _ hr.out
  have fz0 := rows.free (k * 2)
  have fz1 := rows.free (k * 2 + 1)
  have lR := BR.lt
  have rR : w4.cell? ⟨w.heap.size + 1, 0, none⟩ = some (.slice none 0 0) := BR.cell 0
  have fR := BR.free 0
  have hneR : ¬ g = w.heap.size + 1 := by omega
  have hneR' : ¬ w.heap.size + 1 = g := by omega
  have hne9 : ¬ g = g9 := by omega
  have hne10 : ¬ g = g10 := by omega
  have hq' : (0 : Int) ≤ q := by omega
  have hk0 : (0 : Int) ≤ k := by omega
  have fin : ∀ (g6 c6 : Nat) (w6 : World) (ha2 : Option Addr), SlP w ha2 (hc - q) (hd.drop q) → w6.ownsRow w4.heap.size 60 4 (.slice (some ⟨g6, 0, none⟩) (bn + 1) c6) (bn + 1) (bs.flatMap Lb.cells ++ [.int .i64 M.n, .int .i64 M.fr, .int .i64 M.to, .slice a3 M.bits.length G3]) → Below w4.heap.size w4 w6 →
      (l.set k ⟨bs ++ [⟨M, a3, G3⟩], some ⟨g6, 0, none⟩, c6, hd.drop q, ha2, hc - q⟩).map Lr.rw = (l.map Lr.rw).set k ⟨bs.map Lb.b ++ [M], hd.drop q⟩ ∧
      SlR (((w6.setCell ⟨g, k * 2, none⟩ (.slice (some ⟨g6, 0, none⟩) (bn + 1) c6)).setCell ⟨g, k * 2 + 1, none⟩ (.slice ha2 (m - q) (hc - q))).setCell ⟨w.heap.size + 1, 0, none⟩ (.slice (some ⟨g, 0, none⟩) 4 G)) (some ⟨g, 0, none⟩) G (l.set k ⟨bs ++ [⟨M, a3, G3⟩], some ⟨g6, 0, none⟩, c6, hd.drop q, ha2, hc - q⟩) ∧
      Below w.heap.size w (((w6.setCell ⟨g, k * 2, none⟩ (.slice (some ⟨g6, 0, none⟩) (bn + 1) c6)).setCell ⟨g, k * 2 + 1, none⟩ (.slice ha2 (m - q) (hc - q))).setCell ⟨w.heap.size + 1, 0, none⟩ (.slice (some ⟨g, 0, none⟩) 4 G)) := by
    intro g6 c6 w6 ha2 e2 own6 bb6
    obtain ⟨x, hx⟩ : ∃ x : Lr, x = ⟨bs ++ [⟨M, a3, G3⟩], some ⟨g6, 0, none⟩, c6, hd.drop q, ha2, hc - q⟩ := ⟨_, rfl⟩
    have hw8 : ((w6.setCell ⟨g, k * 2, none⟩ (.slice (some ⟨g6, 0, none⟩) (bn + 1) c6)).setCell ⟨g, k * 2 + 1, none⟩ (.slice ha2 (m - q) (hc - q))).setCell ⟨w.heap.size + 1, 0, none⟩ (.slice (some ⟨g, 0, none⟩) 4 G) = wrote w6 g k x (w.heap.size + 1) (.slice (some ⟨g, 0, none⟩) 4 G) := by
      rw [hx]
      simp only [wrote, List.length_append, List.length_singleton, List.length_drop, ← eb.out, ← em.out]
    rw [hw8]
    have bel6 := bel.trans (bb6.mono bel.size)
    have b8 := wrote_below bel6 (g := g) (gR := w.heap.size + 1) (by omega) (by omega) k x (.slice (some ⟨g, 0, none⟩) 4 G)
    have rows6 := rows.keep bb6 rows.lt
    have BR6 := BR.keep bb6 BR.lt
    have t6 := wrote_bits (t3.keep bb6 (Nat.le_refl _)) rows6 BR6 (by intro v hv b e; simp at hv; subst hv; cases e) k x (.slice (some ⟨g, 0, none⟩) 4 G)
    have own8 := wrote_own own6 hg4 lR k x (.slice (some ⟨g, 0, none⟩) 4 G)
    rw [show bs.flatMap Lb.cells ++ [.int .i64 M.n, .int .i64 M.fr, .int .i64 M.to, .slice a3 M.bits.length G3] = (bs ++ [(⟨M, a3, G3⟩ : Lb)]).flatMap Lb.cells by rw [List.flatMap_append]; rfl] at own8
    obtain ⟨a9, c9, ev, sb9, _, _⟩ := SlW.ofOwn Lb.four (by decide) own8
    simp only [Value.slice.injEq, true_and] at ev
    obtain ⟨rfl, rfl⟩ := ev
    have gx : x.Good (wrote w6 g k x (w.heap.size + 1) (.slice (some ⟨g, 0, none⟩) 4 G)) := by
      generalize wrote w6 g k x (w.heap.size + 1) (.slice (some ⟨g, 0, none⟩) 4 G) = w8 at *
      rw [hx]
      have gb := (gW w8 b8).bs
      refine ⟨⟨sb9, fun y hy => ?_⟩, ?_, ?_, ?_⟩
      · rcases List.mem_append.1 hy with hy | hy
        · exact gb.good y hy
        · simp at hy
          subst hy
          exact ⟨t6, by simp only; omega⟩
      · exact e2.keep b8 (Nat.le_refl _)
      · simp only [List.length_append, List.length_singleton]
        rw [← eb.out]
        omega
      · simp only [List.length_drop]
        rw [← em.out]
        omega
    refine ⟨?_, ?_, b8⟩
    · rw [List.map_set]
      congr 1
      unfold Lr.rw
      simp
    · rw [← hx]
      exact wrote_rows rows6 (by omega) k (by rw [h4.out]; exact hk) x _ b8 gl gx
  by_cases hqc : hc = q
  · rw [if_pos hqc] at pt
    obtain rfl : q = m := by omega
    obtain rfl : q = hc := hqc.symm
    clear hqc
    rw [Nat.sub_self] at pt
    simp only [Nat.sub_self] at fin
    go_region_held3 (fun w' => w'.cell? ⟨g9, 0, none⟩ = some (.slice ba bn bc) ∧ w'.cell? ⟨g9, 1, none⟩ = some (.slice (some ⟨hb0, ho0, none⟩) q q) ∧ w'.cell? ⟨g10, 0, none⟩ = some (.int .i64 M.n) ∧ w'.cell? ⟨g10, 1, none⟩ = some (.int .i64 M.fr) ∧ w'.cell? ⟨g10, 2, none⟩ = some (.int .i64 M.to) ∧ w'.cell? ⟨g10, 3, none⟩ = some (.slice a3 M.bits.length G3))
      (first
        | go_keep
        | (go_split_ands
           refine ⟨?_, ?_, ?_, ?_, ?_, ?_⟩
           · (rw [grow6.cell_far _ (by simp; omega) (Ne.symm n9)]; assumption)
           · (rw [grow6.cell_far _ (by simp; omega) (Ne.symm n9)]; assumption)
           · (rw [grow6.cell_far _ (by simp; omega) (Ne.symm n10)]; assumption)
           · (rw [grow6.cell_far _ (by simp; omega) (Ne.symm n10)]; assumption)
           · (rw [grow6.cell_far _ (by simp; omega) (Ne.symm n10)]; assumption)
           · (rw [grow6.cell_far _ (by simp; omega) (Ne.symm n10)]; assumption)))
      (first
        | (go_at_call 68; refine (cB _ ?_).mono ?_; (first | exact belowDrew (Below.refl _ _) | exact belowDrew (belowNew (Below.refl _ _) _)); rintro e w5 ⟨v5, rfl, own5, b5, bb5, n9, n10, l9', l10', z0, z1, z2, z3, z4, z5⟩)
        | ((refine step_append_lies _ (by rfl) (.tmp 47) (.tmp 49) 54 (by rfl) w4.heap.size 60 i1 (.agg #[.int .i64 0, .int .i64 0, .int .i64 0, .slice none 0 0]) 4 48 Try.underlying54 hi1 y0 y1 y2 rfl (by decide) v5 bn _ (by rfl) (own5.alloc _) ⟨w5.heap.size, 0, none⟩ 1 1 [.int .i64 M.n, .int .i64 M.fr, .int .i64 M.to, .slice a3 M.bits.length G3] (by rfl) (by rfl) (World.news_of_block (cs := #[.int .i64 M.n, .int .i64 M.fr, .int .i64 M.to, .slice a3 M.bits.length G3]) (t := 60) (fr := (0, 0)) (heap_alloc_new w5 _)) hone (by decide) (by unfold maxLen; omega) (by omega) (by simp; exact Nat.le_succ_of_le bb5.size) (w5.heap.size + 1) (by simp) ?_; intro g6 c6 w6 own6 grow6 at6 lt6; have bb6 := belowGrown (belowNew bb5 _) (own5.alloc _) grow6 (Nat.le_refl _) (belowNew bb5 _).size; have u0 := (bb6.cell (p := ⟨g, k * 2, none⟩) hg4).trans r0; have u1 := (bb6.cell (p := ⟨g, k * 2 + 1, none⟩) hg4).trans r1; have x0 := (bb6.frozen (p := ⟨g, k * 2, none⟩) hg4).trans fz0; have x1 := (bb6.frozen (p := ⟨g, k * 2 + 1, none⟩) hg4).trans fz1; have j0 := (bb6.cell (p := ⟨w.heap.size + 1, 0, none⟩) lR).trans rR; have j1 := (bb6.frozen (p := ⟨w.heap.size + 1, 0, none⟩) lR).trans fR))
        | ((refine step_append_lies _ (by rfl) (.tmp 47) (.tmp 49) 54 (by rfl) w4.heap.size 60 i1 (.agg #[.int .i64 0, .int .i64 0, .int .i64 0, .slice none 0 0]) 4 48 Try.underlying54 hi1 y0 y1 y2 rfl (by decide) v5 bn _ (by rfl) own5 ⟨w4.heap.size, 0, none⟩ 1 1 [.int .i64 M.n, .int .i64 M.fr, .int .i64 M.to, .slice a3 M.bits.length G3] (by rfl) (by rfl) (World.news_of_block (cs := #[.int .i64 M.n, .int .i64 M.fr, .int .i64 M.to, .slice a3 M.bits.length G3]) (t := 60) (fr := (0, 0)) ((b5.block w4.heap.size (by simp)).trans (heap_alloc_new w4 _))) hone (by decide) (by unfold maxLen; omega) (by omega) bb5.size w5.heap.size rfl ?_; intro g6 c6 w6 own6 grow6 at6 lt6; have bb6 := belowGrown bb5 own5 grow6 (Nat.le_refl _) bb5.size; have u0 := (bb6.cell (p := ⟨g, k * 2, none⟩) hg4).trans r0; have u1 := (bb6.cell (p := ⟨g, k * 2 + 1, none⟩) hg4).trans r1; have x0 := (bb6.frozen (p := ⟨g, k * 2, none⟩) hg4).trans fz0; have x1 := (bb6.frozen (p := ⟨g, k * 2 + 1, none⟩) hg4).trans fz1; have j0 := (bb6.cell (p := ⟨w.heap.size + 1, 0, none⟩) lR).trans rR; have j1 := (bb6.frozen (p := ⟨w.heap.size + 1, 0, none⟩) lR).trans fR)))
    all_goals go_wp2_with fail
    all_goals (
      have E := fin _ _ _ _ pt own6 bb6
      obtain ⟨E1, E2, E3⟩ := E
      exact bodyPost_ret (v := .tuple #[.agg #[.slice (some ⟨g, 0, none⟩) 4 G], .int .i64 0]) (by simp [results, Try.results51, go_sem, j0]) rfl ⟨_, _, _, rfl, E1, E2, E3⟩)
  · have hqc' : q < hc := by omega
    rw [if_neg hqc, Option.map_some, Addr.add_lit] at pt
    go_region_held3 (fun w' => w'.cell? ⟨g9, 0, none⟩ = some (.slice ba bn bc) ∧ w'.cell? ⟨g9, 1, none⟩ = some (.slice (some ⟨hb0, ho0, none⟩) m hc) ∧ w'.cell? ⟨g10, 0, none⟩ = some (.int .i64 M.n) ∧ w'.cell? ⟨g10, 1, none⟩ = some (.int .i64 M.fr) ∧ w'.cell? ⟨g10, 2, none⟩ = some (.int .i64 M.to) ∧ w'.cell? ⟨g10, 3, none⟩ = some (.slice a3 M.bits.length G3))
      (first
        | go_keep
        | (go_split_ands
           refine ⟨?_, ?_, ?_, ?_, ?_, ?_⟩
           · (rw [grow6.cell_far _ (by simp; omega) (Ne.symm n9)]; assumption)
           · (rw [grow6.cell_far _ (by simp; omega) (Ne.symm n9)]; assumption)
           · (rw [grow6.cell_far _ (by simp; omega) (Ne.symm n10)]; assumption)
           · (rw [grow6.cell_far _ (by simp; omega) (Ne.symm n10)]; assumption)
           · (rw [grow6.cell_far _ (by simp; omega) (Ne.symm n10)]; assumption)
           · (rw [grow6.cell_far _ (by simp; omega) (Ne.symm n10)]; assumption)))
      (first
        | (go_at_call 68; refine (cB _ ?_).mono ?_; (first | exact belowDrew (Below.refl _ _) | exact belowDrew (belowNew (Below.refl _ _) _)); rintro e w5 ⟨v5, rfl, own5, b5, bb5, n9, n10, l9', l10', z0, z1, z2, z3, z4, z5⟩)
        | ((refine step_append_lies _ (by rfl) (.tmp 47) (.tmp 49) 54 (by rfl) w4.heap.size 60 i1 (.agg #[.int .i64 0, .int .i64 0, .int .i64 0, .slice none 0 0]) 4 48 Try.underlying54 hi1 y0 y1 y2 rfl (by decide) v5 bn _ (by rfl) (own5.alloc _) ⟨w5.heap.size, 0, none⟩ 1 1 [.int .i64 M.n, .int .i64 M.fr, .int .i64 M.to, .slice a3 M.bits.length G3] (by rfl) (by rfl) (World.news_of_block (cs := #[.int .i64 M.n, .int .i64 M.fr, .int .i64 M.to, .slice a3 M.bits.length G3]) (t := 60) (fr := (0, 0)) (heap_alloc_new w5 _)) hone (by decide) (by unfold maxLen; omega) (by omega) (by simp; exact Nat.le_succ_of_le bb5.size) (w5.heap.size + 1) (by simp) ?_; intro g6 c6 w6 own6 grow6 at6 lt6; have bb6 := belowGrown (belowNew bb5 _) (own5.alloc _) grow6 (Nat.le_refl _) (belowNew bb5 _).size; have u0 := (bb6.cell (p := ⟨g, k * 2, none⟩) hg4).trans r0; have u1 := (bb6.cell (p := ⟨g, k * 2 + 1, none⟩) hg4).trans r1; have x0 := (bb6.frozen (p := ⟨g, k * 2, none⟩) hg4).trans fz0; have x1 := (bb6.frozen (p := ⟨g, k * 2 + 1, none⟩) hg4).trans fz1; have j0 := (bb6.cell (p := ⟨w.heap.size + 1, 0, none⟩) lR).trans rR; have j1 := (bb6.frozen (p := ⟨w.heap.size + 1, 0, none⟩) lR).trans fR))
        | ((refine step_append_lies _ (by rfl) (.tmp 47) (.tmp 49) 54 (by rfl) w4.heap.size 60 i1 (.agg #[.int .i64 0, .int .i64 0, .int .i64 0, .slice none 0 0]) 4 48 Try.underlying54 hi1 y0 y1 y2 rfl (by decide) v5 bn _ (by rfl) own5 ⟨w4.heap.size, 0, none⟩ 1 1 [.int .i64 M.n, .int .i64 M.fr, .int .i64 M.to, .slice a3 M.bits.length G3] (by rfl) (by rfl) (World.news_of_block (cs := #[.int .i64 M.n, .int .i64 M.fr, .int .i64 M.to, .slice a3 M.bits.length G3]) (t := 60) (fr := (0, 0)) ((b5.block w4.heap.size (by simp)).trans (heap_alloc_new w4 _))) hone (by decide) (by unfold maxLen; omega) (by omega) bb5.size w5.heap.size rfl ?_; intro g6 c6 w6 own6 grow6 at6 lt6; have bb6 := belowGrown bb5 own5 grow6 (Nat.le_refl _) bb5.size; have u0 := (bb6.cell (p := ⟨g, k * 2, none⟩) hg4).trans r0; have u1 := (bb6.cell (p := ⟨g, k * 2 + 1, none⟩) hg4).trans r1; have x0 := (bb6.frozen (p := ⟨g, k * 2, none⟩) hg4).trans fz0; have x1 := (bb6.frozen (p := ⟨g, k * 2 + 1, none⟩) hg4).trans fz1; have j0 := (bb6.cell (p := ⟨w.heap.size + 1, 0, none⟩) lR).trans rR; have j1 := (bb6.frozen (p := ⟨w.heap.size + 1, 0, none⟩) lR).trans fR)))
    all_goals go_wp2_with fail
    all_goals (
      have E := fin _ _ _ _ pt own6 bb6
      obtain ⟨E1, E2, E3⟩ := E
      exact bodyPost_ret (v := .tuple #[.agg #[.slice (some ⟨g, 0, none⟩) 4 G], .int .i64 0]) (by simp [results, Try.results51, go_sem, j0]) rfl ⟨_, _, _, rfl, E1, E2, E3⟩)

end Go.Proofs.Ytabeihkfjlmepaa
