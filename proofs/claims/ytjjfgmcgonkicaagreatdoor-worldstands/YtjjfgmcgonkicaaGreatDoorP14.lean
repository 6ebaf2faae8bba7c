/-
  The points of all batches, and what of them is there, as plain lists. No program is named.
-/
import Derived.Laws.IdiomCopy
import Derived.Laws.CopyOwn
import Derived.Deep.RegionLaw
import Derived.Lib.SliceRun
import Derived.Test.YtjjfgmcgonkicaaGreatDoorP12
import Derived.Test.YtjjfgmcgonkicaaGreatDoorP05
import Derived.Test.YtjjfgmcgonkicaaGreatDoorP11
namespace Go.Proofs.YtjjfgmcgonkicaaGreatDoor

end Go.Proofs.YtjjfgmcgonkicaaGreatDoor

/-
  More of sums as plain numbers: sums of parts, whichever is joined first; the least and the greatest of few small numbers, and all together between.
-/
namespace Go.Proofs.YtjjfgmcgonkicaaGreatDoor
open Go.RowKit

end Go.Proofs.YtjjfgmcgonkicaaGreatDoor

/-
  Ranges and buckets of points, as plain lists. No program is named.
-/
namespace Go.Proofs.YtjjfgmcgonkicaaGreatDoor
open Go.RowKit

def inR (f t : Int) (p : Pt) : Bool := decide (f ≤ p.1 ∧ p.1 < t)

def rngL (l : List Pt) (f t : Int) : List Pt := l.filter (inR f t)

/-- A bucket. -/
structure Bu where
  s : Int
  m : Sm

theorem dropWhile_len {α : Type} (p : α → Bool) : ∀ l : List α, (l.dropWhile p).length ≤ l.length
  | [] => Nat.le_refl _
  | x :: r => by
    rw [List.dropWhile_cons]
    split
    · exact Nat.le_succ_of_le (dropWhile_len p r)
    · exact Nat.le_refl _

theorem rng_len (l : List Pt) (f t : Int) : (rngL l f t).length ≤ l.length := List.length_filter_le _ _

end Go.Proofs.YtjjfgmcgonkicaaGreatDoor

/-
  RowsK of the call's own, and what is left of all that was there when one of them, and then the answer's cell, is written. No function of the program is named.
-/
namespace Go.Proofs.YtjjfgmcgonkicaaGreatDoor
open Go.RowKit

/-- Bits do not lie in a block that holds no bool. -/
theorem Sl.offKind {w : World} {ao : Option Addr} {cap g : Nat} {P : List Bool} {cs : List Value} {t : TypeId} (s : Sl w ao cap (P.map Value.bool)) (B : Blk w g cs t) (hk : ∀ v ∈ cs, ∀ b, v ≠ .bool b) (hP : P ≠ []) : Off g ao := by
  obtain ⟨b, off, rfl, hb, hc⟩ := s.row.at (by simpa using hP)
  intro ad e
  cases e
  intro e
  have e : b = g := e
  subst e
  obtain ⟨p, r, rfl⟩ := List.exists_cons_of_ne_nil hP
  have h0 := hc 0 (.bool p) (by simp)
  rw [B.cell] at h0
  exact hk _ (List.mem_of_getElem? h0) p rfl

/-- RowsK that lie in a block of the call's own, empty rows behind them. -/
structure RowsK (w : World) (g G : Nat) (l : List Lr) : Prop where
  blk : ∃ L, Blk w g (l.flatMap Lr.cells ++ L) 53 ∧ ∀ v ∈ L, v = .slice none 0 0
  le : l.length ≤ G
  max : G ≤ 9223372036854775807

/-- One row written, then the answer's cell. -/
abbrev wrote (w : World) (g k : Nat) (x : Lr) (gR : Nat) (c : Value) : World :=
  ((w.setCell ⟨g, k * 2, none⟩ (.slice x.ba x.bs.length x.bc)).setCell ⟨g, k * 2 + 1, none⟩ (.slice x.ha x.hd.length x.hc)).setCell ⟨gR, 0, none⟩ c

end Go.Proofs.YtjjfgmcgonkicaaGreatDoor

/-
  A shelf in memory of the call's own: each row's blocks and head in blocks of their own; how that stays while one block alone is written. No function of the program is named.
-/
namespace Go.Proofs.YtjjfgmcgonkicaaGreatDoor
open Go.RowKit

/-- A block whose bits lie in a block of bits. -/
structure Lb.Own (w : World) (x : Lb) : Prop where
  good : x.Good w
  at_ : ∃ gO cs, x.a = some ⟨gO, 0, none⟩ ∧ Blk w gO cs 4

theorem Lb.Own.call {w w' : World} {x : Lb} (h : x.Own w) (hb : Below w.heap.size w w') : x.Own w' := by
  obtain ⟨gO, cs, e, B⟩ := h.at_
  exact ⟨h.good.keep hb (Nat.le_refl _), gO, cs, e, B.keep hb B.lt⟩

theorem blkType {w : World} {g : Nat} {cs ds : List Value} {t u : TypeId} (h : Blk w g cs t) (k : Blk w g ds u) : t = u := by
  unfold Blk at h k
  rw [h] at k
  simp only [Option.some.injEq, Obj.cells.injEq] at k
  exact k.2.1

theorem Lb.Own.wrote {w w' : World} {x : Lb} {g : Nat} {cs : List Value} {t : TypeId} (h : x.Own w) (hg : w.grownBy w' (some g)) (B : Blk w g cs t) (ht : t ≠ 4) : x.Own w' := by
  obtain ⟨gO, ds, e, BO⟩ := h.at_
  have hne : gO ≠ g := by
    rintro rfl
    exact ht (blkType B BO)
  refine ⟨⟨h.good.bits.off hg ?_, h.good.few⟩, gO, ds, e, BO.grown hg (fun k e => by obtain rfl := Option.some.inj e; exact fun e => hne e.symm)⟩
  intro ad e'
  rw [e] at e'
  obtain rfl := Option.some.inj e'
  exact hne

/-- A row whose blocks and head lie in memory of the call's own. -/
structure OwnR (w : World) (base : Nat) (r : Lr) : Prop where
  bs : ∃ bg, r.ba = some ⟨bg, 0, none⟩ ∧ base ≤ bg ∧ Blk w bg (r.bs.flatMap Lb.cells) 105
  bc : r.bc = r.bs.length
  hd : ∃ hg, r.ha = some ⟨hg, 0, none⟩ ∧ w.ownsRow base 56 2 (.slice (some ⟨hg, 0, none⟩) r.hd.length r.hc) r.hd.length (cellsP r.hd)
  good : ∀ x ∈ r.bs, x.Own w

theorem OwnR.call {w w' : World} {base : Nat} {r : Lr} (h : OwnR w base r) (hb : Below w.heap.size w w') : OwnR w' base r := by
  obtain ⟨bg, e1, l1, B⟩ := h.bs
  obtain ⟨hg, e2, o⟩ := h.hd
  exact ⟨⟨bg, e1, l1, B.keep hb B.lt⟩, h.bc, ⟨hg, e2, ownCall o hb⟩, fun x hx => (h.good x hx).call hb⟩

theorem ownBlk {w : World} {base g n cap : Nat} {size : Nat} {t : TypeId} {xs : List Value} (h : w.ownsRow base t size (.slice (some ⟨g, 0, none⟩) n cap) n xs) : ∃ cur, Blk w g cur t ∧ base ≤ g := by
  rcases h.2 with ⟨h', _⟩ | ⟨g', cap', cur, h', hb, hg, _, _, hs, htake⟩
  · simp at h'
  · simp only [Value.slice.injEq, Option.some.injEq, Addr.mk.injEq, and_true, true_and] at h'
    obtain ⟨rfl, rfl⟩ := h'
    exact ⟨cur.toList, by unfold Blk; simpa using hg, hb⟩

theorem Lb.Good.off {w w' : World} {x : Lb} {g : Nat} {cs : List Value} {t : TypeId} (h : x.Good w) (hg : w.grownBy w' (some g)) (B : Blk w g cs t) (nb : ∀ v ∈ cs, ∀ b, v ≠ .bool b) : x.Good w' := by
  refine ⟨?_, h.few⟩
  by_cases hP : x.b.bits = []
  · have s := h.bits
    rw [hP] at s ⊢
    exact ⟨.inl rfl, s.le, s.max, s.nil⟩
  · exact h.bits.off hg (h.bits.offKind B nb hP)

/-- One block is written, in which no part of the row lies. -/
theorem OwnR.wrote {w w' : World} {base g : Nat} {r : Lr} {cs : List Value} {t : TypeId} (h : OwnR w base r) (hg : w.grownBy w' (some g)) (B : Blk w g cs t) (ht : t ≠ 4) (h1 : r.ba ≠ some ⟨g, 0, none⟩) (h2 : r.ha ≠ some ⟨g, 0, none⟩) : OwnR w' base r := by
  obtain ⟨bg, e1, l1, B1⟩ := h.bs
  obtain ⟨hh, e2, o⟩ := h.hd
  refine ⟨⟨bg, e1, l1, B1.grown hg (fun k e => ?_)⟩, h.bc, ⟨hh, e2, o.kept hg (.inr (fun e => ?_))⟩, fun x hx => (h.good x hx).wrote hg B ht⟩
  · obtain rfl := Option.some.inj e
    intro e
    subst e
    exact h1 e1
  · have : hh = g := Option.some.inj e
    subst this
    exact h2 e2

theorem OwnR.notB {w : World} {base g : Nat} {r : Lr} {cs : List Value} {t : TypeId} (h : OwnR w base r) (B : Blk w g cs t) (ht : t ≠ 105) : r.ba ≠ some ⟨g, 0, none⟩ := by
  obtain ⟨bg, e1, l1, B1⟩ := h.bs
  intro e
  rw [e1] at e
  simp only [Option.some.injEq, Addr.mk.injEq, and_true] at e
  subst e
  exact ht (blkType B B1)

theorem OwnR.notH {w : World} {base g : Nat} {r : Lr} {cs : List Value} {t : TypeId} (h : OwnR w base r) (B : Blk w g cs t) (ht : t ≠ 56) : r.ha ≠ some ⟨g, 0, none⟩ := by
  obtain ⟨hh, e2, o⟩ := h.hd
  obtain ⟨cur, B2, _⟩ := ownBlk o
  intro e
  rw [e2] at e
  simp only [Option.some.injEq, Addr.mk.injEq, and_true] at e
  subst e
  exact ht (blkType B B2)

theorem rowNoBool (l : List Lr) : ∀ v ∈ l.flatMap Lr.cells, ∀ b, v ≠ .bool b := by
  intro v hv b e
  obtain ⟨r, _, hr⟩ := List.mem_flatMap.1 hv
  simp only [Lr.cells, List.mem_cons, List.not_mem_nil, or_false] at hr
  rcases hr with rfl | rfl <;> cases e

theorem blkNoBool (l : List Lb) : ∀ v ∈ l.flatMap Lb.cells, ∀ b, v ≠ .bool b := by
  intro v hv b e
  obtain ⟨r, _, hr⟩ := List.mem_flatMap.1 hv
  simp only [Lb.cells, List.mem_cons, List.not_mem_nil, or_false] at hr
  rcases hr with rfl | rfl | rfl | rfl <;> cases e

theorem OwnR.toGood {w : World} {base : Nat} {r : Lr} (h : OwnR w base r) (f1 : r.bs.length ≤ 140737488355328) (f2 : r.hd.length ≤ 8796093022208) : r.Good w := by
  obtain ⟨bg, e1, l1, B1⟩ := h.bs
  obtain ⟨hh, e2, o⟩ := h.hd
  obtain ⟨a3, G3, e3, s3, _, _⟩ := SlP.ofOwn o
  simp only [Value.slice.injEq, true_and] at e3
  obtain ⟨rfl, rfl⟩ := e3
  refine ⟨⟨⟨?_, by rw [h.bc]; exact Nat.le_refl _, by rw [h.bc]; omega, fun e => by rw [e1] at e; cases e⟩, fun x hx => (h.good x hx).good⟩, by rw [e2]; exact s3, f1, by omega⟩
  rw [e1]
  exact B1.row 0 _ (fun i v hv => by rw [Nat.zero_add]; exact hv)

/-- RowsK of which no two have their blocks, or their heads, at one place. -/
def ApartL (rs : List Lr) : Prop := ∀ (i j : Nat) (r q : Lr), i ≠ j → rs[i]? = some r → rs[j]? = some q → r.ba ≠ q.ba ∧ r.ha ≠ q.ha

/-- RowsK of the call's own, each apart from each other. -/
structure OwnG (w : World) (base g : Nat) (rs : List Lr) : Prop where
  rows : Blk w g (rs.flatMap Lr.cells) 53
  lo : base ≤ g
  each : ∀ r ∈ rs, OwnR w base r
  ap : ApartL rs

theorem OwnG.call {w w' : World} {base g : Nat} {rs : List Lr} (h : OwnG w base g rs) (hb : Below w.heap.size w w') : OwnG w' base g rs :=
  ⟨h.rows.keep hb h.rows.lt, h.lo, fun r hr => (h.each r hr).call hb, h.ap⟩

theorem OwnG.alloc {w : World} {base g : Nat} {rs : List Lr} (h : OwnG w base g rs) (o : Obj) : OwnG (w.alloc o) base g rs :=
  h.call ((Below.refl w.heap.size w).alloc (Nat.le_refl _) o)

theorem OwnG.at {w : World} {base g : Nat} {rs : List Lr} (h : OwnG w base g rs) (k : Nat) (r : Lr) (hr : rs[k]? = some r) :
    w.cell? ⟨g, k * 2, none⟩ = some (.slice r.ba r.bs.length r.bc) ∧ w.cell? ⟨g, k * 2 + 1, none⟩ = some (.slice r.ha r.hd.length r.hc) := by
  rw [h.rows.cell, h.rows.cell]
  exact ⟨flat_get Lr.two rs k 0 r hr (by decide), flat_get Lr.two rs k 1 r hr (by decide)⟩

/-- RowsK that lie in one block, each of them right: what a call hands on. -/
structure FinS (w : World) (base g : Nat) (rs : List Lr) : Prop where
  rows : Blk w g (rs.flatMap Lr.cells) 53
  lo : base ≤ g
  good : ∀ r ∈ rs, r.Good w

theorem FinS.slr {w : World} {base g : Nat} {rs : List Lr} (h : FinS w base g rs) (n : Nat) (hn : rs.length = n) (hm : n ≤ 9223372036854775807) : SlR w (some ⟨g, 0, none⟩) n rs :=
  ⟨⟨h.rows.row 0 _ (fun i v hv => by rw [Nat.zero_add]; exact hv), by omega, hm, fun e => by cases e⟩, h.good⟩

theorem OwnG.fin {w : World} {base g : Nat} {rs : List Lr} (h : OwnG w base g rs) (few : ∀ r ∈ rs, r.bs.length ≤ 140737488355328 ∧ r.hd.length ≤ 8796093022208) : FinS w base g rs :=
  ⟨h.rows, h.lo, fun r hr => (h.each r hr).toGood (few r hr).1 (few r hr).2⟩

theorem FinS.call {w w' : World} {base g : Nat} {rs : List Lr} (h : FinS w base g rs) (hb : Below w.heap.size w w') : FinS w' base g rs :=
  ⟨h.rows.keep hb h.rows.lt, h.lo, fun r hr => (h.good r hr).keep hb (Nat.le_refl _)⟩

/-- Another cell of a row of cells four wide is written. -/
theorem flat_set4 {α : Type} {f : α → List Value} (x : α) (hf : ∀ x, (f x).length = 4) (y : α) (u : Value) (j : Nat) (hj : j < 4) (he : f y = (f x).set j u) : ∀ (l : List α) (k : Nat), l[k]? = some x → (l.flatMap f).set (k * 4 + j) u = (l.set k y).flatMap f
  | [], k, h => by simp at h
  | z :: r, 0, h => by
    simp at h
    subst h
    rw [List.flatMap_cons, List.set_cons_zero, List.flatMap_cons, he, List.set_append_left _ _ (by rw [hf]; omega)]
    simp
  | z :: r, k + 1, h => by
    have ih := flat_set4 x hf y u j hj he r k (by simpa using h)
    rw [List.flatMap_cons, List.set_cons_succ, List.flatMap_cons, ← ih, List.set_append_right _ _ (by rw [hf]; omega), hf, show (k + 1) * 4 + j - 4 = k * 4 + j by omega]

end Go.Proofs.YtjjfgmcgonkicaaGreatDoor

/-
  Rows of cells that are written in place, as blocks of the call's own: several cells at once; append where there is room; clear of blocks. No function of the program is named.
-/
namespace Go.Proofs.YtjjfgmcgonkicaaGreatDoor
open Go.RowKit

theorem set_splice {α : Type} : ∀ (news cs : List α) (off : Nat) (v : α), off + (news.length + 1) ≤ cs.length → splice (cs.set off v) (off + 1) news = splice cs off (v :: news) := by
  intro news cs off v h
  unfold splice
  rw [List.drop_set_of_lt (by omega)]
  have e1 : (cs.set off v).take (off + 1) = cs.take off ++ [v] := by
    rw [List.take_add_one, List.take_set_of_le (Nat.le_refl _), List.getElem?_set_self (by omega)]
    rfl
  rw [e1, List.append_assoc, List.length_cons, show off + 1 + news.length = off + (news.length + 1) by omega]
  rfl

theorem Blk.setCells {b : Nat} {t : TypeId} : ∀ (news : List Value) {w : World} {cs : List Value} (off : Nat), Blk w b cs t → off + news.length ≤ cs.length → Blk (w.setCells b off news) b (splice cs off news) t ∧ w.grownBy (w.setCells b off news) (some b)
  | [], w, cs, off, B, _ => by
    refine ⟨?_, grownRefl w _⟩
    have e : splice cs off [] = cs := by simp [splice]
    rw [e]
    exact B
  | v :: news, w, cs, off, B, h => by
    have ih := Blk.setCells news (off + 1) (B.set off v) (by rw [List.length_set]; simp only [List.length_cons] at h; omega)
    rw [set_splice news cs off v (by simpa using h)] at ih
    have g1 := grownSet (grownRefl w (some b)) off v
    exact ⟨ih.1, ⟨ih.2.os.trans g1.os, ih.2.tape.trans g1.tape, ih.2.output.trans g1.output, Nat.le_trans g1.size ih.2.size, fun k hk hne => (ih.2.block k (Nat.lt_of_lt_of_le hk g1.size) hne).trans (g1.block k hk hne)⟩⟩

/-- append where there is room, onto a block that is known whole. -/
theorem step_append_in {P : Program} {ops : Array Oper} {o : Oper} {a : Act} {w : World} {K : Act → World → Prop} {Q : Exit → Act → World → Prop} {E : Prop}
    (hg : o.guard = none) (s x : Operand) (t : TypeId) (hop : o.op = Op.call { callee := Callee.builtin Builtin.append, args := #[s, x], argTypes := #[t, t] })
    (e : TypeId) (i : TypeInfo) (size : Nat) (h1 : P.underlying t = some (.slice e)) (h2 : P.info? e = some i) (h4 : i.size = size)
    (b n cap : Nat) (hs : a.eval s = .slice (some ⟨b, 0, none⟩) n cap) (cur : List Value) (te : TypeId) (B : Blk w b cur te)
    (ad : Addr) (m c : Nat) (news : List Value) (hx : a.eval x = .slice (some ad) m c) (hn : news.length = m * size) (hc : ∀ j u, news[j]? = some u → w.cell? (ad.add j) = some u) (h1c : ∀ u ∈ news, u.oneCell' = true)
    (hroom : n + m ≤ cap) (hfit : n * size + news.length ≤ cur.length)
    (hK : ∀ w', Blk w' b (splice cur (n * size) news) te → w.grownBy w' (some b) → K (a.put o.dst (.slice (some ⟨b, 0, none⟩) (n + m) cap)) w') :
    if Region.wanted o (yielded ops a.tmps) = true then Oper.wp P o a w K Q else E := by
  refine step_append_room hg s x t hop e i size h1 h2 h4 b 0 n cap hs ad m c news hx hn hc h1c hroom (fun j hj => ⟨?_, B.free _⟩) ?_
  · rw [B.cell, List.getElem?_eq_getElem (by omega)]
    rfl
  · obtain ⟨B', gr⟩ := Blk.setCells news (n * size) B hfit
    have := hK _ B' gr
    rw [Nat.zero_add]
    exact this

def lb0 : Lb := ⟨bk0, none, 0⟩

theorem zeroCells4 (z : Array Value) (hz : z.toList = Lb.cells lb0) (n : Nat) : (Builtin.zeroCells z n).toList = (List.replicate n lb0).flatMap Lb.cells := by
  have hs : z.size = 4 := by rw [← Array.length_toList, hz]; rfl
  apply List.ext_getElem?
  intro i
  have hl := flat_length Lb.four (List.replicate n lb0)
  rw [List.length_replicate] at hl
  by_cases hi : i < n * 4
  · have hg := flat_get Lb.four (List.replicate n lb0) (i / 4) (i % 4) lb0 (by rw [List.getElem?_replicate, if_pos (by omega)]) (Nat.mod_lt _ (by decide))
    rw [show i / 4 * 4 + i % 4 = i by omega] at hg
    rw [hg, ← hz]
    simp only [Builtin.zeroCells, Array.toList_map, List.getElem?_map, Array.toList_range, hs]
    rw [List.getElem?_range hi]
    have h4 : i % 4 < z.size := by omega
    rw [Option.map_some, getElem!_pos z (i % 4) h4, Array.getElem?_toList, Array.getElem?_eq_getElem h4]
  · rw [List.getElem?_eq_none (by simp [Builtin.zeroCells, hs]; omega), List.getElem?_eq_none (by rw [hl]; omega)]

theorem run_clear_blocks {P : Program} (w : World) (t e ty : TypeId) (z : Value) (ht : P.underlying t = some (.slice e)) (hv : ∀ w, (zeroValue e).run P w = .ok z w) (hz : z.cells.toList = Lb.cells lb0) (b o n c : Nat) (hn : 0 < n) (cur : List Value) (te : TypeId) (B : Blk w b cur te) (hfit : o + n * 4 ≤ cur.length) :
    (Builtin.clear_ #[t] ty #[.slice (some ⟨b, o, none⟩) n c]).run P w = .ok (.tuple #[]) (w.setCells b o ((List.replicate n lb0).flatMap Lb.cells)) := by
  have hzc := zeroCells4 z.cells hz n
  have hl := flat_length Lb.four (List.replicate n lb0)
  rw [List.length_replicate] at hl
  have hst := run_storeCells_cells (P := P) b o ((List.replicate n lb0).flatMap Lb.cells) 0 w (by intro j hj; rw [hl] at hj; rw [B.cell, List.getElem?_eq_getElem (by omega)]; rfl) (by intro j _; exact B.free _) (by
    intro v hv'
    obtain ⟨r, hr, hv''⟩ := List.mem_flatMap.1 hv'
    rw [List.eq_of_mem_replicate hr] at hv''
    simp only [Lb.cells, List.mem_cons, List.not_mem_nil, or_false] at hv''
    rcases hv'' with rfl | rfl | rfl | rfl <;> rfl)
  simp only [Nat.add_zero] at hst
  obtain ⟨m, rfl⟩ : ∃ m, n = m + 1 := ⟨n - 1, by omega⟩
  simp [Builtin.clear_, run_underlying ht, hv, hzc, hst]

theorem flat_all4 {α : Type} {f : α → List Value} (y : α) (u0 u1 u2 u3 : Value) (hy : f y = [u0, u1, u2, u3]) (hf : ∀ x, (f x).length = 4) : ∀ (l : List α) (k : Nat), k < l.length → ((((l.flatMap f).set (k * 4) u0).set (k * 4 + 1) u1).set (k * 4 + 2) u2).set (k * 4 + 3) u3 = (l.set k y).flatMap f
  | [], k, h => by simp at h
  | z :: r, 0, _ => by
    obtain ⟨z0, z1, z2, z3, e⟩ : ∃ z0 z1 z2 z3, f z = [z0, z1, z2, z3] := by
      match f z, hf z with
      | [z0, z1, z2, z3], _ => exact ⟨z0, z1, z2, z3, rfl⟩
    rw [List.flatMap_cons, List.set_cons_zero, List.flatMap_cons, e, hy]
    rfl
  | z :: r, k + 1, h => by
    have ih := flat_all4 y u0 u1 u2 u3 hy hf r k (by simpa using h)
    have e : (f z).length = 4 := hf z
    rw [List.flatMap_cons, List.set_cons_succ, List.flatMap_cons, ← ih, List.set_append_right _ _ (by rw [e]; omega), e, List.set_append_right _ _ (by rw [e]; omega), e, List.set_append_right _ _ (by rw [e]; omega), e, List.set_append_right _ _ (by rw [e]; omega), e,
      show (k + 1) * 4 - 4 = k * 4 by omega, show (k + 1) * 4 + 1 - 4 = k * 4 + 1 by omega, show (k + 1) * 4 + 2 - 4 = k * 4 + 2 by omega, show (k + 1) * 4 + 3 - 4 = k * 4 + 3 by omega]

abbrev setB (w : World) (bg i : Nat) (y : Lb) : World :=
  (((w.setCell ⟨bg, i * 4, none⟩ (.int .i64 y.b.n)).setCell ⟨bg, i * 4 + 1, none⟩ (.int .i64 y.b.fr)).setCell ⟨bg, i * 4 + 2, none⟩ (.int .i64 y.b.to)).setCell ⟨bg, i * 4 + 3, none⟩ (.slice y.a y.b.bits.length y.c)

/-- All four cells of one block are written. -/
theorem Blk.setB {w : World} {bg : Nat} {bl : List Lb} {t : TypeId} (B : Blk w bg (bl.flatMap Lb.cells) t) (i : Nat) (hi : i < bl.length) (y : Lb) :
    Blk (setB w bg i y) bg ((bl.set i y).flatMap Lb.cells) t ∧ w.grownBy (setB w bg i y) (some bg) := by
  have B2 := (((B.set (i * 4) (.int .i64 y.b.n)).set (i * 4 + 1) (.int .i64 y.b.fr)).set (i * 4 + 2) (.int .i64 y.b.to)).set (i * 4 + 3) (.slice y.a y.b.bits.length y.c)
  rw [flat_all4 y _ _ _ _ rfl Lb.four bl i hi] at B2
  exact ⟨B2, grownSet (grownSet (grownSet (grownSet (grownRefl w (some bg)) _ _) _ _) _ _) _ _⟩

end Go.Proofs.YtjjfgmcgonkicaaGreatDoor
