/-
  What lies there while a shelf is copied: the rows that are done, the one under way, those to come. No function of the program is named.
-/
import Derived.Laws.CopyOwn
import Derived.Test.YtabeihkfjlmepaaGreatDoorP22
import Derived.Test.YtabeihkfjlmepaaGreatDoorP02
import Derived.Test.YtabeihkfjlmepaaGreatDoorP01
namespace Go.Proofs.YtabeihkfjlmepaaGreatDoor
open Go.RowKit

abbrev midRow (gB gP : Nat) (bl : List Lb) (hd : List Pt) : Lr := ⟨bl, some ⟨gB, 0, none⟩, bl.length, hd, some ⟨gP, 0, none⟩, hd.length⟩

structure Mid (w W : World) (g o gB gP j : Nat) (dn : List Lr) (rest : List Lr) (bl : List Lb) (hd : List Pt) : Prop where
  rows : Blk W g ((dn ++ midRow gB gP bl hd :: rest).flatMap Lr.cells) 82
  bs : Blk W gB (bl.flatMap Lb.cells) 113
  hd : Blk W gP (cellsP hd) 125
  own : ∀ r ∈ dn, OwnR W w.heap.size r
  res : Blk W (w.heap.size + 1) [.slice none 0 0] 46
  out : Blk W o [.slice (some ⟨g, 0, none⟩) 4 4] 46
  good : ∀ (i : Nat) (x : Lb), bl[i]? = some x → x.Good W ∧ (i < j → x.Own W)
  bel : Below w.heap.size w W
  newB : ∀ r ∈ dn, r.ba ≠ some ⟨gB, 0, none⟩
  newH : ∀ r ∈ dn, r.ha ≠ some ⟨gP, 0, none⟩
  loB : w.heap.size ≤ gB
  loP : w.heap.size ≤ gP

theorem Mid.call {w W W' : World} {g o gB gP j : Nat} {dn rest : List Lr} {bl : List Lb} {hd : List Pt} (h : Mid w W g o gB gP j dn rest bl hd) (hb : Below W.heap.size W W') : Mid w W' g o gB gP j dn rest bl hd :=
  ⟨h.rows.keep hb h.rows.lt, h.bs.keep hb h.bs.lt, h.hd.keep hb h.hd.lt, fun r hr => (h.own r hr).call hb, h.res.keep hb h.res.lt, h.out.keep hb h.out.lt, fun i x hx => ⟨(h.good i x hx).1.keep hb (Nat.le_refl _), fun hi => ((h.good i x hx).2 hi).call hb⟩, belowCall h.bel hb, h.newB, h.newH, h.loB, h.loP⟩

theorem Mid.drew {w W : World} {g o gB gP j : Nat} {dn rest : List Lr} {bl : List Lb} {hd : List Pt} (h : Mid w W g o gB gP j dn rest bl hd) : Mid w W.drew g o gB gP j dn rest bl hd :=
  h.call (belowDrew (Below.refl W.heap.size W))

theorem Mid.cells {w W : World} {g o gB gP j k : Nat} {dn rest : List Lr} {bl : List Lb} {hd : List Pt} (h : Mid w W g o gB gP j dn rest bl hd) (hk : dn.length = k) :
    W.cell? ⟨g, k * 2, none⟩ = some (.slice (some ⟨gB, 0, none⟩) bl.length bl.length) := by
  rw [h.rows.cell]
  exact flat_get Lr.two _ k 0 (midRow gB gP bl hd) (by rw [List.getElem?_append_right (by omega), hk, Nat.sub_self]; rfl) (by decide)

/-- The first stores of a row: its lists are copied, and the row leads to the copies. -/
theorem Mid.start {w wr w4 w5 : World} {g o gB gP k n m : Nat} {dn l : List Lr} {x : Lr} (hdn : dn.length = k) (hx : l[k]? = some x) (hn : n = x.bs.length) (hm : m = x.hd.length)
    (BG : Blk wr g ((dn ++ l.drop k).flatMap Lr.cells) 82) (own : ∀ r ∈ dn, OwnR wr w.heap.size r) (R : Blk wr (w.heap.size + 1) [.slice none 0 0] 46) (O : Blk wr o [.slice (some ⟨g, 0, none⟩) 4 4] 46)
    (gx : x.Good wr.drew) (bel : Below w.heap.size w wr) (hg : w.heap.size ≤ g) (BB : Blk w4 gB (x.bs.flatMap Lb.cells) 113) (hB : wr.drew.heap.size ≤ gB) (b4 : Below wr.drew.heap.size wr.drew w4)
    (BP : Blk w5 gP (cellsP x.hd) 125) (hP : w4.heap.size ≤ gP) (b5 : Below w4.heap.size w4 w5) :
    Mid w ((w5.setCell ⟨g, k * 2, none⟩ (.slice (some ⟨gB, 0, none⟩) n n)).setCell ⟨g, k * 2 + 1, none⟩ (.slice (some ⟨gP, 0, none⟩) m m)) g o gB gP 0 dn (l.drop (k + 1)) x.bs x.hd := by
  subst hn hm
  have b45 := belowCall b4 b5
  have hs0 : wr.drew.heap.size = wr.heap.size := rfl
  have BG5 : Blk w5 g ((dn ++ l.drop k).flatMap Lr.cells) 82 := Blk.keep (w := wr.drew) BG b45 BG.lt
  have grow : w5.grownBy ((w5.setCell ⟨g, k * 2, none⟩ (.slice (some ⟨gB, 0, none⟩) x.bs.length x.bs.length)).setCell ⟨g, k * 2 + 1, none⟩ (.slice (some ⟨gP, 0, none⟩) x.hd.length x.hd.length)) (some g) := grownSet (grownSet (grownRefl w5 (some g)) _ _) _ _
  have hgl := BG.lt
  have hd : l.drop k = x :: l.drop (k + 1) := by
    obtain ⟨hk', rfl⟩ := List.getElem?_eq_some_iff.1 hx
    exact List.drop_eq_getElem_cons hk'
  have s4 := b4.size
  have nb := rowNoBool (dn ++ l.drop k)
  have own5 : ∀ r ∈ dn, OwnR w5 w.heap.size r := fun r hr => ((own r hr).call (belowDrew (Below.refl _ _))).call b45
  refine ⟨?_, ?_, ?_, fun r hr => (own5 r hr).wrote grow BG5 (by decide) ((own5 r hr).notB BG5 (by decide)) ((own5 r hr).notH BG5 (by decide)), ?_, ?_, fun i y hy => ⟨?_, fun hi => absurd hi (Nat.not_lt_zero _)⟩, ?_, fun r hr => ?_, fun r hr => ?_, ?_, ?_⟩
  · have B2 := (BG5.set (k * 2) (.slice (some ⟨gB, 0, none⟩) x.bs.length x.bs.length)).set (k * 2 + 1) (.slice (some ⟨gP, 0, none⟩) x.hd.length x.hd.length)
    rw [flat_set (midRow gB gP x.bs x.hd) _ _ rfl Lr.two _ k (by rw [List.length_append, hdn, hd, List.length_cons]; omega), hd, List.set_append_right _ _ (by omega), hdn, Nat.sub_self, List.set_cons_zero] at B2
    exact B2
  · exact (BB.keep b5 BB.lt).grown grow (fun j e => by obtain rfl := Option.some.inj e; omega)
  · exact BP.grown grow (fun j e => by obtain rfl := Option.some.inj e; omega)
  · refine (Blk.keep (w := wr.drew) R b45 R.lt).grown grow (fun j e => ?_)
    obtain rfl := Option.some.inj e
    rintro rfl
    exact absurd (blkType BG R) (by decide)
  · refine (Blk.keep (w := wr.drew) O b45 O.lt).grown grow (fun j e => ?_)
    obtain rfl := Option.some.inj e
    rintro rfl
    exact absurd (blkType BG O) (by decide)
  · exact ((gx.bs.good y (List.mem_of_getElem? hy)).keep b45 (Nat.le_refl _)).off grow BG5 nb
  · exact (belowCall (belowDrew bel) b45).grown grow (by have := bel.size; have := b45.size; omega) (fun j e => by obtain rfl := Option.some.inj e; exact hg)
  · obtain ⟨bg, e1, l1, B1⟩ := (own r hr).bs
    have := B1.lt
    rw [e1]
    intro e
    simp only [Option.some.injEq, Addr.mk.injEq, and_true] at e
    omega
  · obtain ⟨hh, e2, ow⟩ := (own r hr).hd
    obtain ⟨cur, B2, _⟩ := ownBlk ow
    have := B2.lt
    rw [e2]
    intro e
    simp only [Option.some.injEq, Addr.mk.injEq, and_true] at e
    omega
  · have := bel.size
    omega
  · have := bel.size
    omega

/-- The bits of one block are copied. -/
theorem Mid.step {w W W' : World} {g o gB gP gO j n : Nat} {dn rest : List Lr} {bl : List Lb} {hd : List Pt} {x : Lb} (h : Mid w W g o gB gP j dn rest bl hd) (hx : bl[j]? = some x) (hn : n = x.b.bits.length) (BO : Blk W' gO (x.b.bits.map Value.bool) 4) (hb : Below W.heap.size W W') :
    Mid w (W'.setCell ⟨gB, j * 4 + 3, none⟩ (.slice (some ⟨gO, 0, none⟩) n n)) g o gB gP (j + 1) dn rest (bl.set j ⟨x.b, some ⟨gO, 0, none⟩, n⟩) hd := by
  subst hn
  have h := h.call hb
  have grow : W'.grownBy (W'.setCell ⟨gB, j * 4 + 3, none⟩ (.slice (some ⟨gO, 0, none⟩) x.b.bits.length x.b.bits.length)) (some gB) := grownSet (grownRefl W' (some gB)) _ _
  have nb := blkNoBool bl
  have ne : ∀ {k : Nat} {cs : List Value} {t : TypeId}, Blk W' k cs t → t ≠ 113 → ∀ i, some gB = some i → i ≠ k := by
    intro k cs t B ht i e
    obtain rfl := Option.some.inj e
    rintro rfl
    exact ht (blkType B h.bs)
  refine ⟨?_, ?_, h.hd.grown grow (ne h.hd (by decide)), fun r hr => (h.own r hr).wrote grow h.bs (by decide) (h.newB r hr) ((h.own r hr).notH h.bs (by decide)), h.res.grown grow (ne h.res (by decide)), h.out.grown grow (ne h.out (by decide)), fun i y hy => ?_, h.bel.setCell h.loB _, h.newB, h.newH, h.loB, h.loP⟩
  · have B := h.rows.grown grow (ne h.rows (by decide))
    have e : (dn ++ midRow gB gP bl hd :: rest).flatMap Lr.cells = (dn ++ midRow gB gP (bl.set j ⟨x.b, some ⟨gO, 0, none⟩, x.b.bits.length⟩) hd :: rest).flatMap Lr.cells := by
      rw [List.flatMap_append, List.flatMap_append, List.flatMap_cons, List.flatMap_cons]
      unfold midRow Lr.cells
      simp only [List.length_set]
    rw [← e]
    exact B
  · have B := h.bs.set (j * 4 + 3) (.slice (some ⟨gO, 0, none⟩) x.b.bits.length x.b.bits.length)
    rw [flat_set4 x Lb.four ⟨x.b, some ⟨gO, 0, none⟩, x.b.bits.length⟩ _ 3 (by decide) rfl bl j hx] at B
    exact B
  · rw [List.getElem?_set] at hy
    split at hy
    · rename_i e
      subst e
      split at hy
      · obtain rfl := Option.some.inj hy
        have gx := (h.good j x hx).1
        have BO' := BO.grown grow (ne BO (by decide))
        have s1 := Sl.ofBlk BO' (by rw [List.length_map]; have := gx.few; omega)
        rw [List.length_map] at s1
        exact ⟨⟨s1, gx.few⟩, fun _ => ⟨⟨s1, gx.few⟩, gO, _, rfl, BO'⟩⟩
      · cases hy
    · rename_i e
      exact ⟨(h.good i y hy).1.off grow h.bs nb, fun hi => ((h.good i y hy).2 (by omega)).wrote grow h.bs (by decide)⟩

theorem set_map_b {bl : List Lb} {j : Nat} {x : Lb} (h : bl[j]? = some x) (a : Option Addr) (c : Nat) : (bl.set j ⟨x.b, a, c⟩).map Lb.b = bl.map Lb.b := by
  obtain ⟨h1, rfl⟩ := List.getElem?_eq_some_iff.1 h
  rw [List.map_set]
  show (bl.map Lb.b).set j (Lb.b bl[j]) = _
  rw [← List.map_set, List.set_getElem_self]

theorem ApartL.push {dn : List Lr} {y : Lr} (h : ApartL dn) (hb : ∀ r ∈ dn, r.ba ≠ y.ba) (hh : ∀ r ∈ dn, r.ha ≠ y.ha) : ApartL (dn ++ [y]) := by
  intro i j r q hij hr hq
  rw [List.getElem?_append] at hr hq
  split at hr
  · split at hq
    · exact h i j r q hij hr hq
    · have e : q = y := by
        rw [List.getElem?_singleton] at hq
        split at hq
        · exact (Option.some.inj hq).symm
        · cases hq
      subst e
      exact ⟨hb r (List.mem_of_getElem? hr), hh r (List.mem_of_getElem? hr)⟩
  · have e : r = y := by
      rw [List.getElem?_singleton] at hr
      split at hr
      · exact (Option.some.inj hr).symm
      · cases hr
    subst e
    split at hq
    · exact ⟨fun e => hb q (List.mem_of_getElem? hq) e.symm, fun e => hh q (List.mem_of_getElem? hq) e.symm⟩
    · rw [List.getElem?_singleton] at hr hq
      split at hr
      · split at hq
        · omega
        · cases hq
      · cases hr

/-- A row is done. -/
theorem Mid.done {w W : World} {g o gB gP j k : Nat} {dn l : List Lr} {bl : List Lb} {hd : List Pt} {x : Lr} (h : Mid w W g o gB gP j dn (l.drop (k + 1)) bl hd) (hj : bl.length ≤ j) (hdn : dn.length = k) (hrw : dn.map Lr.rw = (l.take k).map Lr.rw) (hx : l[k]? = some x) (hb : bl.map Lb.b = x.bs.map Lb.b) (hh : hd = x.hd) (hm : hd.length ≤ 40) (ap : ApartL dn) :
    ∃ y, (dn ++ [y]).length = k + 1 ∧ (dn ++ [y]).map Lr.rw = (l.take (k + 1)).map Lr.rw ∧ Blk W g (((dn ++ [y]) ++ l.drop (k + 1)).flatMap Lr.cells) 82 ∧ (∀ r ∈ dn ++ [y], OwnR W w.heap.size r) ∧ ApartL (dn ++ [y]) := by
  refine ⟨midRow gB gP bl hd, by simp [hdn], ?_, by rw [List.append_assoc]; exact h.rows, fun r hr => ?_, ap.push h.newB h.newH⟩
  · rw [List.map_append, hrw, List.take_add_one, hx, List.map_append]
    congr 1
    simp [Lr.rw, hb, hh]
  · rcases List.mem_append.1 hr with hr | hr
    · exact h.own r hr
    · simp only [List.mem_singleton] at hr
      subst hr
      refine ⟨⟨gB, rfl, h.loB, h.bs⟩, rfl, ⟨gP, rfl, ⟨cellsP_length hd, .inr ⟨gP, hd.length, (cellsP hd).toArray, rfl, h.loP, h.hd, Nat.le_refl _, by unfold maxLen; show hd.length ≤ _; omega, by simp [cellsP_length], ?_⟩⟩⟩, fun x hx => by
        obtain ⟨i, hi, rfl⟩ := List.mem_iff_getElem.1 hx
        have hi' : i < bl.length := hi
        exact (h.good i _ (List.getElem?_eq_getElem hi)).2 (by omega)⟩
      rw [List.take_of_length_le (by simp [cellsP_length])]

end Go.Proofs.YtabeihkfjlmepaaGreatDoor

/-
  copy of a whole slice into a row that the call itself made, whatever the width of an element.
-/
namespace Go.Proofs.YtabeihkfjlmepaaGreatDoor
open Go.RowKit

theorem run_copy_whole {P : Program} (w : World) (dT sT ty elem : TypeId) (size g n dCap : Nat) (a : Addr) (sCap : Nat) (cur : List Value) (t : TypeId) (cs : List Value)
    (hu : P.underlying dT = some (.slice elem)) (hs : (P.info? elem).map (·.size) = some size)
    (hg : w.heap[g]? = some (.cells cur.toArray t (0, 0))) (hn : cs.length = n * size)
    (hsrc : ∀ j v, cs[j]? = some v → w.cell? (a.add j) = some v) (hfit : cs.length = cur.length) (h1 : ∀ v ∈ cs, v.oneCell' = true) :
    (Builtin.copy_ #[dT, sT] ty #[.slice (some ⟨g, 0, none⟩) n dCap, .slice (some a) n sCap]).run P w =
      .ok (goInt n) (w.setRow g cs.toArray) := by
  have hl := run_loadCells_list (P := P) w a cs hsrc
  have hst := run_storeCells_at P g 0 t cs 0 cur.toArray w hg (by simp; omega) h1
  have hsp : splice cur 0 cs = cs := by simp [splice, hfit]
  cases hq : P.info? elem with
  | none => simp [hq] at hs
  | some i =>
    have hi : i.size = size := by simpa [hq] using hs
    subst hi
    simp [Builtin.copy_, run_underlying hu, Builtin.lenOf, Builtin.firstCells, sizeOf, typeInfo, hq, ← hn, hl, hst]
    congr 1
    have := hsp
    simpa [splice] using this

theorem wpList_copy_whole {P : Program} {w : World} {ops : Array Oper} {rest : List Oper} {o : Oper} {a : Act} {Q : Exit → Act → World → Prop} (hgd : o.guard = none) (d s : Operand) (dT sT : TypeId)
    (ho : o.op = .call { callee := .builtin .copy, args := #[d, s], argTypes := #[dT, sT] }) (elem : TypeId) (size : Nat) (hu : P.underlying dT = some (.slice elem)) (hsz : (P.info? elem).map (·.size) = some size)
    (g n dCap : Nat) (ad : Addr) (sCap : Nat) (hd : a.eval d = .slice (some ⟨g, 0, none⟩) n dCap) (hs : a.eval s = .slice (some ad) n sCap)
    (cur : List Value) (t : TypeId) (hg : Blk w g cur t) (cs : List Value) (hn : cs.length = n * size)
    (hsrc : ∀ j v, cs[j]? = some v → w.cell? (ad.add j) = some v) (hfit : cs.length = cur.length) (h1 : ∀ v ∈ cs, v.oneCell' = true) (B : Nat) (w0 : World) (hb : Below B w0 w) (hBg : B ≤ g)
    (h : ∀ w', Blk w' g cs t → Below B w0 w' → wpList P ops Q rest (a.put o.dst (goInt n)) w') : wpList P ops Q (o :: rest) a w := by
  refine wpList_plain hgd fun K hK => ?_
  have hrun := run_copy_whole (P := P) w dT sT o.type elem size g n dCap ad sCap cur t cs hu hsz hg hn hsrc hfit h1
  unfold Oper.wp
  simp [execOp, ho, resolve, invoke, builtin, hd, hs, hrun, Result.andThen]
  exact hK _ _ (h _ (setRow_heap w g _ _ t _ hg) (below_setRow hb hBg _))

theorem run_copy_nil {P : Program} (w : World) (dT sT ty elem : TypeId) (size g dCap : Nat) (hu : P.underlying dT = some (.slice elem)) (hs : (P.info? elem).map (·.size) = some size) :
    (Builtin.copy_ #[dT, sT] ty #[.slice (some ⟨g, 0, none⟩) 0 dCap, .slice none 0 0]).run P w = .ok (goInt 0) w := by
  cases hq : P.info? elem with
  | none => simp [hq] at hs
  | some i =>
    simp [Builtin.copy_, run_underlying hu, Builtin.lenOf, Builtin.firstCells, sizeOf, typeInfo, hq, storeCells]

theorem wpList_copy_nil {P : Program} {w : World} {ops : Array Oper} {rest : List Oper} {o : Oper} {a : Act} {Q : Exit → Act → World → Prop} (hgd : o.guard = none) (d s : Operand) (dT sT : TypeId)
    (ho : o.op = .call { callee := .builtin .copy, args := #[d, s], argTypes := #[dT, sT] }) (elem : TypeId) (size : Nat) (hu : P.underlying dT = some (.slice elem)) (hsz : (P.info? elem).map (·.size) = some size)
    (g dCap : Nat) (hd : a.eval d = .slice (some ⟨g, 0, none⟩) 0 dCap) (hs : a.eval s = .slice none 0 0)
    (h : wpList P ops Q rest (a.put o.dst (goInt 0)) w) : wpList P ops Q (o :: rest) a w := by
  refine wpList_plain hgd fun K hK => ?_
  have hrun := run_copy_nil (P := P) w dT sT o.type elem size g dCap hu hsz
  unfold Oper.wp
  simp [execOp, ho, resolve, invoke, builtin, hd, hs, hrun, Result.andThen]
  exact hK _ _ h

/-- What make has laid, as a block. -/
theorem madeW {w' : World} {g n size : Nat} {cs : List Value} {t : TypeId} (h : w'.ownsRow g t size (.slice (some ⟨g, 0, none⟩) n n) n cs) : ∃ L : List Value, L.length = n * size ∧ Blk w' g L t := by
  rcases h.2 with ⟨h', _⟩ | ⟨g', cap', cur, h', _, hg, _, _, hs, htake⟩
  · simp at h'
  · simp only [Value.slice.injEq, Option.some.injEq, Addr.mk.injEq, and_true, true_and] at h'
    obtain ⟨rfl, rfl⟩ := h'
    exact ⟨cur.toList, by simp [hs], by unfold Blk; simpa using hg⟩

end Go.Proofs.YtabeihkfjlmepaaGreatDoor

/-
  shelf.copyOfList at rows, blocks, points and bits, whatever is handed: a slice of the call's own with the same cells.
-/
namespace Go.Proofs.YtabeihkfjlmepaaGreatDoor
open Go.RowKit

theorem infoCpR : (Tryz.prog.info? 82).map (fun i => (i.zero, i.size, i.bytes)) = some (some (.agg #[.slice none 0 0, .slice none 0 0]), 2, 48) := by kernel_rfl

set_option maxHeartbeats 400000 in
set_option maxRecDepth 100000 in
theorem copyR (ao : Option Addr) (cap : Nat) (C : List Value) (n : Nat) (w : World) (hrow : Row w ao C) (hle : n ≤ cap) (hnil : ao = none → cap = 0) (hlen : C.length = n * 2) (one : ∀ v ∈ C, v.oneCell' = true) (hl : n ≤ 1000000000000) :
    Calls Tryz.prog 117 #[.slice ao n cap] w fun e w' => ∃ g, e = .returned (.slice (some ⟨g, 0, none⟩) n n) ∧ Blk w' g C 82 ∧ w.heap.size ≤ g ∧ Below w.heap.size w w' := by
  obtain ⟨i0, hi, hz0, hz1, hz2⟩ := info_parts infoCpR
  have hsz : (Tryz.prog.info? 82).map (·.size) = some 2 := by rw [hi]; exact congrArg some hz1
  replace hlen := hide hlen
  cases ao with
  | none =>
    obtain rfl := hnil rfl
    obtain rfl : n = 0 := by omega
    obtain rfl : C = [] := List.eq_nil_of_length_eq_zero (by rw [hlen.out])
    clear hlen
    go_enter Tryz.func117, Tryz.ntmps117
    go_wp2_with (at_make; refine wpList_make_full _ rfl (.tmp 5) (.tmp 5) 44 rfl w.heap.size 82 i0 (.agg #[.slice none 0 0, .slice none 0 0]) 2 Tryz.underlying44 hi hz0 hz1 _ _ _ _ 0 rfl rfl rfl rfl (by rw [hz2]; omega) (by unfold maxLen; omega) (Nat.le_refl _) ?_)
    intro w1 own grow
    have bel : Below w.heap.size w w1 := (Below.refl _ _).grown grow (Nat.le_refl _) (fun k h => by cases h)
    obtain ⟨L, hL, B⟩ := madeW own
    obtain rfl : L = [] := List.eq_nil_of_length_eq_zero (by rw [hL])
    clear own grow
    go_wp2_with (refine wpList_copy_nil rfl (.tmp 7) (.tmp 8) 44 44 rfl 82 2 Tryz.underlying44 hsz w.heap.size 0 rfl rfl ?_)
    go_ret
    exact ⟨_, rfl, B, Nat.le_refl _, bel⟩
  | some ad =>
    go_enter Tryz.func117, Tryz.ntmps117
    go_wp2_with (at_make; refine wpList_make_full _ rfl (.tmp 5) (.tmp 5) 44 rfl w.heap.size 82 i0 (.agg #[.slice none 0 0, .slice none 0 0]) 2 Tryz.underlying44 hi hz0 hz1 _ _ _ _ n rfl rfl rfl rfl (by rw [hz2]; omega) (by unfold maxLen; omega) (Nat.le_refl _) ?_)
    intro w1 own grow
    have bel : Below w.heap.size w w1 := (Below.refl _ _).grown grow (Nat.le_refl _) (fun k h => by cases h)
    obtain ⟨L, hL, B⟩ := madeW own
    have hr := hrow.keep bel (Nat.le_refl _)
    have hsrc : ∀ j u, C[j]? = some u → w1.cell? (ad.add j) = some u := by
      intro j u hu
      obtain ⟨b', off', e, _, hc⟩ := hr.at (by intro e; rw [e] at hu; simp at hu)
      obtain rfl := Option.some.inj e
      rw [Addr.add_lit]
      exact hc j u hu
    have hfit : C.length = L.length := by rw [hlen.out, hL]
    replace hfit := hide hfit
    replace hL := hide hL
    clear own grow hr hrow
    generalize hg : w.heap.size = g at *
    go_wp2_with (refine wpList_copy_whole rfl (.tmp 7) (.tmp 8) 44 44 rfl 82 2 Tryz.underlying44 hsz g n n ad cap rfl rfl L 82 B C hlen.out hsrc hfit.out one g w bel (Nat.le_refl _) ?_)
    intro w2 B2 bel2
    go_wp2_with fail
    go_ret
    exact ⟨g, rfl, B2, by omega, by rw [hg]; exact bel2⟩

theorem infoCpB : (Tryz.prog.info? 113).map (fun i => (i.zero, i.size, i.bytes)) = some (some (.agg #[.int .i64 0, .int .i64 0, .int .i64 0, .slice none 0 0]), 4, 48) := by kernel_rfl

set_option maxHeartbeats 400000 in
set_option maxRecDepth 100000 in
theorem copyB (ao : Option Addr) (cap : Nat) (C : List Value) (n : Nat) (w : World) (hrow : Row w ao C) (hle : n ≤ cap) (hnil : ao = none → cap = 0) (hlen : C.length = n * 4) (one : ∀ v ∈ C, v.oneCell' = true) (hl : n ≤ 1000000000000) :
    Calls Tryz.prog 118 #[.slice ao n cap] w fun e w' => ∃ g, e = .returned (.slice (some ⟨g, 0, none⟩) n n) ∧ Blk w' g C 113 ∧ w.heap.size ≤ g ∧ Below w.heap.size w w' := by
  obtain ⟨i0, hi, hz0, hz1, hz2⟩ := info_parts infoCpB
  have hsz : (Tryz.prog.info? 113).map (·.size) = some 4 := by rw [hi]; exact congrArg some hz1
  replace hlen := hide hlen
  cases ao with
  | none =>
    obtain rfl := hnil rfl
    obtain rfl : n = 0 := by omega
    obtain rfl : C = [] := List.eq_nil_of_length_eq_zero (by rw [hlen.out])
    clear hlen
    go_enter Tryz.func118, Tryz.ntmps118
    go_wp2_with (at_make; refine wpList_make_full _ rfl (.tmp 5) (.tmp 5) 80 rfl w.heap.size 113 i0 (.agg #[.int .i64 0, .int .i64 0, .int .i64 0, .slice none 0 0]) 4 Tryz.underlying80 hi hz0 hz1 _ _ _ _ 0 rfl rfl rfl rfl (by rw [hz2]; omega) (by unfold maxLen; omega) (Nat.le_refl _) ?_)
    intro w1 own grow
    have bel : Below w.heap.size w w1 := (Below.refl _ _).grown grow (Nat.le_refl _) (fun k h => by cases h)
    obtain ⟨L, hL, B⟩ := madeW own
    obtain rfl : L = [] := List.eq_nil_of_length_eq_zero (by rw [hL])
    clear own grow
    go_wp2_with (refine wpList_copy_nil rfl (.tmp 7) (.tmp 8) 80 80 rfl 113 4 Tryz.underlying80 hsz w.heap.size 0 rfl rfl ?_)
    go_ret
    exact ⟨_, rfl, B, Nat.le_refl _, bel⟩
  | some ad =>
    go_enter Tryz.func118, Tryz.ntmps118
    go_wp2_with (at_make; refine wpList_make_full _ rfl (.tmp 5) (.tmp 5) 80 rfl w.heap.size 113 i0 (.agg #[.int .i64 0, .int .i64 0, .int .i64 0, .slice none 0 0]) 4 Tryz.underlying80 hi hz0 hz1 _ _ _ _ n rfl rfl rfl rfl (by rw [hz2]; omega) (by unfold maxLen; omega) (Nat.le_refl _) ?_)
    intro w1 own grow
    have bel : Below w.heap.size w w1 := (Below.refl _ _).grown grow (Nat.le_refl _) (fun k h => by cases h)
    obtain ⟨L, hL, B⟩ := madeW own
    have hr := hrow.keep bel (Nat.le_refl _)
    have hsrc : ∀ j u, C[j]? = some u → w1.cell? (ad.add j) = some u := by
      intro j u hu
      obtain ⟨b', off', e, _, hc⟩ := hr.at (by intro e; rw [e] at hu; simp at hu)
      obtain rfl := Option.some.inj e
      rw [Addr.add_lit]
      exact hc j u hu
    have hfit : C.length = L.length := by rw [hlen.out, hL]
    replace hfit := hide hfit
    replace hL := hide hL
    clear own grow hr hrow
    generalize hg : w.heap.size = g at *
    go_wp2_with (refine wpList_copy_whole rfl (.tmp 7) (.tmp 8) 80 80 rfl 113 4 Tryz.underlying80 hsz g n n ad cap rfl rfl L 113 B C hlen.out hsrc hfit.out one g w bel (Nat.le_refl _) ?_)
    intro w2 B2 bel2
    go_wp2_with fail
    go_ret
    exact ⟨g, rfl, B2, by omega, by rw [hg]; exact bel2⟩

theorem infoCpP : (Tryz.prog.info? 125).map (fun i => (i.zero, i.size, i.bytes)) = some (some (.agg #[.int .i64 0, .int .i64 0]), 2, 16) := by kernel_rfl

set_option maxHeartbeats 400000 in
set_option maxRecDepth 100000 in
theorem copyP (ao : Option Addr) (cap : Nat) (C : List Value) (n : Nat) (w : World) (hrow : Row w ao C) (hle : n ≤ cap) (hnil : ao = none → cap = 0) (hlen : C.length = n * 2) (one : ∀ v ∈ C, v.oneCell' = true) (hl : n ≤ 1000000000000) :
    Calls Tryz.prog 119 #[.slice ao n cap] w fun e w' => ∃ g, e = .returned (.slice (some ⟨g, 0, none⟩) n n) ∧ Blk w' g C 125 ∧ w.heap.size ≤ g ∧ Below w.heap.size w w' := by
  obtain ⟨i0, hi, hz0, hz1, hz2⟩ := info_parts infoCpP
  have hsz : (Tryz.prog.info? 125).map (·.size) = some 2 := by rw [hi]; exact congrArg some hz1
  replace hlen := hide hlen
  cases ao with
  | none =>
    obtain rfl := hnil rfl
    obtain rfl : n = 0 := by omega
    obtain rfl : C = [] := List.eq_nil_of_length_eq_zero (by rw [hlen.out])
    clear hlen
    go_enter Tryz.func119, Tryz.ntmps119
    go_wp2_with (at_make; refine wpList_make_full _ rfl (.tmp 5) (.tmp 5) 71 rfl w.heap.size 125 i0 (.agg #[.int .i64 0, .int .i64 0]) 2 Tryz.underlying71 hi hz0 hz1 _ _ _ _ 0 rfl rfl rfl rfl (by rw [hz2]; omega) (by unfold maxLen; omega) (Nat.le_refl _) ?_)
    intro w1 own grow
    have bel : Below w.heap.size w w1 := (Below.refl _ _).grown grow (Nat.le_refl _) (fun k h => by cases h)
    obtain ⟨L, hL, B⟩ := madeW own
    obtain rfl : L = [] := List.eq_nil_of_length_eq_zero (by rw [hL])
    clear own grow
    go_wp2_with (refine wpList_copy_nil rfl (.tmp 7) (.tmp 8) 71 71 rfl 125 2 Tryz.underlying71 hsz w.heap.size 0 rfl rfl ?_)
    go_ret
    exact ⟨_, rfl, B, Nat.le_refl _, bel⟩
  | some ad =>
    go_enter Tryz.func119, Tryz.ntmps119
    go_wp2_with (at_make; refine wpList_make_full _ rfl (.tmp 5) (.tmp 5) 71 rfl w.heap.size 125 i0 (.agg #[.int .i64 0, .int .i64 0]) 2 Tryz.underlying71 hi hz0 hz1 _ _ _ _ n rfl rfl rfl rfl (by rw [hz2]; omega) (by unfold maxLen; omega) (Nat.le_refl _) ?_)
    intro w1 own grow
    have bel : Below w.heap.size w w1 := (Below.refl _ _).grown grow (Nat.le_refl _) (fun k h => by cases h)
    obtain ⟨L, hL, B⟩ := madeW own
    have hr := hrow.keep bel (Nat.le_refl _)
    have hsrc : ∀ j u, C[j]? = some u → w1.cell? (ad.add j) = some u := by
      intro j u hu
      obtain ⟨b', off', e, _, hc⟩ := hr.at (by intro e; rw [e] at hu; simp at hu)
      obtain rfl := Option.some.inj e
      rw [Addr.add_lit]
      exact hc j u hu
    have hfit : C.length = L.length := by rw [hlen.out, hL]
    replace hfit := hide hfit
    replace hL := hide hL
    clear own grow hr hrow
    generalize hg : w.heap.size = g at *
    go_wp2_with (refine wpList_copy_whole rfl (.tmp 7) (.tmp 8) 71 71 rfl 125 2 Tryz.underlying71 hsz g n n ad cap rfl rfl L 125 B C hlen.out hsrc hfit.out one g w bel (Nat.le_refl _) ?_)
    intro w2 B2 bel2
    go_wp2_with fail
    go_ret
    exact ⟨g, rfl, B2, by omega, by rw [hg]; exact bel2⟩

theorem infoCpO : (Tryz.prog.info? 4).map (fun i => (i.zero, i.size, i.bytes)) = some (some (.bool false), 1, 1) := by kernel_rfl

set_option maxHeartbeats 400000 in
set_option maxRecDepth 100000 in
theorem copyO (ao : Option Addr) (cap : Nat) (C : List Value) (n : Nat) (w : World) (hrow : Row w ao C) (hle : n ≤ cap) (hnil : ao = none → cap = 0) (hlen : C.length = n * 1) (one : ∀ v ∈ C, v.oneCell' = true) (hl : n ≤ 140737488355328) :
    Calls Tryz.prog 120 #[.slice ao n cap] w fun e w' => ∃ g, e = .returned (.slice (some ⟨g, 0, none⟩) n n) ∧ Blk w' g C 4 ∧ w.heap.size ≤ g ∧ Below w.heap.size w w' := by
  obtain ⟨i0, hi, hz0, hz1, hz2⟩ := info_parts infoCpO
  have hsz : (Tryz.prog.info? 4).map (·.size) = some 1 := by rw [hi]; exact congrArg some hz1
  replace hlen := hide hlen
  cases ao with
  | none =>
    obtain rfl := hnil rfl
    obtain rfl : n = 0 := by omega
    obtain rfl : C = [] := List.eq_nil_of_length_eq_zero (by rw [hlen.out])
    clear hlen
    go_enter Tryz.func120, Tryz.ntmps120
    go_wp2_with (at_make; refine wpList_make_full _ rfl (.tmp 5) (.tmp 5) 111 rfl w.heap.size 4 i0 (.bool false) 1 Tryz.underlying111 hi hz0 hz1 _ _ _ _ 0 rfl rfl rfl rfl (by rw [hz2]; omega) (by unfold maxLen; omega) (Nat.le_refl _) ?_)
    intro w1 own grow
    have bel : Below w.heap.size w w1 := (Below.refl _ _).grown grow (Nat.le_refl _) (fun k h => by cases h)
    obtain ⟨L, hL, B⟩ := madeW own
    obtain rfl : L = [] := List.eq_nil_of_length_eq_zero (by rw [hL])
    clear own grow
    go_wp2_with (refine wpList_copy_nil rfl (.tmp 7) (.tmp 8) 111 111 rfl 4 1 Tryz.underlying111 hsz w.heap.size 0 rfl rfl ?_)
    go_ret
    exact ⟨_, rfl, B, Nat.le_refl _, bel⟩
  | some ad =>
    go_enter Tryz.func120, Tryz.ntmps120
    go_wp2_with (at_make; refine wpList_make_full _ rfl (.tmp 5) (.tmp 5) 111 rfl w.heap.size 4 i0 (.bool false) 1 Tryz.underlying111 hi hz0 hz1 _ _ _ _ n rfl rfl rfl rfl (by rw [hz2]; omega) (by unfold maxLen; omega) (Nat.le_refl _) ?_)
    intro w1 own grow
    have bel : Below w.heap.size w w1 := (Below.refl _ _).grown grow (Nat.le_refl _) (fun k h => by cases h)
    obtain ⟨L, hL, B⟩ := madeW own
    have hr := hrow.keep bel (Nat.le_refl _)
    have hsrc : ∀ j u, C[j]? = some u → w1.cell? (ad.add j) = some u := by
      intro j u hu
      obtain ⟨b', off', e, _, hc⟩ := hr.at (by intro e; rw [e] at hu; simp at hu)
      obtain rfl := Option.some.inj e
      rw [Addr.add_lit]
      exact hc j u hu
    have hfit : C.length = L.length := by rw [hlen.out, hL]
    replace hfit := hide hfit
    replace hL := hide hL
    clear own grow hr hrow
    generalize hg : w.heap.size = g at *
    go_wp2_with (refine wpList_copy_whole rfl (.tmp 7) (.tmp 8) 111 111 rfl 4 1 Tryz.underlying111 hsz g n n ad cap rfl rfl L 4 B C hlen.out hsrc hfit.out one g w bel (Nat.le_refl _) ?_)
    intro w2 B2 bel2
    go_wp2_with fail
    go_ret
    exact ⟨g, rfl, B2, by omega, by rw [hg]; exact bel2⟩

end Go.Proofs.YtabeihkfjlmepaaGreatDoor
