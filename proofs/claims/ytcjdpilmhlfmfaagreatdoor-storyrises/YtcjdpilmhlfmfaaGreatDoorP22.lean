/-
  What lies there while a shelf is copied: the rows that are done, the one under way, those to come. No function of the program is named.
-/
import Derived.Test.YtcjdpilmhlfmfaaGreatDoorP14
namespace Go.Proofs.YtcjdpilmhlfmfaaGreatDoor
open Go.RowKit

abbrev midRow (gB gP : Nat) (bl : List Lb) (hd : List Pt) : Lr := ⟨bl, some ⟨gB, 0, none⟩, bl.length, hd, some ⟨gP, 0, none⟩, hd.length⟩

structure Mid (w W : World) (g o gB gP j : Nat) (dn : List Lr) (rest : List Lr) (bl : List Lb) (hd : List Pt) : Prop where
  rows : Blk W g ((dn ++ midRow gB gP bl hd :: rest).flatMap Lr.cells) 47
  bs : Blk W gB (bl.flatMap Lb.cells) 93
  hd : Blk W gP (cellsP hd) 50
  own : ∀ r ∈ dn, OwnR W w.heap.size r
  res : Blk W (w.heap.size + 1) [.slice none 0 0] 24
  out : Blk W o [.slice (some ⟨g, 0, none⟩) 4 4] 24
  good : ∀ (i : Nat) (x : Lb), bl[i]? = some x → x.Good W ∧ (i < j → x.Own W)
  bel : Below w.heap.size w W
  newB : ∀ r ∈ dn, r.ba ≠ some ⟨gB, 0, none⟩
  newH : ∀ r ∈ dn, r.ha ≠ some ⟨gP, 0, none⟩
  loB : w.heap.size ≤ gB
  loP : w.heap.size ≤ gP

theorem Mid.call {w W W' : World} {g o gB gP j : Nat} {dn rest : List Lr} {bl : List Lb} {hd : List Pt} (h : Mid w W g o gB gP j dn rest bl hd) (hb : Below W.heap.size W W') : Mid w W' g o gB gP j dn rest bl hd :=
  ⟨h.rows.keep hb h.rows.lt, h.bs.keep hb h.bs.lt, h.hd.keep hb h.hd.lt, fun r hr => (h.own r hr).call hb, h.res.keep hb h.res.lt, h.out.keep hb h.out.lt, fun i x hx => ⟨(h.good i x hx).1.keep hb (Nat.le_refl _), fun hi => ((h.good i x hx).2 hi).call hb⟩, belowCall h.bel hb, h.newB, h.newH, h.loB, h.loP⟩

theorem Mid.drew {w W : World} {g o gB gP j : Nat} {dn rest : List Lr} {bl : List Lb} {hd : List Pt} (h : Mid w W g o gB gP j dn rest bl hd) : Mid w W.drew g o gB gP j dn rest bl hd :=
  h.call (belowDrew (Below.refl W.heap.size W))

theorem Mid.cells {w W : World} {g o gB gP j k : Nat} {dn rest : List Lr} {bl : List Lb} {hd : List Pt} (h : Mid w W g o gB gP j dn rest bl hd) (hk : dn.length = k) :
    W.cell? ⟨g, k * 2, none⟩ = some (.slice (some ⟨gB, 0, none⟩) bl.length bl.length) := by
  rw [h.rows.cell]
  exact flat_get Lr.two _ k 0 (midRow gB gP bl hd) (by rw [List.getElem?_append_right (by omega), hk, Nat.sub_self]; rfl) (by decide)

/-- The first stores of a row: its lists are copied, and the row leads to the copies. -/
theorem Mid.start {w wr w4 w5 : World} {g o gB gP k n m : Nat} {dn l : List Lr} {x : Lr} (hdn : dn.length = k) (hx : l[k]? = some x) (hn : n = x.bs.length) (hm : m = x.hd.length)
    (BG : Blk wr g ((dn ++ l.drop k).flatMap Lr.cells) 47) (own : ∀ r ∈ dn, OwnR wr w.heap.size r) (R : Blk wr (w.heap.size + 1) [.slice none 0 0] 24) (O : Blk wr o [.slice (some ⟨g, 0, none⟩) 4 4] 24)
    (gx : x.Good wr.drew) (bel : Below w.heap.size w wr) (hg : w.heap.size ≤ g) (BB : Blk w4 gB (x.bs.flatMap Lb.cells) 93) (hB : wr.drew.heap.size ≤ gB) (b4 : Below wr.drew.heap.size wr.drew w4)
    (BP : Blk w5 gP (cellsP x.hd) 50) (hP : w4.heap.size ≤ gP) (b5 : Below w4.heap.size w4 w5) :
    Mid w ((w5.setCell ⟨g, k * 2, none⟩ (.slice (some ⟨gB, 0, none⟩) n n)).setCell ⟨g, k * 2 + 1, none⟩ (.slice (some ⟨gP, 0, none⟩) m m)) g o gB gP 0 dn (l.drop (k + 1)) x.bs x.hd := by
  subst hn hm
  have b45 := belowCall b4 b5
  have hs0 : wr.drew.heap.size = wr.heap.size := rfl
  have BG5 : Blk w5 g ((dn ++ l.drop k).flatMap Lr.cells) 47 := Blk.keep (w := wr.drew) BG b45 BG.lt
  have grow : w5.grownBy ((w5.setCell ⟨g, k * 2, none⟩ (.slice (some ⟨gB, 0, none⟩) x.bs.length x.bs.length)).setCell ⟨g, k * 2 + 1, none⟩ (.slice (some ⟨gP, 0, none⟩) x.hd.length x.hd.length)) (some g) := grownSet (grownSet (grownRefl w5 (some g)) _ _) _ _
  have hgl := BG.lt
  have hd : l.drop k = x :: l.drop (k + 1) := by
    obtain ⟨hk', rfl⟩ := List.getElem?_eq_some_iff.1 hx
    exact List.drop_eq_getElem_cons hk'
  have s4 := b4.size
  have nb := rowNoBool (dn ++ l.drop k)
  have own5 : ∀ r ∈ dn, OwnR w5 w.heap.size r := fun r hr => ((own r hr).call (belowDrew (Below.refl _ _))).call b45
  refine ⟨?_, ?_, ?_, fun r hr => (own5 r hr).wrote grow BG5 (by decide) ((own5 r hr).notB BG5 (by decide)) ((own5 r hr).notH BG5 (by decide)), ?_, ?_, fun i y hy => ⟨?_, fun hi => absurd hi (Nat.not_lt_zero _)⟩, ?_, fun r hr => ?_, fun r hr => ?_, ?_, ?_⟩
  · have B2 := (BG5.set (k * 2) (.slice (some ⟨gB, 0, none⟩) x.bs.length x.bs.length)).set (k * 2 + 1) (.slice (some ⟨gP, 0, none⟩) x.hd.length x.hd.length)
    rw [flat_set (midRow gB gP x.bs x.hd) _ _ rfl Lr.two _ k (by rw [List.length_append, hdn, hd, List.length_cons]; omega), hd, List.set_append_right _ _ (by omega), hdn, Nat.sub_self, List.set_cons_zero] at B2
    exact B2
  · exact (BB.keep b5 BB.lt).grown grow (fun j e => by obtain rfl := Option.some.inj e; omega)
  · exact BP.grown grow (fun j e => by obtain rfl := Option.some.inj e; omega)
  · refine (Blk.keep (w := wr.drew) R b45 R.lt).grown grow (fun j e => ?_)
    obtain rfl := Option.some.inj e
    rintro rfl
    exact absurd (blkType BG R) (by decide)
  · refine (Blk.keep (w := wr.drew) O b45 O.lt).grown grow (fun j e => ?_)
    obtain rfl := Option.some.inj e
    rintro rfl
    exact absurd (blkType BG O) (by decide)
  · exact ((gx.bs.good y (List.mem_of_getElem? hy)).keep b45 (Nat.le_refl _)).off grow BG5 nb
  · exact (belowCall (belowDrew bel) b45).grown grow (by have := bel.size; have := b45.size; omega) (fun j e => by obtain rfl := Option.some.inj e; exact hg)
  · obtain ⟨bg, e1, l1, B1⟩ := (own r hr).bs
    have := B1.lt
    rw [e1]
    intro e
    simp only [Option.some.injEq, Addr.mk.injEq, and_true] at e
    omega
  · obtain ⟨hh, e2, ow⟩ := (own r hr).hd
    obtain ⟨cur, B2, _⟩ := ownBlk ow
    have := B2.lt
    rw [e2]
    intro e
    simp only [Option.some.injEq, Addr.mk.injEq, and_true] at e
    omega
  · have := bel.size
    omega
  · have := bel.size
    omega

/-- The bits of one block are copied. -/
theorem Mid.step {w W W' : World} {g o gB gP gO j n : Nat} {dn rest : List Lr} {bl : List Lb} {hd : List Pt} {x : Lb} (h : Mid w W g o gB gP j dn rest bl hd) (hx : bl[j]? = some x) (hn : n = x.b.bits.length) (BO : Blk W' gO (x.b.bits.map Value.bool) 4) (hb : Below W.heap.size W W') :
    Mid w (W'.setCell ⟨gB, j * 4 + 3, none⟩ (.slice (some ⟨gO, 0, none⟩) n n)) g o gB gP (j + 1) dn rest (bl.set j ⟨x.b, some ⟨gO, 0, none⟩, n⟩) hd := by
  subst hn
  have h := h.call hb
  have grow : W'.grownBy (W'.setCell ⟨gB, j * 4 + 3, none⟩ (.slice (some ⟨gO, 0, none⟩) x.b.bits.length x.b.bits.length)) (some gB) := grownSet (grownRefl W' (some gB)) _ _
  have nb := blkNoBool bl
  have ne : ∀ {k : Nat} {cs : List Value} {t : TypeId}, Blk W' k cs t → t ≠ 93 → ∀ i, some gB = some i → i ≠ k := by
    intro k cs t B ht i e
    obtain rfl := Option.some.inj e
    rintro rfl
    exact ht (blkType B h.bs)
  refine ⟨?_, ?_, h.hd.grown grow (ne h.hd (by decide)), fun r hr => (h.own r hr).wrote grow h.bs (by decide) (h.newB r hr) ((h.own r hr).notH h.bs (by decide)), h.res.grown grow (ne h.res (by decide)), h.out.grown grow (ne h.out (by decide)), fun i y hy => ?_, h.bel.setCell h.loB _, h.newB, h.newH, h.loB, h.loP⟩
  · have B := h.rows.grown grow (ne h.rows (by decide))
    have e : (dn ++ midRow gB gP bl hd :: rest).flatMap Lr.cells = (dn ++ midRow gB gP (bl.set j ⟨x.b, some ⟨gO, 0, none⟩, x.b.bits.length⟩) hd :: rest).flatMap Lr.cells := by
      rw [List.flatMap_append, List.flatMap_append, List.flatMap_cons, List.flatMap_cons]
      unfold midRow Lr.cells
      simp only [List.length_set]
    rw [← e]
    exact B
  · have B := h.bs.set (j * 4 + 3) (.slice (some ⟨gO, 0, none⟩) x.b.bits.length x.b.bits.length)
    rw [flat_set4 x Lb.four ⟨x.b, some ⟨gO, 0, none⟩, x.b.bits.length⟩ _ 3 (by decide) rfl bl j hx] at B
    exact B
  · rw [List.getElem?_set] at hy
    split at hy
    · rename_i e
      subst e
      split at hy
      · obtain rfl := Option.some.inj hy
        have gx := (h.good j x hx).1
        have BO' := BO.grown grow (ne BO (by decide))
        have s1 := Sl.ofBlk BO' (by rw [List.length_map]; have := gx.few; omega)
        rw [List.length_map] at s1
        exact ⟨⟨s1, gx.few⟩, fun _ => ⟨⟨s1, gx.few⟩, gO, _, rfl, BO'⟩⟩
      · cases hy
    · rename_i e
      exact ⟨(h.good i y hy).1.off grow h.bs nb, fun hi => ((h.good i y hy).2 (by omega)).wrote grow h.bs (by decide)⟩

theorem set_map_b {bl : List Lb} {j : Nat} {x : Lb} (h : bl[j]? = some x) (a : Option Addr) (c : Nat) : (bl.set j ⟨x.b, a, c⟩).map Lb.b = bl.map Lb.b := by
  obtain ⟨h1, rfl⟩ := List.getElem?_eq_some_iff.1 h
  rw [List.map_set]
  show (bl.map Lb.b).set j (Lb.b bl[j]) = _
  rw [← List.map_set, List.set_getElem_self]

theorem ApartL.push {dn : List Lr} {y : Lr} (h : ApartL dn) (hb : ∀ r ∈ dn, r.ba ≠ y.ba) (hh : ∀ r ∈ dn, r.ha ≠ y.ha) : ApartL (dn ++ [y]) := by
  intro i j r q hij hr hq
  rw [List.getElem?_append] at hr hq
  split at hr
  · split at hq
    · exact h i j r q hij hr hq
    · have e : q = y := by
        rw [List.getElem?_singleton] at hq
        split at hq
        · exact (Option.some.inj hq).symm
        · cases hq
      subst e
      exact ⟨hb r (List.mem_of_getElem? hr), hh r (List.mem_of_getElem? hr)⟩
  · have e : r = y := by
      rw [List.getElem?_singleton] at hr
      split at hr
      · exact (Option.some.inj hr).symm
      · cases hr
    subst e
    split at hq
    · exact ⟨fun e => hb q (List.mem_of_getElem? hq) e.symm, fun e => hh q (List.mem_of_getElem? hq) e.symm⟩
    · rw [List.getElem?_singleton] at hr hq
      split at hr
      · split at hq
        · omega
        · cases hq
      · cases hr

/-- A row is done. -/
theorem Mid.done {w W : World} {g o gB gP j k : Nat} {dn l : List Lr} {bl : List Lb} {hd : List Pt} {x : Lr} (h : Mid w W g o gB gP j dn (l.drop (k + 1)) bl hd) (hj : bl.length ≤ j) (hdn : dn.length = k) (hrw : dn.map Lr.rw = (l.take k).map Lr.rw) (hx : l[k]? = some x) (hb : bl.map Lb.b = x.bs.map Lb.b) (hh : hd = x.hd) (hm : hd.length ≤ 40) (ap : ApartL dn) :
    ∃ y, (dn ++ [y]).length = k + 1 ∧ (dn ++ [y]).map Lr.rw = (l.take (k + 1)).map Lr.rw ∧ Blk W g (((dn ++ [y]) ++ l.drop (k + 1)).flatMap Lr.cells) 47 ∧ (∀ r ∈ dn ++ [y], OwnR W w.heap.size r) ∧ ApartL (dn ++ [y]) := by
  refine ⟨midRow gB gP bl hd, by simp [hdn], ?_, by rw [List.append_assoc]; exact h.rows, fun r hr => ?_, ap.push h.newB h.newH⟩
  · rw [List.map_append, hrw, List.take_add_one, hx, List.map_append]
    congr 1
    simp [Lr.rw, hb, hh]
  · rcases List.mem_append.1 hr with hr | hr
    · exact h.own r hr
    · simp only [List.mem_singleton] at hr
      subst hr
      refine ⟨⟨gB, rfl, h.loB, h.bs⟩, rfl, ⟨gP, rfl, ⟨cellsP_length hd, .inr ⟨gP, hd.length, (cellsP hd).toArray, rfl, h.loP, h.hd, Nat.le_refl _, by unfold maxLen; show hd.length ≤ _; omega, by simp [cellsP_length], ?_⟩⟩⟩, fun x hx => by
        obtain ⟨i, hi, rfl⟩ := List.mem_iff_getElem.1 hx
        have hi' : i < bl.length := hi
        exact (h.good i _ (List.getElem?_eq_getElem hi)).2 (by omega)⟩
      rw [List.take_of_length_le (by simp [cellsP_length])]

end Go.Proofs.YtcjdpilmhlfmfaaGreatDoor
