/-
  Writing a block that holds slices alone leaves every row as it was. No function of the program is named.
-/
import Derived.Test.YtjjfgmcgonkicaaGreatDoorP14
namespace Go.Proofs.YtjjfgmcgonkicaaGreatDoor
open Go.RowKit

def OnlySl (cs : List Value) : Prop := ∀ v ∈ cs, ∃ a n c, v = Value.slice a n c

theorem OnlySl.noBool {cs : List Value} (h : OnlySl cs) : ∀ v ∈ cs, ∀ b, v ≠ .bool b := by
  intro v hv b e
  obtain ⟨a, n, c, rfl⟩ := h v hv
  cases e

theorem onlyRows (l : List Lr) : OnlySl (l.flatMap Lr.cells) := by
  intro v hv
  obtain ⟨r, _, hr⟩ := List.mem_flatMap.1 hv
  simp only [Lr.cells, List.mem_cons, List.not_mem_nil, or_false] at hr
  rcases hr with rfl | rfl <;> exact ⟨_, _, _, rfl⟩

theorem onlyOne (a : Option Addr) (n c : Nat) : OnlySl [.slice a n c] := by
  intro v hv
  simp only [List.mem_singleton] at hv
  exact ⟨_, _, _, hv⟩

/-- Cells that begin with a number do not lie in a block of slices alone. -/
theorem Row.offSl {w : World} {ao : Option Addr} {g : Nat} {cs ds : List Value} {t : TypeId} {x : Int} {k : IntKind} (h : Row w ao (.int k x :: ds)) (B : Blk w g cs t) (hs : OnlySl cs) : Off g ao := by
  obtain ⟨b, off, rfl, hb, hc⟩ := h.at (by simp)
  intro ad e
  cases e
  intro e
  have e : b = g := e
  subst e
  have h0 := hc 0 (.int k x) (by simp)
  rw [B.cell] at h0
  obtain ⟨a, n, c, e⟩ := hs _ (List.mem_of_getElem? h0)
  cases e

theorem Lr.Good.offSl {w w' : World} {r : Lr} {g : Nat} {cs : List Value} {t : TypeId} (h : r.Good w) (hg : w.grownBy w' (some g)) (B : Blk w g cs t) (hs : OnlySl cs) : r.Good w' := by
  refine ⟨⟨⟨?_, h.bs.sl.le, h.bs.sl.max, h.bs.sl.nil⟩, fun x hx => (h.bs.good x hx).off hg B hs.noBool⟩, ⟨?_, h.hd.le, h.hd.max, h.hd.nil⟩, h.few, h.hfew⟩
  · have := h.bs.sl.row
    cases hb : r.bs with
    | nil => exact .inl rfl
    | cons x q =>
      rw [hb] at this
      exact this.off hg (Row.offSl (ds := _) this B hs)
  · have := h.hd.row
    cases hb : r.hd with
    | nil => exact .inl rfl
    | cons x q =>
      rw [hb] at this
      exact this.off hg (Row.offSl (ds := _) this B hs)

/-- Another block of slices alone is written. -/
theorem FinS.offSl {w w' : World} {base g g' : Nat} {rs : List Lr} {cs : List Value} {t : TypeId} (h : FinS w base g rs) (hg : w.grownBy w' (some g')) (B : Blk w g' cs t) (hs : OnlySl cs) (hne : g' ≠ g) : FinS w' base g rs :=
  ⟨h.rows.grown hg (fun k e => by obtain rfl := Option.some.inj e; exact hne), h.lo, fun r hr => (h.good r hr).offSl hg B hs⟩

/-- Cells of rows do not lie in a block of another type: here, rows that were handed on stay while the answer's cell is written. -/
theorem SlR.written {w : World} {ao : Option Addr} {cap g i : Nat} {rs : List Lr} {cs : List Value} {t : TypeId} {u : Value} (h : SlR w ao cap rs) (hs : OnlySl cs) (B : Blk w g cs t) (hne : Off g ao) : SlR (w.setCell ⟨g, i, none⟩ u) ao cap rs := by
  have grow : w.grownBy (w.setCell ⟨g, i, none⟩ u) (some g) := grownSet (grownRefl w _) _ _
  exact ⟨⟨h.sl.row.off grow hne, h.sl.le, h.sl.max, h.sl.nil⟩, fun r hr => (h.good r hr).offSl grow B hs⟩

theorem setFirst {α : Type} {f : α → List Value} (x y : α) (u v : Value) (hx : f x = [u, v]) (z : Value) (hy : f y = [z, v]) (hf : ∀ x, (f x).length = 2) : ∀ (l : List α) (k : Nat), l[k]? = some x → (l.flatMap f).set (k * 2) z = (l.set k y).flatMap f
  | [], k, h => by simp at h
  | q :: r, 0, h => by
    simp at h
    subst h
    rw [List.flatMap_cons, List.set_cons_zero, List.flatMap_cons, hx, hy]
    rfl
  | q :: r, k + 1, h => by
    have ih := setFirst x y u v hx z hy hf r k (by simpa using h)
    rw [List.flatMap_cons, List.set_cons_succ, List.flatMap_cons, ← ih, List.set_append_right _ _ (by rw [hf]; omega), hf, show (k + 1) * 2 - 2 = k * 2 by omega]

theorem setSecond {α : Type} {f : α → List Value} (x y : α) (u v : Value) (hx : f x = [u, v]) (z : Value) (hy : f y = [u, z]) (hf : ∀ x, (f x).length = 2) : ∀ (l : List α) (k : Nat), l[k]? = some x → (l.flatMap f).set (k * 2 + 1) z = (l.set k y).flatMap f
  | [], k, h => by simp at h
  | q :: r, 0, h => by
    simp at h
    subst h
    rw [List.flatMap_cons, List.set_cons_zero, List.flatMap_cons, hx, hy]
    rfl
  | q :: r, k + 1, h => by
    have ih := setSecond x y u v hx z hy hf r k (by simpa using h)
    rw [List.flatMap_cons, List.set_cons_succ, List.flatMap_cons, ← ih, List.set_append_right _ _ (by rw [hf]; omega), hf, show (k + 1) * 2 + 1 - 2 = k * 2 + 1 by omega]

def chE (l : List Rw) (E : Int) : Int := if shelfE l = 0 then E else shelfE l

def chL (l : List Rw) (E : Int) (L : List Rw) : List Rw := if chE l E = 0 then L else []

/-- The heads lie in memory of the call's own. -/
def HdLo (base : Nat) (rs : List Lr) : Prop := ∀ r ∈ rs, ∀ ad, r.ha = some ad → base ≤ ad.block

theorem HdLo.mono {base base' : Nat} {rs : List Lr} (h : HdLo base rs) (hb : base' ≤ base) : HdLo base' rs := fun r hr ad e => Nat.le_trans hb (h r hr ad e)

theorem HdLo.set {base : Nat} {rs : List Lr} (h : HdLo base rs) (k : Nat) (y : Lr) (hy : ∀ ad, y.ha = some ad → base ≤ ad.block) : HdLo base (rs.set k y) := by
  intro r hr
  rcases List.mem_or_eq_of_mem_set hr with hr | rfl
  · exact h r hr
  · exact hy

theorem HdLo.nil (base : Nat) : HdLo base [] := fun _ hr => (by cases hr)

theorem ownHdLo {w : World} {base : Nat} {r : Lr} (h : ∃ hg, r.ha = some ⟨hg, 0, none⟩ ∧ w.ownsRow base 56 2 (.slice (some ⟨hg, 0, none⟩) r.hd.length r.hc) r.hd.length (cellsP r.hd)) : ∀ ad, r.ha = some ad → base ≤ ad.block := by
  intro ad e
  obtain ⟨hg, e2, o⟩ := h
  obtain ⟨cur, B, lo⟩ := ownBlk o
  rw [e2] at e
  obtain rfl := Option.some.inj e
  exact lo

/-- What a function that works on a copy of a shelf keeps: it writes nothing below its base; where it answers 0 the rows are L. -/
def Does (E : Int) (L : List Rw) (base box g : Nat) (W : World) (e : Ending) (W' : World) : Prop :=
  e = .returned (.int .i64 E) ∧ Below base W W' ∧ (E = 0 → ∃ rs', FinS W' base g rs' ∧ (rs'.length = 4 ∧ HdLo base rs') ∧ rs'.map Lr.rw = L ∧ Blk W' box [.slice (some ⟨g, 0, none⟩) 4 4] 24)

/-- A copy of the shelf l, of the call's own from base on. -/
structure Copied (l : List Rw) (base box g : Nat) (rs : List Lr) (W : World) : Prop where
  out : Blk W box [.slice (some ⟨g, 0, none⟩) 4 4] 24
  lo : base ≤ box
  own : OwnG W base g rs
  same : rs.map Lr.rw = l

theorem Copied.hdLo {l : List Rw} {base box g : Nat} {rs : List Lr} {W : World} (h : Copied l base box g rs W) : HdLo base rs := fun r hr => ownHdLo (h.own.each r hr).hd

theorem Copied.call {l : List Rw} {base box g : Nat} {rs : List Lr} {W W' : World} (h : Copied l base box g rs W) (hb : Below W.heap.size W W') : Copied l base box g rs W' :=
  ⟨h.out.keep hb h.out.lt, h.lo, h.own.call hb, h.same⟩

theorem Copied.drew {l : List Rw} {base box g : Nat} {rs : List Lr} {W : World} (h : Copied l base box g rs W) : Copied l base box g rs W.drew :=
  h.call (belowDrew (Below.refl W.heap.size W))

theorem Copied.alloc {l : List Rw} {base box g : Nat} {rs : List Lr} {W : World} (h : Copied l base box g rs W) (o : Obj) : Copied l base box g rs (W.alloc o) :=
  h.call ((Below.refl W.heap.size W).alloc (Nat.le_refl _) o)

theorem Copied.base {l : List Rw} {base box g : Nat} {rs : List Lr} {W : World} (h : Copied l base box g rs W) : base ≤ W.heap.size := by
  have h1 := h.own.lo
  have h2 := h.own.rows.lt
  omega

/-- One row, with its cells, of a copy. -/
theorem Copied.row {l : List Rw} {base box g : Nat} {rs : List Lr} {W : World} (h : Copied l base box g rs W) (hR : Right l) (k : Nat) (hk : k < 4) :
    ∃ r, rs[k]? = some r ∧ r.rw = l.getD k rw0 ∧ W.cell? ⟨g, k * 2, none⟩ = some (.slice r.ba r.bs.length r.bc) ∧ W.cell? ⟨g, k * 2 + 1, none⟩ = some (.slice r.ha r.hd.length r.hc) ∧ OwnR W base r ∧ r.bs.length ≤ 8 ∧ r.hd.length ≤ 40 := by
  have hl : rs.length = 4 := by rw [← hR.four, ← h.same, List.length_map]
  obtain ⟨r, hr⟩ : ∃ r, rs[k]? = some r := ⟨_, List.getElem?_eq_getElem (by omega)⟩
  have hrw : r.rw = l.getD k rw0 := by rw [← h.same]; simp [List.getD, hr]
  obtain ⟨e0, e1⟩ := h.own.at k r hr
  have few := hR.few r.rw (by rw [← h.same]; exact List.mem_map.2 ⟨r, List.mem_of_getElem? hr, rfl⟩)
  exact ⟨r, hr, hrw, e0, e1, h.own.each r (List.mem_of_getElem? hr), by simpa [Lr.rw] using few.1, few.2⟩

theorem ApartL.set {rs : List Lr} (h : ApartL rs) (k : Nat) (y : Lr) (hb : ∀ j q, j ≠ k → rs[j]? = some q → q.ba ≠ y.ba ∧ q.ha ≠ y.ha) : ApartL (rs.set k y) := by
  intro i j r q hij hr hq
  rw [List.getElem?_set] at hr hq
  split at hr
  · rename_i e
    subst e
    split at hr
    · obtain rfl := Option.some.inj hr
      split at hq
      · rename_i e
        exact absurd e hij
      · obtain ⟨h1, h2⟩ := hb j q (fun e => hij e.symm) hq
        exact ⟨fun e => h1 e.symm, fun e => h2 e.symm⟩
    · cases hr
  · split at hq
    · rename_i e
      subst e
      split at hq
      · obtain rfl := Option.some.inj hq
        exact hb i r hij hr
      · cases hq
    · exact h i j r q hij hr hq

/-- A point stands behind a row's head: the head has grown, the row leads to it. -/
theorem Copied.put {l : List Rw} {base box g hg h2 c2 k m : Nat} {rs : List Lr} {W w2 : World} {r : Lr} {p : Pt} (C : Copied l base box g rs W) (hr : rs[k]? = some r) (hm : m = r.hd.length) (hh : r.ha = some ⟨hg, 0, none⟩)
    (grow : W.grownBy w2 (some hg)) (own : w2.ownsRow base 56 2 (.slice (some ⟨h2, 0, none⟩) (m + 1) c2) (m + 1) (cellsP r.hd ++ [.int .i64 p.1, .int .i64 p.2])) (hw : h2 = hg ∨ W.heap.size ≤ h2) :
    Copied (l.set k ⟨r.rw.blocks, r.hd ++ [p]⟩) base box g (rs.set k ⟨r.bs, r.ba, r.bc, r.hd ++ [p], some ⟨h2, 0, none⟩, c2⟩) (w2.setCell ⟨g, k * 2 + 1, none⟩ (.slice (some ⟨h2, 0, none⟩) (m + 1) c2)) ∧
      Below base W (w2.setCell ⟨g, k * 2 + 1, none⟩ (.slice (some ⟨h2, 0, none⟩) (m + 1) c2)) := by
  have oR := C.own.each r (List.mem_of_getElem? hr)
  obtain ⟨hg', e2, o0⟩ := oR.hd
  rw [hh] at e2
  simp only [Option.some.injEq, Addr.mk.injEq, and_true] at e2
  subst e2
  obtain ⟨cur, BH, lo⟩ := ownBlk o0
  have ne : ∀ {n : Nat} {cs : List Value} {t : TypeId}, Blk W n cs t → t ≠ 56 → ∀ i, some hg = some i → i ≠ n := by
    intro n cs t B ht i e
    obtain rfl := Option.some.inj e
    rintro rfl
    exact ht (blkType B BH)
  have G2 := C.own.rows.grown grow (ne C.own.rows (by decide))
  have O2 := C.out.grown grow (ne C.out (by decide))
  have grow2 : w2.grownBy (w2.setCell ⟨g, k * 2 + 1, none⟩ (.slice (some ⟨h2, 0, none⟩) (m + 1) c2)) (some g) := grownSet (grownRefl w2 _) _ _
  have hgh : h2 ≠ g := by
    obtain ⟨cur2, B2, _⟩ := ownBlk own
    rintro rfl
    exact absurd (blkType B2 G2) (by decide)
  have cat : cellsP r.hd ++ [.int .i64 p.1, .int .i64 p.2] = cellsP (r.hd ++ [p]) := by rw [cellsP_append]; rfl
  have lenE : (r.hd ++ [p]).length = m + 1 := by rw [List.length_append, hm]; rfl
  have grew : ∀ q : Lr, OwnR W base q → q.ha ≠ some ⟨hg, 0, none⟩ → OwnR w2 base q := fun q hq hne => hq.wrote grow BH (by decide) (hq.notB BH (by decide)) hne
  have oth : ∀ q : Lr, OwnR w2 base q → OwnR (w2.setCell ⟨g, k * 2 + 1, none⟩ (.slice (some ⟨h2, 0, none⟩) (m + 1) c2)) base q := fun q hq => hq.wrote grow2 G2 (by decide) (hq.notB G2 (by decide)) (hq.notH G2 (by decide))
  refine ⟨⟨?_, C.lo, ⟨?_, C.own.lo, ?_, ?_⟩, ?_⟩, ?_⟩
  · refine O2.grown grow2 (fun i e => ?_)
    obtain rfl := Option.some.inj e
    rintro rfl
    exact absurd (blkType O2 G2) (by decide)
  · have B := G2.set (k * 2 + 1) (.slice (some ⟨h2, 0, none⟩) (m + 1) c2)
    rw [setSecond r ⟨r.bs, r.ba, r.bc, r.hd ++ [p], some ⟨h2, 0, none⟩, c2⟩ _ _ rfl _ (by unfold Lr.cells; simp only [lenE]) Lr.two rs k hr] at B
    exact B
  · intro q hq
    obtain ⟨j, hj, e⟩ := List.mem_iff_getElem.1 hq
    have hq' : (rs.set k ⟨r.bs, r.ba, r.bc, r.hd ++ [p], some ⟨h2, 0, none⟩, c2⟩)[j]? = some q := by rw [List.getElem?_eq_getElem hj, e]
    rw [List.getElem?_set] at hq'
    split at hq'
    · split at hq'
      · obtain rfl := Option.some.inj hq'
        obtain ⟨bg, e1, l1, B1⟩ := oR.bs
        have nb2 := ne B1 (by decide)
        have B2 := B1.grown grow nb2
        have B3 : Blk (w2.setCell ⟨g, k * 2 + 1, none⟩ (.slice (some ⟨h2, 0, none⟩) (m + 1) c2)) bg (r.bs.flatMap Lb.cells) 105 := B2.grown grow2 (fun i e => by
          obtain rfl := Option.some.inj e
          rintro rfl
          exact absurd (blkType B2 G2) (by decide))
        refine ⟨⟨bg, e1, l1, B3⟩, oR.bc, ⟨h2, rfl, ?_⟩, fun x hx => ((oR.good x hx).wrote grow BH (by decide)).wrote grow2 G2 (by decide)⟩
        show World.ownsRow _ base _ 2 (.slice (some ⟨h2, 0, none⟩) (r.hd ++ [p]).length c2) (r.hd ++ [p]).length (cellsP (r.hd ++ [p]))
        rw [lenE, ← cat]
        exact own.kept grow2 (.inr (fun e => hgh (Option.some.inj e)))
      · cases hq'
    · rename_i hne
      have oq := C.own.each q (List.mem_of_getElem? hq')
      exact oth q (grew q oq (by rw [← hh]; exact fun e => (C.own.ap j k q r (fun e => hne e.symm) hq' hr).2 e))
  · refine C.own.ap.set k _ (fun j q hj hq => ?_)
    refine ⟨(C.own.ap j k q r hj hq hr).1, ?_⟩
    show q.ha ≠ some ⟨h2, 0, none⟩
    rcases hw with rfl | hw
    · rw [← hh]
      exact (C.own.ap j k q r hj hq hr).2
    · obtain ⟨hq2, eq, oq⟩ := (C.own.each q (List.mem_of_getElem? hq)).hd
      obtain ⟨cur3, B3, _⟩ := ownBlk oq
      have := B3.lt
      rw [eq]
      intro e
      simp only [Option.some.injEq, Addr.mk.injEq, and_true] at e
      omega
  · rw [List.map_set, C.same]
    rfl
  · have b1 : Below base W w2 := (Below.refl base W).grown grow C.base (fun i e => by obtain rfl := Option.some.inj e; exact lo)
    exact b1.setCell C.own.lo _

theorem FinS.drew {w : World} {base g : Nat} {rs : List Lr} (h : FinS w base g rs) : FinS w.drew base g rs := h.call (belowDrew (Below.refl w.heap.size w))

/-- The first cell of a row is written: its blocks. -/
theorem FinS.first {w : World} {base g k n : Nat} {rs : List Lr} {r : Lr} (h : FinS w base g rs) (hr : rs[k]? = some r) (y : Lr) (hy : y.Good w) (hn : n = y.bs.length) (e1 : y.ha = r.ha) (e2 : y.hd.length = r.hd.length) (e3 : y.hc = r.hc) :
    FinS (w.setCell ⟨g, k * 2, none⟩ (.slice y.ba n y.bc)) base g (rs.set k y) := by
  subst hn
  have B2 := h.rows.set (k * 2) (.slice y.ba y.bs.length y.bc)
  rw [setFirst r y _ _ rfl _ (by unfold Lr.cells; rw [e1, e2, e3]) Lr.two rs k hr] at B2
  have grow : w.grownBy (w.setCell ⟨g, k * 2, none⟩ (.slice y.ba y.bs.length y.bc)) (some g) := grownSet (grownRefl w (some g)) _ _
  refine ⟨B2, h.lo, fun q hq => ?_⟩
  rcases List.mem_or_eq_of_mem_set hq with hq | rfl
  · exact (h.good q hq).offSl grow h.rows (onlyRows rs)
  · exact hy.offSl grow h.rows (onlyRows rs)

/-- The second cell of a row is written: its head. -/
theorem FinS.second {w : World} {base g k n : Nat} {rs : List Lr} {r : Lr} (h : FinS w base g rs) (hr : rs[k]? = some r) (y : Lr) (hy : y.Good w) (hn : n = y.hd.length) (e1 : y.ba = r.ba) (e2 : y.bs.length = r.bs.length) (e3 : y.bc = r.bc) :
    FinS (w.setCell ⟨g, k * 2 + 1, none⟩ (.slice y.ha n y.hc)) base g (rs.set k y) := by
  subst hn
  have B2 := h.rows.set (k * 2 + 1) (.slice y.ha y.hd.length y.hc)
  rw [setSecond r y _ _ rfl _ (by unfold Lr.cells; rw [e1, e2, e3]) Lr.two rs k hr] at B2
  have grow : w.grownBy (w.setCell ⟨g, k * 2 + 1, none⟩ (.slice y.ha y.hd.length y.hc)) (some g) := grownSet (grownRefl w (some g)) _ _
  refine ⟨B2, h.lo, fun q hq => ?_⟩
  rcases List.mem_or_eq_of_mem_set hq with hq | rfl
  · exact (h.good q hq).offSl grow h.rows (onlyRows rs)
  · exact hy.offSl grow h.rows (onlyRows rs)

theorem Copied.fin {l : List Rw} {base box g : Nat} {rs : List Lr} {W : World} (h : Copied l base box g rs W) (hR : Right l) : FinS W base g rs :=
  h.own.fin (fun r hr => by
    have := hR.few r.rw (by rw [← h.same]; exact List.mem_map.2 ⟨r, hr, rfl⟩)
    unfold Lr.rw at this
    simp only [List.length_map] at this
    omega)

theorem Copied.boxNe {l : List Rw} {base box g : Nat} {rs : List Lr} {W : World} (h : Copied l base box g rs W) : box ≠ g := by
  rintro rfl
  exact absurd (blkType h.out h.own.rows) (by decide)

end Go.Proofs.YtjjfgmcgonkicaaGreatDoor
