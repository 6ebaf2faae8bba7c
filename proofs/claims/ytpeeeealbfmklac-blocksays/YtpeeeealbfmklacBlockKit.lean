/-
  What the walks over blocks share: four cells written at once, where bits may lie, the first and the last time of a slice of points. No function of the program is named.
-/
import Derived.Test.YtpeeeealbfmklacBlockMath
namespace Go.Proofs.Ytpeeeealbfmklac
open Go.RowKit

theorem Blk.put4 {w : World} {g : Nat} {c0 c1 c2 c3 : Value} {t : TypeId} (h : Blk w g [c0, c1, c2, c3] t) (u0 u1 u2 u3 : Value) :
    Blk ((((w.setCell ⟨g, 0, none⟩ u0).setCell ⟨g, 1, none⟩ u1).setCell ⟨g, 2, none⟩ u2).setCell ⟨g, 3, none⟩ u3) g [u0, u1, u2, u3] t :=
  (((h.set 0 u0).set 1 u1).set 2 u2).set 3 u3

theorem below4 {B : Nat} {w W : World} (h : Below B w W) {g : Nat} (hg : B ≤ g) (u0 u1 u2 u3 : Value) :
    Below B w ((((W.setCell ⟨g, 0, none⟩ u0).setCell ⟨g, 1, none⟩ u1).setCell ⟨g, 2, none⟩ u2).setCell ⟨g, 3, none⟩ u3) :=
  (((h.setCell hg _).setCell hg _).setCell hg _).setCell hg _

/-- Bits lie in no block that holds three numbers and a slice. -/
theorem Sl.offBlock {w : World} {ao : Option Addr} {cap g : Nat} {P : List Bool} {x y z : Int} {a : Option Addr} {n c : Nat} {t : TypeId} (s : Sl w ao cap (P.map Value.bool)) (B : Blk w g [.int .i64 x, .int .i64 y, .int .i64 z, .slice a n c] t) (hP : P ≠ []) : Off g ao := by
  obtain ⟨b, off, rfl, hb, hc⟩ := s.row.at (by simpa using hP)
  intro ad e
  cases e
  intro e
  have e : b = g := e
  subst e
  obtain ⟨p, r, rfl⟩ := List.exists_cons_of_ne_nil hP
  have h0 := hc 0 (.bool p) (by simp)
  rw [Nat.add_zero, B.cell] at h0
  match off, h0 with
  | 0, h0 => simp at h0
  | 1, h0 => simp at h0
  | 2, h0 => simp at h0
  | 3, h0 => simp at h0
  | k + 4, h0 => simp at h0

theorem Sl.put4 {w : World} {ao : Option Addr} {cap g : Nat} {P : List Bool} {x y z : Int} {a : Option Addr} {n c : Nat} {t : TypeId} (s : Sl w ao cap (P.map Value.bool)) (B : Blk w g [.int .i64 x, .int .i64 y, .int .i64 z, .slice a n c] t) (u0 u1 u2 u3 : Value) :
    Sl ((((w.setCell ⟨g, 0, none⟩ u0).setCell ⟨g, 1, none⟩ u1).setCell ⟨g, 2, none⟩ u2).setCell ⟨g, 3, none⟩ u3) ao cap (P.map Value.bool) := by
  by_cases hP : P = []
  · subst hP
    exact ⟨.inl rfl, s.le, s.max, s.nil⟩
  · exact s.off (grownSet (grownSet (grownSet (grownSet (grownRefl _ _) 0 u0) 1 u1) 2 u2) 3 u3) (s.offBlock B hP)

theorem Sl.drewS {w : World} {ao : Option Addr} {cap : Nat} {cs : List Value} (h : Sl w ao cap cs) : Sl w.drew ao cap cs := h.drewN 1

theorem SlP.drewS {w : World} {ao : Option Addr} {cap : Nat} {l : List Pt} (h : SlP w ao cap l) : SlP w.drew ao cap l := h.drewN 1

theorem SlP.first {w : World} {b off cap : Nat} {l : List Pt} (h : SlP w (some ⟨b, off, none⟩) cap l) (hl : 0 < l.length) : w.cell? ⟨b, off, none⟩ = some (.int .i64 (firstT l)) := by
  obtain ⟨x, y, e0, _, hx, _⟩ := h.pt 0 hl
  rw [Nat.zero_mul, Nat.add_zero] at e0
  rw [e0]
  simp [firstT, List.getD, hx]

theorem SlP.last {w : World} {b off cap : Nat} {l : List Pt} (h : SlP w (some ⟨b, off, none⟩) cap l) (hl : 0 < l.length) : w.cell? ⟨b, off + (l.length - 1) * 2, none⟩ = some (.int .i64 (endT l)) := by
  obtain ⟨x, y, e0, _, hx, _⟩ := h.pt (l.length - 1) (by omega)
  rw [e0]
  simp [endT, List.getD, hx]

/-- Three blocks of four cells, laid one behind the other: the second and the third. -/
theorem three (w : World) (x y z : List Value) (t : TypeId) : Blk (((w.alloc (.cells x.toArray t)).alloc (.cells y.toArray t)).alloc (.cells z.toArray t)) (w.heap.size + 1) y t ∧
    Blk (((w.alloc (.cells x.toArray t)).alloc (.cells y.toArray t)).alloc (.cells z.toArray t)) (w.heap.size + 2) z t ∧ Below w.heap.size w (((w.alloc (.cells x.toArray t)).alloc (.cells y.toArray t)).alloc (.cells z.toArray t)) :=
  ⟨(Blk.laid _ y t _ (by simp)).alc _, Blk.laid _ z t _ (by simp), below3 w _ _ _⟩

theorem ptsL_pos {b : Bk} (h : ptsE b = 0) : 0 < (ptsL b).length := by
  unfold ptsL
  rw [if_pos h]
  unfold ptsE at h
  split at h
  · split at h
    · rename_i hf
      exact (of_decide_eq_true hf : 0 < _ ∧ _).1
    · cases h
  · rename_i hn
    exact absurd h hn

theorem sizePt : (Try.prog.info? 36).map (·.size) = some 2 := by kernel_rfl

/-- A part of a slice of points, as the slice expression makes it. -/
theorem SlP.part {w : World} {ao : Option Addr} {cap : Nat} {l : List Pt} (h : SlP w ao cap l) (p q : Nat) (hpq : p ≤ q) (hq : q ≤ l.length) : SlP w (if cap = p then ao else Option.map (fun x => x.add (p * 2)) ao) (cap - p) ((l.take q).drop p) := by
  have hle := h.le
  have hlen : ((l.take q).drop p).length = q - p := by rw [List.length_drop, List.length_take]; omega
  refine ⟨?_, by rw [hlen]; omega, by have := h.max; omega, ?_⟩
  · by_cases he : p = q
    · left
      have e : (l.take q).drop p = [] := List.eq_nil_of_length_eq_zero (by rw [hlen]; omega)
      rw [e]
      rfl
    · right
      obtain ⟨b, off, rfl, hb, hc⟩ := (h.front q).row.at (fun e => by
        have h0 := cellsP_nil e
        have : (l.take q).length = 0 := by rw [h0]; rfl
        rw [List.length_take] at this
        omega)
      rw [if_neg (by omega)]
      refine ⟨b, off + p * 2, by rw [Option.map_some, Addr.add_lit], hb, fun i v hv => ?_⟩
      rw [← cellsP_drop, List.getElem?_drop] at hv
      rw [Nat.add_assoc]
      exact hc _ _ hv
  · intro e
    by_cases hc : cap = p
    · omega
    · rw [if_neg hc] at e
      have := h.nil (by simpa using e)
      omega

/-- A block of the call's own that holds a block of points, and its bits. -/
structure Held (w : World) (g : Nat) (b : Bk) (ao : Option Addr) (cap : Nat) : Prop where
  blk : Blk w g (b.cells ao cap) 25
  bits : Sl w ao cap (b.bits.map Value.bool)

theorem Held.call {w w' : World} {g : Nat} {b : Bk} {ao : Option Addr} {cap : Nat} (h : Held w g b ao cap) (hb : Below w.heap.size w w') : Held w' g b ao cap :=
  ⟨h.blk.keep hb h.blk.lt, h.bits.call hb⟩

theorem Held.alloc {w : World} {g : Nat} {b : Bk} {ao : Option Addr} {cap : Nat} (h : Held w g b ao cap) (o : Obj) : Held (w.alloc o) g b ao cap :=
  ⟨h.blk.alc o, h.bits.alloc o⟩

theorem Held.drewN {w : World} {g : Nat} {b : Bk} {ao : Option Addr} {cap : Nat} (h : Held w g b ao cap) (n : Nat) : Held (w.drewN n) g b ao cap := ⟨h.blk, h.bits.drewN n⟩

theorem Held.cells {w : World} {g : Nat} {b : Bk} {ao : Option Addr} {cap : Nat} (h : Held w g b ao cap) :
    w.cell? ⟨g, 0, none⟩ = some (.int .i64 b.n) ∧ w.cell? ⟨g, 1, none⟩ = some (.int .i64 b.fr) ∧ w.cell? ⟨g, 2, none⟩ = some (.int .i64 b.to) ∧ w.cell? ⟨g, 3, none⟩ = some (.slice ao b.bits.length cap) :=
  ⟨h.blk.cell 0, h.blk.cell 1, h.blk.cell 2, h.blk.cell 3⟩

/-- A block that was just laid, with its bits. -/
theorem Held.laid {w : World} (b : Bk) {ao : Option Addr} {cap : Nat} (s : Sl w ao cap (b.bits.map Value.bool)) : Held (w.alloc (.cells #[.int .i64 b.n, .int .i64 b.fr, .int .i64 b.to, .slice ao b.bits.length cap] 25)) w.heap.size b ao cap :=
  ⟨Blk.laid w (b.cells ao cap) _ _ rfl, s.alloc _⟩

theorem belowNew {w W : World} (h : Below w.heap.size w W) (o : Obj) : Below w.heap.size w (W.alloc o) := h.alloc h.size o

end Go.Proofs.Ytpeeeealbfmklac
