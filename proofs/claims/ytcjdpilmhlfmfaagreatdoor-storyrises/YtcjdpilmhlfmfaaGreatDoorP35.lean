/-
  A world in memory: where its parts lie; a world in a box of its own, with its readers in a block of theirs; how that stays.
-/
import Derived.Test.YtcjdpilmhlfmfaaGreatDoorP29
import Derived.Test.YtcjdpilmhlfmfaaGreatDoorP30
import Derived.Test.YtcjdpilmhlfmfaaGreatDoorP34
import Derived.Test.YtcjdpilmhlfmfaaGreatDoorP06
import Derived.Test.YtcjdpilmhlfmfaaGreatDoorP10
import Derived.Test.YtcjdpilmhlfmfaaGreatDoorP07
import Derived.Test.YtcjdpilmhlfmfaaGreatDoorP01
import Derived.Test.YtcjdpilmhlfmfaaGreatDoorP02
namespace Go.Proofs.YtcjdpilmhlfmfaaGreatDoor
open Go.RowKit
open Go.Lib (byteCells)

/-- Where a world's parts lie. -/
structure Pw where
  sa : Option Addr
  sn : Nat
  sG : Nat
  a1 : Option Addr
  n1 : Nat
  c1 : Nat
  a2 : Option Addr
  n2 : Nat
  c2 : Nat
  ra : Option Addr
  rn : Nat
  rc : Nat

def Pw.cells (p : Pw) (up : Bool) : List Value := [.slice p.sa p.sn p.sG, .slice p.a1 p.n1 p.c1, .slice p.a2 p.n2 p.c2, .bool up, .slice p.ra p.rn p.rc]
def Pw.val (p : Pw) (up : Bool) : Value := .agg #[.slice p.sa p.sn p.sG, .slice p.a1 p.n1 p.c1, .slice p.a2 p.n2 p.c2, .bool up, .slice p.ra p.rn p.rc]
def pw0 : Pw := ⟨none, 0, 0, none, 0, 0, none, 0, 0, none, 0, 0⟩

structure IsW (W : World) (p : Pw) (x : Wd) : Prop where
  es : p.sn = x.c.length
  e1 : p.n1 = x.d.safe.length
  e2 : p.n2 = x.d.wait.length
  er : p.rn = x.rd.length
  s : IsS W p.sa p.sG x.c
  s1 : Sl W p.a1 p.c1 (byteCells x.d.safe)
  s2 : Sl W p.a2 p.c2 (byteCells x.d.wait)
  r : Sl W p.ra p.rc (x.rd.map (Value.int .i64))

theorem IsW.keep {W W' : World} {p : Pw} {x : Wd} {B : Nat} (h : IsW W p x) (hb : Below B W W') (hB : W.heap.size ≤ B) : IsW W' p x :=
  ⟨h.es, h.e1, h.e2, h.er, h.s.keep hb hB, h.s1.keep hb hB, h.s2.keep hb hB, h.r.keep hb hB⟩
theorem IsW.call {W W' : World} {p : Pw} {x : Wd} (h : IsW W p x) (hb : Below W.heap.size W W') : IsW W' p x := h.keep hb (Nat.le_refl _)
theorem IsW.alloc {W : World} {p : Pw} {x : Wd} (h : IsW W p x) (o : Obj) : IsW (W.alloc o) p x := h.call ((Below.refl _ _).alloc (Nat.le_refl _) o)
theorem IsW.nil (W : World) : IsW W pw0 wd0 := ⟨rfl, rfl, rfl, rfl, IsS.none W, Sl.ofNil W, Sl.ofNil W, Sl.ofNil W⟩

/-- Cells do not lie in a block of fewer cells. -/
theorem Row.offLong {w : World} {ao : Option Addr} {g : Nat} {cs ds : List Value} {t : TypeId} (h : Row w ao cs) (B : Blk w g ds t) (hl : ds.length < cs.length) : Off g ao := by
  obtain ⟨b, off, rfl, hb, hc⟩ := h.at (by intro e; rw [e] at hl; simp at hl)
  intro ad e
  cases e
  intro e
  have e : b = g := e
  subst e
  have h0 := hc (cs.length - 1) _ (List.getElem?_eq_getElem (by omega))
  rw [B.cell] at h0
  have := (List.getElem?_eq_some_iff.1 h0).1
  omega

/-- Cells one of which is not in a block do not lie in it. -/
theorem Row.offKind {w : World} {ao : Option Addr} {g : Nat} {cs ds : List Value} {t : TypeId} (h : Row w ao cs) (B : Blk w g ds t) {i : Nat} {v : Value} (hv : cs[i]? = some v) (hn : v ∉ ds) : Off g ao := by
  obtain ⟨b, off, rfl, hb, hc⟩ := h.at (by intro e; rw [e] at hv; simp at hv)
  intro ad e
  cases e
  intro e
  have e : b = g := e
  subst e
  have h0 := hc i _ hv
  rw [B.cell] at h0
  exact hn (List.mem_of_getElem? h0)

/-- Two bools one behind the other do not lie in a block that has but one. -/
theorem Row.offBools {w : World} {ao : Option Addr} {g : Nat} {cs : List Value} {t : TypeId} {a1 a2 a3 a4 : Option Addr} {n1 n2 n3 n4 c1 c2 c3 c4 : Nat} {u b0 b1 : Bool} (h : Row w ao cs) (B : Blk w g [.slice a1 n1 c1, .slice a2 n2 c2, .slice a3 n3 c3, .bool u, .slice a4 n4 c4] t) (h0 : cs[0]? = some (.bool b0)) (h1 : cs[1]? = some (.bool b1)) : Off g ao := by
  obtain ⟨b, off, rfl, hb, hc⟩ := h.at (by intro e; rw [e] at h0; simp at h0)
  intro ad e
  cases e
  intro e
  have e : b = g := e
  subst e
  have k0 := hc 0 _ h0
  have k1 := hc 1 _ h1
  rw [B.cell] at k0 k1
  match off, k0, k1 with
  | 0, k0, _ => simp at k0
  | 1, k0, _ => simp at k0
  | 2, k0, _ => simp at k0
  | 3, _, k1 => simp at k1
  | 4, k0, _ => simp at k0
  | n + 5, k0, _ => simp at k0

theorem bits_eight {b : Bk} (h : ptsE b = 0) : 8 ≤ b.bits.length := by
  unfold ptsE at h
  split at h
  · rename_i hu
    split at h
    · rename_i hf
      obtain ⟨k1, k2, k3⟩ := unpack_pack hu
      unfold fitsB at hf
      have hpos := (of_decide_eq_true hf).1
      obtain ⟨c, e, e1, _⟩ := begins k1 0
      rw [k2] at e
      rw [e, List.length_append]
      omega
    · cases h
  · rename_i hu
    exact absurd h hu

/-- A right shelf stays while a world's box is written. -/
theorem SlR.boxW {w w' : World} {a : Option Addr} {G g : Nat} {rs : List Lr} {t : TypeId} {a1 a2 a3 a4 : Option Addr} {n1 n2 n3 n4 c1 c2 c3 c4 : Nat} {u : Bool} (h : SlR w a G rs) (hz : shelfE (rs.map Lr.rw) = 0) (B : Blk w g [.slice a1 n1 c1, .slice a2 n2 c2, .slice a3 n3 c3, .bool u, .slice a4 n4 c4] t) (hg : w.grownBy w' (some g)) : SlR w' a G rs := by
  have h4 := right_len hz
  rw [List.length_map] at h4
  have hl := flat_length Lr.two rs
  refine ⟨⟨h.sl.row.off hg (h.sl.row.offLong B (by rw [hl, h4]; simp)), h.sl.le, h.sl.max, h.sl.nil⟩, fun r hr => ?_⟩
  have good := h.good r hr
  have hrow := (shelfE_mem hz).2 r.rw (List.mem_map.2 ⟨r, hr, rfl⟩)
  refine ⟨⟨⟨?_, good.bs.sl.le, good.bs.sl.max, good.bs.sl.nil⟩, fun x hx => ?_⟩, ⟨?_, good.hd.le, good.hd.max, good.hd.nil⟩, good.few, good.hfew⟩
  · by_cases hb : r.bs = []
    · rw [hb]; exact .inl rfl
    · obtain ⟨y, q, hy⟩ := List.exists_cons_of_ne_nil hb
      exact good.bs.sl.row.off hg (good.bs.sl.row.offKind B (i := 0) (v := .int .i64 y.b.n) (by rw [hy]; rfl) (by simp))
  · have gx := good.bs.good x hx
    have hp : ptsE x.b = 0 := blksE_mem (rowE_zero hrow).2.1 x.b (List.mem_map.2 ⟨x, hx, rfl⟩)
    have h8 := bits_eight hp
    refine ⟨gx.bits.off hg ?_, gx.few⟩
    match hbits : x.b.bits, h8 with
    | b0 :: b1 :: q, _ =>
      have := gx.bits.row
      rw [hbits] at this
      exact this.offBools B (b0 := b0) (b1 := b1) rfl rfl
  · by_cases hb : r.hd = []
    · rw [hb]; exact .inl rfl
    · obtain ⟨y, q, hy⟩ := List.exists_cons_of_ne_nil hb
      exact good.hd.row.off hg (good.hd.row.offKind B (i := 0) (v := .int .i64 y.1) (by rw [hy]; rfl) (by simp))

/-- A shelf none of whose heads lies in one of some blocks. -/
structure IsSO (P : Nat → Prop) (W : World) (a : Option Addr) (G : Nat) (C : List Rw) : Prop where
  ex : ∃ rs : List Lr, rs.map Lr.rw = C ∧ SlR W a G rs ∧ ∀ r ∈ rs, r.hd ≠ [] → ∀ q, P q → Off q r.ha

theorem IsSO.is {P : Nat → Prop} {W : World} {a : Option Addr} {G : Nat} {C : List Rw} (k : IsSO P W a G C) : IsS W a G C := by
  obtain ⟨rs, e, s, _⟩ := k.ex
  exact ⟨rs, e, s⟩

theorem IsSO.call {P : Nat → Prop} {W W' : World} {a : Option Addr} {G : Nat} {C : List Rw} (k : IsSO P W a G C) (hb : Below W.heap.size W W') : IsSO P W' a G C := by
  obtain ⟨rs, e, s, o⟩ := k.ex
  exact ⟨rs, e, s.call hb, o⟩

theorem headOld {W : World} {r : Lr} (g : r.Good W) (hne : r.hd ≠ []) {q : Nat} (hq : W.heap.size ≤ q) : Off q r.ha := by
  intro ad ea
  obtain ⟨b, off, e2, hb, _⟩ := g.hd.row.at (by intro e; cases hr : r.hd with | nil => exact hne hr | cons p l => rw [hr] at e; cases e)
  rw [e2] at ea
  obtain rfl := Option.some.inj ea
  show b ≠ q
  omega

/-- It lay there ahead of those blocks. -/
theorem IsS.old {P : Nat → Prop} {W : World} {a : Option Addr} {G : Nat} {C : List Rw} (k : IsS W a G C) (hP : ∀ q, P q → W.heap.size ≤ q) : IsSO P W a G C := by
  obtain ⟨rs, e, s⟩ := k.ex
  exact ⟨rs, e, s, fun r hr hne q hq => headOld (s.good r hr) hne (hP q hq)⟩

/-- Nor in a block that comes. -/
theorem IsSO.more {P P' : Nat → Prop} {W : World} {a : Option Addr} {G : Nat} {C : List Rw} (k : IsSO P W a G C) (hP : ∀ q, P' q → P q ∨ W.heap.size ≤ q) : IsSO P' W a G C := by
  obtain ⟨rs, e, s, o⟩ := k.ex
  exact ⟨rs, e, s, fun r hr hne q hq => (hP q hq).elim (o r hr hne q) (headOld (s.good r hr) hne)⟩

/-- Its heads lie behind those blocks. -/
theorem IsSL.off {base : Nat} {P : Nat → Prop} {W : World} {a : Option Addr} {G : Nat} {C : List Rw} (k : IsSL base W a G C) (hP : ∀ q, P q → q < base) : IsSO P W a G C := by
  obtain ⟨rs, e, s, l⟩ := k.ex
  exact ⟨rs, e, s, fun r hr _ q hq ad ea => by have := l r hr ad ea; have := hP q hq; omega⟩

/-- A new shelf has no points. -/
theorem IsS.fresh {P : Nat → Prop} {W : World} {a : Option Addr} {G : Nat} (k : IsS W a G newS) : IsSO P W a G newS := by
  obtain ⟨rs, e, s⟩ := k.ex
  refine ⟨rs, e, s, fun r hr hne => absurd ?_ hne⟩
  have hm : r.rw ∈ newS := by rw [← e]; exact List.mem_map.2 ⟨r, hr, rfl⟩
  simp only [newS, List.mem_cons, List.not_mem_nil, or_false, or_self] at hm
  have := congrArg Rw.head hm
  exact this

theorem IsSO.boxW {P : Nat → Prop} {w w' : World} {a : Option Addr} {G g : Nat} {C : List Rw} {t : TypeId} {a1 a2 a3 a4 : Option Addr} {n1 n2 n3 n4 c1 c2 c3 c4 : Nat} {u : Bool} (k : IsSO P w a G C) (hz : shelfE C = 0) (B : Blk w g [.slice a1 n1 c1, .slice a2 n2 c2, .slice a3 n3 c3, .bool u, .slice a4 n4 c4] t) (hg : w.grownBy w' (some g)) : IsSO P w' a G C := by
  obtain ⟨rs, rfl, s, o⟩ := k.ex
  exact ⟨rs, rfl, s.boxW hz B hg, o⟩

theorem notInts {ys : List Int} {v : Value} (h : ∀ n, v ≠ .int .i64 n) : v ∉ ys.map (Value.int .i64) := by
  intro hm
  obtain ⟨n, _, e⟩ := List.mem_map.1 hm
  exact h n e.symm

/-- A shelf stays while the readers' block is written. -/
theorem IsSO.readers {P : Nat → Prop} {h : Nat} {w w' : World} {a : Option Addr} {G : Nat} {C : List Rw} {ys : List Int} {t : TypeId} (k : IsSO P w a G C) (hp : P h) (B : Blk w h (ys.map (Value.int .i64)) t) (hg : w.grownBy w' (some h)) : IsSO P w' a G C := by
  obtain ⟨rs, rfl, s, o⟩ := k.ex
  refine ⟨rs, rfl, ⟨⟨?_, s.sl.le, s.sl.max, s.sl.nil⟩, fun r hr => ?_⟩, o⟩
  · by_cases hr : rs = []
    · rw [hr]; exact .inl rfl
    · obtain ⟨y, q, hy⟩ := List.exists_cons_of_ne_nil hr
      exact s.sl.row.off hg (s.sl.row.offKind B (i := 0) (v := .slice y.ba y.bs.length y.bc) (by rw [hy]; rfl) (notInts (fun _ e => by cases e)))
  · have good := s.good r hr
    refine ⟨⟨⟨?_, good.bs.sl.le, good.bs.sl.max, good.bs.sl.nil⟩, fun x hx => ?_⟩, ⟨?_, good.hd.le, good.hd.max, good.hd.nil⟩, good.few, good.hfew⟩
    · by_cases hb : r.bs = []
      · rw [hb]; exact .inl rfl
      · obtain ⟨y, q, hy⟩ := List.exists_cons_of_ne_nil hb
        exact good.bs.sl.row.off hg (good.bs.sl.row.offKind B (i := 3) (v := .slice y.a y.b.bits.length y.c) (by rw [hy]; rfl) (notInts (fun _ e => by cases e)))
    · have gx := good.bs.good x hx
      refine ⟨?_, gx.few⟩
      by_cases hb : x.b.bits = []
      · rw [hb]; exact ⟨.inl rfl, by have := gx.bits.le; rw [hb] at this; exact this, gx.bits.max, gx.bits.nil⟩
      · obtain ⟨y, q, hy⟩ := List.exists_cons_of_ne_nil hb
        exact gx.bits.off hg (gx.bits.row.offKind B (i := 0) (v := .bool y) (by rw [hy]; rfl) (notInts (fun _ e => by cases e)))
    · by_cases hb : r.hd = []
      · rw [hb]; exact .inl rfl
      · exact good.hd.row.off hg (o r hr hb h hp)

/-- Bytes stay where a block of other kinds is written. -/
theorem slU_off {w w' : World} {a : Option Addr} {cap g : Nat} {l : List UInt8} {ds : List Value} {t : TypeId} (S : Sl w a cap (byteCells l)) (B : Blk w g ds t) (hk : ∀ n, Value.int .u8 n ∉ ds) (hg : w.grownBy w' (some g)) : Sl w' a cap (byteCells l) := by
  cases l with
  | nil => exact ⟨.inl rfl, S.le, S.max, S.nil⟩
  | cons b r => exact S.off hg (S.row.offKind B (i := 0) (v := .int .u8 b.toNat) rfl (hk _))

theorem slI_off {w w' : World} {a : Option Addr} {cap g : Nat} {l : List Int} {ds : List Value} {t : TypeId} (S : Sl w a cap (l.map (Value.int .i64))) (B : Blk w g ds t) (hk : ∀ n, Value.int .i64 n ∉ ds) (hg : w.grownBy w' (some g)) : Sl w' a cap (l.map (Value.int .i64)) := by
  cases l with
  | nil => exact ⟨.inl rfl, S.le, S.max, S.nil⟩
  | cons b r => exact S.off hg (S.row.offKind B (i := 0) (v := .int .i64 b) rfl (hk _))

/-- A right world in a box. -/
structure WdB (Q : Nat → Prop) (W : World) (g h : Nat) (p : Pw) (ys : List Int) (x : Wd) : Prop where
  blk : Blk W g (p.cells x.up) 30
  is : IsW W p x
  so : IsSO (fun q => q = h ∨ Q q) W p.sa p.sG x.c
  right : wdE x = 0
  ra : p.ra = some ⟨h, 0, none⟩
  rb : Blk W h (ys.map (Value.int .i64)) 3
  ry : ys.take 3 = x.rd
  rm : 3 ≤ p.rc

theorem WdB.call {Q : Nat → Prop} {W W' : World} {g h : Nat} {p : Pw} {ys : List Int} {x : Wd} (k : WdB Q W g h p ys x) (hb : Below W.heap.size W W') : WdB Q W' g h p ys x :=
  ⟨k.blk.keep hb k.blk.lt, k.is.call hb, k.so.call hb, k.right, k.ra, k.rb.keep hb k.rb.lt, k.ry, k.rm⟩

theorem right_shelf {x : Wd} (h : wdE x = 0) : shelfE x.c = 0 := by
  obtain ⟨_, _, h3, h4, _, _⟩ := wd_right h
  rw [h4]
  exact repl_right h3

theorem WdB.ne {Q : Nat → Prop} {W : World} {g h : Nat} {p : Pw} {ys : List Int} {x : Wd} (k : WdB Q W g h p ys x) : g ≠ h := by
  intro e
  subst e
  exact absurd (blkType k.blk k.rb) (by decide)

/-- The box is written. -/
theorem WdB.wrote {Q : Nat → Prop} {W W' : World} {g h : Nat} {p : Pw} {ys : List Int} {x : Wd} {a1 a2 a3 a4 : Option Addr} {n1 n2 n3 n4 c1 c2 c3 c4 : Nat} {u : Bool} (B : Blk W g [.slice a1 n1 c1, .slice a2 n2 c2, .slice a3 n3 c3, .bool u, .slice a4 n4 c4] 30) (hg : W.grownBy W' (some g)) (B' : Blk W' g (p.cells x.up) 30)
    (is : IsW W p x) (so : IsSO (fun q => q = h ∨ Q q) W p.sa p.sG x.c) (right : wdE x = 0) (ra : p.ra = some ⟨h, 0, none⟩) (rb : Blk W h (ys.map (Value.int .i64)) 3) (ry : ys.take 3 = x.rd) (rm : 3 ≤ p.rc) : WdB Q W' g h p ys x := by
  have hz := right_shelf right
  have so' := so.boxW hz B hg
  refine ⟨B', ⟨is.es, is.e1, is.e2, is.er, so'.is, slU_off is.s1 B (by simp) hg, slU_off is.s2 B (by simp) hg, slI_off is.r B (by simp) hg⟩, so', right, ra, ?_, ry, rm⟩
  exact rb.grown hg (fun k e => by
    obtain rfl := Option.some.inj e
    intro e
    subst e
    exact absurd (blkType B rb) (by decide))

/-- One reader is written. -/
theorem WdB.reader {Q : Nat → Prop} {W : World} {g h : Nat} {p : Pw} {ys : List Int} {x : Wd} (k : WdB Q W g h p ys x) (i : Nat) (v : Int) (hr : wdE ⟨x.c, x.d, x.up, x.rd.set i v⟩ = 0) : WdB Q (W.setCell ⟨h, i, none⟩ (.int .i64 v)) g h p (ys.set i v) ⟨x.c, x.d, x.up, x.rd.set i v⟩ := by
  have hg : W.grownBy (W.setCell ⟨h, i, none⟩ (.int .i64 v)) (some h) := grownSet (grownRefl W (some h)) _ _
  have B := k.rb
  have so' := k.so.readers (.inl rfl) B hg
  have rb' := B.set i (.int .i64 v)
  rw [← List.map_set] at rb'
  have hyt : (ys.set i v).take 3 = x.rd.set i v := by rw [List.take_set, k.ry]
  refine ⟨k.blk.other i _ k.ne.symm, ⟨k.is.es, k.is.e1, k.is.e2, by rw [List.length_set]; exact k.is.er, so'.is, slU_off k.is.s1 B (fun n => notInts (fun _ e => by cases e)) hg, slU_off k.is.s2 B (fun n => notInts (fun _ e => by cases e)) hg, ?_⟩, so', hr, k.ra, rb', hyt, k.rm⟩
  have hrl := k.is.r
  refine ⟨?_, by have := hrl.le; rw [List.length_map] at this ⊢; rw [List.length_set]; exact this, hrl.max, hrl.nil⟩
  rw [k.ra]
  refine rb'.row 0 _ (fun j u hu => ?_)
  rw [Nat.zero_add]
  rw [← hyt, List.map_take, List.getElem?_take] at hu
  split at hu
  · exact hu
  · cases hu

/-- A block of numbers elsewhere is written. -/
theorem WdB.said {Q : Nat → Prop} {W : World} {g h s i : Nat} {p : Pw} {ys zs : List Int} {x : Wd} {t : TypeId} {v : Int} (k : WdB Q W g h p ys x) (hs : Q s) (B : Blk W s (zs.map (Value.int .i64)) t) (ht : t ≠ 3) (ht2 : t ≠ 30) : WdB Q (W.setCell ⟨s, i, none⟩ (.int .i64 v)) g h p ys x := by
  have hg : W.grownBy (W.setCell ⟨s, i, none⟩ (.int .i64 v)) (some s) := grownSet (grownRefl W (some s)) _ _
  have so' := k.so.readers (.inr hs) B hg
  have ns : s ≠ h := by
    intro e
    subst e
    exact ht (blkType B k.rb)
  have ng : s ≠ g := by
    intro e
    subst e
    exact ht2 (blkType B k.blk)
  refine ⟨k.blk.other i _ ng, ⟨k.is.es, k.is.e1, k.is.e2, k.is.er, so'.is, slU_off k.is.s1 B (fun n => notInts (fun _ e => by cases e)) hg, slU_off k.is.s2 B (fun n => notInts (fun _ e => by cases e)) hg, ?_⟩, so', k.right, k.ra, k.rb.other i _ ns, k.ry, k.rm⟩
  refine k.is.r.off hg ?_
  rw [k.ra]
  intro ad e
  obtain rfl := Option.some.inj e
  exact fun e => ns e.symm

/-- Blocks that come are kept free of. -/
theorem WdB.more {Q Q' : Nat → Prop} {W : World} {g h : Nat} {p : Pw} {ys : List Int} {x : Wd} (k : WdB Q W g h p ys x) (hQ : ∀ q, Q' q → Q q ∨ W.heap.size ≤ q) : WdB Q' W g h p ys x :=
  ⟨k.blk, k.is, k.so.more (fun q hq => hq.elim (fun e => .inl (.inl e)) (fun e => (hQ q e).elim (fun e => .inl (.inr e)) .inr)), k.right, k.ra, k.rb, k.ry, k.rm⟩

/-- What is written: a box, and the block of its readers. -/
structure Gb2 (g h : Nat) (W W' : World) : Prop where
  os : W'.os = W.os
  tape : W'.tape = W.tape
  output : W'.output = W.output
  size : W.heap.size ≤ W'.heap.size
  block : ∀ k, k < W.heap.size → k ≠ g → k ≠ h → W'.heap[k]? = W.heap[k]?

theorem Gb2.refl (g h : Nat) (W : World) : Gb2 g h W W := ⟨rfl, rfl, rfl, Nat.le_refl _, fun _ _ _ _ => rfl⟩
theorem Gb2.trans {g h h1 : Nat} {a b c : World} (k : Gb2 g h a b) (q : Gb2 g h1 b c) (hh : h1 = h ∨ a.heap.size ≤ h1) : Gb2 g h a c :=
  ⟨q.os.trans k.os, q.tape.trans k.tape, q.output.trans k.output, Nat.le_trans k.size q.size, fun j hj h1' h2 => (q.block j (Nat.lt_of_lt_of_le hj k.size) h1' (by omega)).trans (k.block j hj h1' h2)⟩
theorem Gb2.below {g h : Nat} {a b : World} (k : Below a.heap.size a b) : Gb2 g h a b := ⟨k.os, k.tape, k.output, k.size, fun j hj _ _ => k.block j hj⟩
theorem Gb2.call {g h : Nat} {a b c : World} (k : Gb2 g h a b) (q : Below b.heap.size b c) : Gb2 g h a c := k.trans (Gb2.below q) (.inl rfl)
theorem Gb2.box {g h : Nat} {a b : World} (k : a.grownBy b (some g)) : Gb2 g h a b := ⟨k.os, k.tape, k.output, k.size, fun j hj h1 _ => k.block j hj (fun e => h1 (Option.some.inj e))⟩
theorem Gb2.rds {g h : Nat} {a b : World} (k : a.grownBy b (some h)) : Gb2 g h a b := ⟨k.os, k.tape, k.output, k.size, fun j hj _ h1 => k.block j hj (fun e => h1 (Option.some.inj e))⟩
theorem Gb2.from {g h base : Nat} {a b : World} (k : Gb2 g h a b) (hg : base ≤ g) (hh : base ≤ h) (hb : base ≤ a.heap.size) : Below base a b :=
  ⟨k.os, k.tape, k.output, k.size, fun j hj => k.block j (by omega) (by omega) (by omega)⟩
theorem Blk.gb2 {W W' : World} {g h q : Nat} {cs : List Value} {t : TypeId} (B : Blk W q cs t) (k : Gb2 g h W W') (hg : q ≠ g) (hh : q ≠ h) : Blk W' q cs t :=
  (k.block q B.lt hg hh).trans B

end Go.Proofs.YtcjdpilmhlfmfaaGreatDoor

/-
  How an argument that is a world, by value, is opened: a shelf, a disk, whether it is up, its readers.
-/
namespace Go.Proofs.YtcjdpilmhlfmfaaGreatDoor
open Go.RowKit Go.ChangeShapes Go.WideShapes Go.ChangeAt Go.Joins
open Go.Lib (byteCells)

end Go.Proofs.YtcjdpilmhlfmfaaGreatDoor

/-
  How an argument that is a slice of records is opened: each with its entries.
-/
namespace Go.Proofs.YtcjdpilmhlfmfaaGreatDoor
open Go.RowKit Go.ChangeShapes Go.WideShapes Go.ChangeAt Go.Joins

theorem four_of {α : Type} {l : List α} (h : l.length = 4) : ∃ a b c d, l = [a, b, c, d] := by
  match l, h with
  | [a, b, c, d], _ => exact ⟨a, b, c, d, rfl⟩

set_option maxRecDepth 100000 in
theorem cellsEs : Tryz.prog.cellsOf 64 = 1 := by kernel_rfl

end Go.Proofs.YtcjdpilmhlfmfaaGreatDoor

/-
  slices.Equal, at bools: it returns whether the two lists are the same; it only reads.
-/
namespace Go.Proofs.YtcjdpilmhlfmfaaGreatDoor
open Go.RowKit

set_option maxHeartbeats 1000000 in
set_option maxRecDepth 100000 in
theorem equalBool (a1 a2 : Option Addr) (c1 c2 : Nat) (l m : List Bool) (w : World) (r1 : Row w a1 (l.map Value.bool)) (r2 : Row w a2 (m.map Value.bool)) (hl : l.length ≤ 4611686018427387904) (hm : m.length ≤ 4611686018427387904) :
    Calls Tryz.prog 122 #[.slice a1 l.length c1, .slice a2 m.length c2] w fun e w' => e = .returned (.bool (decide (l = m))) ∧ ∃ q, w' = w.drewN q := by
  by_cases hnm : l.length = m.length
  · generalize hn : l.length = n at *
    have hm' := hnm.symm
    rw [hm'] at hm ⊢
    by_cases h0 : n = 0
    · subst h0
      obtain rfl := List.eq_nil_of_length_eq_zero hn
      obtain rfl := List.eq_nil_of_length_eq_zero hm'
      clear hn hm' hnm hl hm r1 r2
      go_enter Tryz.func122, Tryz.ntmps122
      go_wp2
      refine wp_loop_rounds 1 ?_
      rw [rounds_succ]
      go_wp2
      go_ret
      exact ⟨rfl, 0, rfl⟩
    obtain ⟨b1, o1, rfl, -, k1⟩ := r1.at (by intro h; simp at h; subst h; simp at hn; omega)
    obtain ⟨b2, o2, rfl, -, k2⟩ := r2.at (by intro h; simp at h; subst h; simp at hm'; omega)
    have g1 := fun k hk => boolAt k1 k hk
    have g2 := fun k hk => boolAt k2 k hk
    clear k1 k2 r1 r2
    have HL : Hid (l.length = n) := hn
    have HM : Hid (m.length = n) := hm'
    clear hn hm' hnm
    go_enter Tryz.func122, Tryz.ntmps122
    go_wp2
    go_loopg [13] n (fun g s13 wr => ∃ k q : Nat, k ≤ n ∧ n - k ≤ g ∧ s13 = .int .i64 k ∧ wr = w.drewN q ∧ Hid (∀ j, j < k → l.getD j false = m.getD j false))
    case atStart => exact ⟨0, 0, Nat.zero_le _, by omega, rfl, rfl, fun j hj => absurd hj (Nat.not_lt_zero _)⟩
    case round =>
      obtain ⟨k, q, hk, hg, rfl, rfl, A⟩ := hrel
      by_cases hlt : k < n
      · have e1 := g1 k (by rw [HL.out]; exact hlt)
        have e2 := g2 k (by rw [HM.out]; exact hlt)
        clear g1 g2
        generalize hx : l.getD k false = x at e1
        generalize hy : m.getD k false = y at e2
        have B : Hid (l.getD k false = x ∧ m.getD k false = y) := ⟨hx, hy⟩
        clear hx hy
        cases hxy : (x == y) with
        | true =>
          obtain rfl : x = y := by simpa using hxy
          clear hxy
          go_wp2_with fail
          go_region
          all_goals go_wp2
          all_goals go_roundg (n - (k + 1))
          case measure => omega
          case rel =>
            refine ⟨k + 1, q + 1, by omega, by omega, by go_num, rfl, (show Hid _ from fun j hj => ?_)⟩
            by_cases e : j = k
            · subst e
              rw [B.out.1, B.out.2]
            · exact A.out j (by omega)
        | false =>
          go_wp2_with fail
          go_region
          all_goals go_wp2
          all_goals go_ret
          refine ⟨?_, q + 1, rfl⟩
          have hne : l ≠ m := listNe (d := false) (k := k) (by rw [B.out.1, B.out.2]; simpa using hxy)
          simp [hne]
      · have : k = n := by omega
        subst this
        clear g1 g2
        go_wp2
        go_ret
        refine ⟨?_, q, rfl⟩
        have he : l = m := listEq (d := false) (HL.out.trans HM.out.symm) (fun j hj => A.out j (by rw [← HL.out]; exact hj))
        simp [he]
  · have hnm' : ¬ (l.length : Int) = (m.length : Int) := by omega
    have hne : l ≠ m := fun e => hnm (by rw [e])
    clear r1 r2
    have H : Hid (l ≠ m) := hne
    clear hne
    generalize l.length = x at *
    generalize m.length = y at *
    go_enter Tryz.func122, Tryz.ntmps122
    go_wp2
    go_ret
    refine ⟨?_, 0, rfl⟩
    simp [H.out]

end Go.Proofs.YtcjdpilmhlfmfaaGreatDoor

/-
  block.Same: are all fields of two blocks alike?
-/
namespace Go.Proofs.YtcjdpilmhlfmfaaGreatDoor
open Go.RowKit

set_option maxHeartbeats 400000 in
set_option maxRecDepth 100000 in
theorem same_any (a b : Bk) (ao bo : Option Addr) (ca cb : Nat) (w : World) (ha : Sl w ao ca (a.bits.map Value.bool)) (hb : Sl w bo cb (b.bits.map Value.bool)) (la : a.bits.length ≤ 140737488355328) (lb : b.bits.length ≤ 140737488355328) :
    Calls Tryz.prog 140 #[bkV a ao ca, bkV b bo cb] w fun e w' => e = .returned (.bool (sameB a b)) ∧ Below w.heap.size w w' := by
  obtain ⟨an, af, aT, X⟩ := a
  obtain ⟨bn, bf, bT, Y⟩ := b
  unfold bkV sameB
  simp only at *
  have c1 := fun W h k => equalBool ao bo ca cb X Y W h k (by omega) (by omega)
  generalize decide (X = Y) = D at *
  clear la lb
  have sa := fun o1 o2 => (ha.alloc o1).alloc o2
  have sb := fun o1 o2 => (hb.alloc o1).alloc o2
  by_cases h1 : an = bn
  · subst h1
    by_cases h2 : af = bf
    · subst h2
      by_cases h3 : aT = bT
      · subst h3
        go_enter Tryz.func140, Tryz.ntmps140
        go_wp2_with fail
        go_at_call 122
        refine (c1 _ (sa _ _).row (sb _ _).row).mono ?_
        rintro e w1 ⟨rfl, q, rfl⟩
        go_wp2_with fail
        go_ret
        exact ⟨by simp, belowDrewN (below2 w _ _) q⟩
      · go_enter Tryz.func140, Tryz.ntmps140
        go_wp2_with fail
        go_ret
        exact ⟨by simp [h3], below2 w _ _⟩
    · go_enter Tryz.func140, Tryz.ntmps140
      go_wp2_with fail
      go_ret
      exact ⟨by simp [h2], below2 w _ _⟩
  · go_enter Tryz.func140, Tryz.ntmps140
    go_wp2_with fail
    go_ret
    exact ⟨by simp [h1], below2 w _ _⟩

end Go.Proofs.YtcjdpilmhlfmfaaGreatDoor

/-
  slices.Equal, at points: it returns whether the two lists are the same; it only reads.
-/
namespace Go.Proofs.YtcjdpilmhlfmfaaGreatDoor
open Go.RowKit

theorem hide' {p : Prop} (h : p) : Hid p := h

set_option maxHeartbeats 1000000 in
set_option maxRecDepth 100000 in
theorem equalPt (a1 a2 : Option Addr) (c1 c2 : Nat) (l m : List Pt) (w : World) (r1 : SlP w a1 c1 l) (r2 : SlP w a2 c2 m) (hl : l.length ≤ 4611686018427387904) (hm : m.length ≤ 4611686018427387904) :
    Calls Tryz.prog 16 #[.slice a1 l.length c1, .slice a2 m.length c2] w fun e w' => e = .returned (.bool (decide (l = m))) ∧ ∃ q, w' = w.drewN q := by
  by_cases hnm : l.length = m.length
  · generalize hn : l.length = n at *
    have hm' := hnm.symm
    rw [hm'] at hm ⊢
    by_cases h0 : n = 0
    · subst h0
      obtain rfl := List.eq_nil_of_length_eq_zero hn
      obtain rfl := List.eq_nil_of_length_eq_zero hm'
      clear hn hm' hnm hl hm r1 r2
      go_enter Tryz.func16, Tryz.ntmps16
      go_wp2
      refine wp_loop_rounds 1 ?_
      rw [rounds_succ]
      go_wp2
      go_ret
      exact ⟨rfl, 0, rfl⟩
    obtain ⟨b1, o1, rfl, -⟩ := r1.where (by intro h; subst h; simp at hn; omega)
    obtain ⟨b2, o2, rfl, -⟩ := r2.where (by intro h; subst h; simp at hm'; omega)
    have g1 := fun k hk => r1.pt k hk
    have g2 := fun k hk => r2.pt k hk
    clear r1 r2
    have HL : Hid (l.length = n) := hn
    have HM : Hid (m.length = n) := hm'
    clear hn hm' hnm
    go_enter Tryz.func16, Tryz.ntmps16
    go_wp2
    go_loopg [13] n (fun g s13 wr => ∃ k q : Nat, k ≤ n ∧ n - k ≤ g ∧ s13 = .int .i64 k ∧ wr = w.drewN q ∧ Hid (∀ j : Nat, j < k → l[j]? = m[j]?))
    case atStart => exact ⟨0, 0, Nat.zero_le _, by omega, rfl, rfl, fun j hj => absurd hj (Nat.not_lt_zero _)⟩
    case round =>
      obtain ⟨k, q, hk, hg, rfl, rfl, A⟩ := hrel
      by_cases hlt : k < n
      · obtain ⟨x, y, e1, e2, hx, -⟩ := g1 k (by rw [HL.out]; exact hlt)
        obtain ⟨x', y', e3, e4, hy, -⟩ := g2 k (by rw [HM.out]; exact hlt)
        clear g1 g2
        have B : Hid (l[k]? = some (x, y) ∧ m[k]? = some (x', y')) := ⟨hx, hy⟩
        clear hx hy
        by_cases hxy : x = x' ∧ y = y'
        · obtain ⟨rfl, rfl⟩ := hxy
          go_wp2_with fail
          go_region
          all_goals go_wp2
          all_goals go_roundg (n - (k + 1))
          case measure => omega
          case rel =>
            refine ⟨k + 1, q + 1, by omega, by omega, by go_num, rfl, (show Hid _ from fun j hj => ?_)⟩
            by_cases e : j = k
            · subst e
              rw [B.out.1, B.out.2]
            · exact A.out j (by omega)
        · have hne : l ≠ m := fun h => hxy (by have h2 := B.out.2; rw [← h, B.out.1] at h2; simpa using h2)
          have HN := hide' hne
          clear hne
          by_cases hx : x = x'
          · subst hx
            have hy : ¬ y = y' := fun h => hxy ⟨rfl, h⟩
            clear hxy
            go_wp2_with fail
            go_region
            all_goals go_wp2
            all_goals go_ret
            refine ⟨?_, q + 1, rfl⟩
            simp [HN.out]
          · clear hxy
            go_wp2_with fail
            go_region
            all_goals go_wp2
            all_goals go_ret
            refine ⟨?_, q + 1, rfl⟩
            simp [HN.out]
      · have : k = n := by omega
        subst this
        clear g1 g2
        go_wp2
        go_ret
        refine ⟨?_, q, rfl⟩
        have he : l = m := by
          apply List.ext_getElem?
          intro i
          by_cases hi : i < k
          · exact A.out i hi
          · rw [List.getElem?_eq_none (by rw [HL.out]; omega), List.getElem?_eq_none (by rw [HM.out]; omega)]
        simp [he]
  · have hnm' : ¬ (l.length : Int) = (m.length : Int) := by omega
    have hne : l ≠ m := fun e => hnm (by rw [e])
    clear r1 r2
    have H : Hid (l ≠ m) := hne
    clear hne
    generalize l.length = x at *
    generalize m.length = y at *
    go_enter Tryz.func16, Tryz.ntmps16
    go_wp2
    go_ret
    refine ⟨?_, 0, rfl⟩
    simp [H.out]

end Go.Proofs.YtcjdpilmhlfmfaaGreatDoor
