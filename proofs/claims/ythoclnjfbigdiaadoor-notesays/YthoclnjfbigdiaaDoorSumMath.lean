/-
  Sums of points as plain numbers: how many, the least, the greatest, all together; what one point is, what two sums joined are, what many are.
-/
import Derived.Test.YthoclnjfbigdiaaDoorPoints
import Derived.Test.YthoclnjfbigdiaaDoorZigMath
import Derived.Lib.MinMax
namespace Go.Proofs.YthoclnjfbigdiaaDoor
open Go.RowKit

theorem below2 (w : World) (a b : Obj) : Below w.heap.size w ((w.alloc a).alloc b) :=
  ((Below.refl _ _).alloc (Nat.le_refl _) _).alloc (by simp) _

theorem below3 (w : World) (a b c : Obj) : Below w.heap.size w (((w.alloc a).alloc b).alloc c) :=
  (below2 w a b).alloc (by simp; omega) _

theorem Blk.alc {w : World} {g : Nat} {cs : List Value} {t : TypeId} (h : Blk w g cs t) (o : Obj) : Blk (w.alloc o) g cs t :=
  h.keep ((Below.refl w.heap.size w).alloc (Nat.le_refl _) o) h.lt

theorem Blk.other {w : World} {g g' : Nat} {cs : List Value} {t : TypeId} (h : Blk w g cs t) (i : Nat) (u : Value) (hne : g' ≠ g) : Blk (w.setCell ⟨g', i, none⟩ u) g cs t :=
  (heap_setCell_other w _ g u (fun e => hne e.symm)).trans h

theorem Blk.drewS {w : World} {g : Nat} {cs : List Value} {t : TypeId} (h : Blk w g cs t) : Blk w.drew g cs t := h

structure Sm where
  n : Int
  lo : Int
  hi : Int
  tot : Int

def Sm.cells (s : Sm) : List Value := [.int .i64 s.n, .int .i64 s.lo, .int .i64 s.hi, .int .i64 s.tot]

def smV (s : Sm) : Value := .agg #[.int .i64 s.n, .int .i64 s.lo, .int .i64 s.hi, .int .i64 s.tot]

def sm0 : Sm := ⟨0, 0, 0, 0⟩

def sm1 (v : Int) : Sm := ⟨1, v, v, v⟩

def joinS (a b : Sm) : Sm := if a.n = 0 then b else if b.n = 0 then a else ⟨wrap64 (a.n + b.n), min a.lo b.lo, max a.hi b.hi, wrap64 (a.tot + b.tot)⟩

def sumFrom (s : Sm) : List Pt → Sm
  | [] => s
  | p :: r => sumFrom (joinS s (sm1 p.2)) r

def sumS (l : List Pt) : Sm := sumFrom sm0 l

/-- The same, one number at a time, but for how many. -/
def accS (s : Sm) : List Pt → Sm
  | [] => s
  | p :: r => accS ⟨s.n, min s.lo p.2, max s.hi p.2, wrap64 (s.tot + p.2)⟩ r

theorem accS_n (m : Int) : ∀ (s : Sm) (l : List Pt), accS ⟨m, s.lo, s.hi, s.tot⟩ l = ⟨m, (accS s l).lo, (accS s l).hi, (accS s l).tot⟩
  | _, [] => rfl
  | s, p :: r => accS_n m ⟨s.n, min s.lo p.2, max s.hi p.2, wrap64 (s.tot + p.2)⟩ r

theorem sumFrom_acc : ∀ (s : Sm) (l : List Pt), 1 ≤ s.n → s.n + l.length ≤ 9223372036854775807 → sumFrom s l = ⟨s.n + l.length, (accS s l).lo, (accS s l).hi, (accS s l).tot⟩
  | s, [], _, _ => by simp [sumFrom, accS]
  | s, p :: r, h1, h2 => by
    have hj : joinS s (sm1 p.2) = ⟨s.n + 1, min s.lo p.2, max s.hi p.2, wrap64 (s.tot + p.2)⟩ := by
      unfold joinS
      rw [if_neg (by omega), if_neg (by simp [sm1])]
      have : wrap64 (s.n + 1) = s.n + 1 := by
        rw [List.length_cons] at h2
        unfold wrap64
        omega
      simp [sm1, this]
    rw [sumFrom, hj, sumFrom_acc _ r (by simp only; omega) (by rw [List.length_cons] at h2; simp only; omega)]
    have ha := accS_n (s.n + 1) ⟨s.n, min s.lo p.2, max s.hi p.2, wrap64 (s.tot + p.2)⟩ r
    rw [ha, accS, List.length_cons]
    simp only [Sm.mk.injEq, and_true]
    omega

theorem wrap_wf {v : Int} (h : (Lit.int .i64 v).wf = true) : wrap64 v = v := by
  simp only [Lit.wf, IntKind.min, IntKind.max, IntKind.signed, IntKind.bits, Bool.and_eq_true, decide_eq_true_eq, if_true] at h
  unfold wrap64
  omega

theorem sumS_cons (p : Pt) (r : List Pt) : sumS (p :: r) = sumFrom (sm1 p.2) r := rfl

theorem sumS_acc (p : Pt) (r : List Pt) (hw : wrap64 p.2 = p.2) (hl : (p :: r).length ≤ 9223372036854775807) : sumS (p :: r) = accS ⟨(p :: r).length, p.2, p.2, 0⟩ (p :: r) := by
  rw [List.length_cons] at hl
  rw [sumS_cons, sumFrom_acc (sm1 p.2) r (by simp [sm1]) (by simp only [sm1]; omega), accS]
  simp only [Int.min_self, Int.max_self, Int.zero_add, hw]
  have ha := accS_n (((p :: r).length : Nat) : Int) (sm1 p.2) r
  simp only [sm1] at ha ⊢
  rw [ha, List.length_cons]
  simp only [Sm.mk.injEq, and_true]
  omega

end Go.Proofs.YthoclnjfbigdiaaDoor
