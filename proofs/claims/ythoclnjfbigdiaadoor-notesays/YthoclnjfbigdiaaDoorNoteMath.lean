/-
  Records as texts, as plain lists. No program is named.
-/
import Derived.Test.YthoclnjfbigdiaaDoorPlain
import Derived.Lib.ItoaNum
import Derived.Lib.ItoaLen
import Derived.Lib.AtoiAll
namespace Go.Proofs.YthoclnjfbigdiaaDoor

/-- An entry: series, time, value. -/
abbrev Nt := Int × Int × Int

/-- A record. -/
structure Rc where
  k : Int
  s : Int
  n : Int
  e : List Nt

def ntOk (x : Nt) : Bool := decide (0 ≤ x.1 ∧ x.1 < 4 ∧ 0 ≤ x.2.1 ∧ x.2.1 ≤ 100000 ∧ -1000000 ≤ x.2.2 ∧ x.2.2 ≤ 1000000)

def recE (r : Rc) : Int :=
  if r.k = 1 then (if r.s ≠ 0 ∨ r.n ≠ 0 then 4 else if 10 < r.e.length then 2 else if r.e.all ntOk then 0 else 3)
  else if r.k = 2 ∨ r.k = 3 ∨ r.k = 4 then (if r.e ≠ [] ∨ (r.k = 4 ∧ r.s ≠ 0) then 4 else if 0 ≤ r.s ∧ r.s < 4 ∧ 0 ≤ r.n ∧ r.n ≤ 100001 then 0 else 3)
  else 4

def wBatch : List UInt8 := [98, 97, 116, 99, 104]
def wSeal : List UInt8 := [115, 101, 97, 108]
def wMerge : List UInt8 := [109, 101, 114, 103, 101]
def wDrop : List UInt8 := [100, 114, 111, 112]

/-- Numbers, a blank ahead of each. -/
def numsT (l : List Int) : List UInt8 := l.flatMap (fun n => 32 :: Lib.itoa n)

def ntNums (l : List Nt) : List Int := l.flatMap (fun x => [x.1, x.2.1, x.2.2])

def recT (r : Rc) : List UInt8 :=
  if recE r = 0 then (if r.k = 1 then wBatch ++ numsT (ntNums r.e) else if r.k = 2 then wSeal ++ numsT [r.s, r.n] else if r.k = 3 then wMerge ++ numsT [r.s, r.n] else wDrop ++ numsT [r.n]) else []

theorem numsT_snoc (l : List Int) (n : Int) : numsT (l ++ [n]) = numsT l ++ 32 :: Lib.itoa n := by
  unfold numsT
  rw [List.flatMap_append]
  simp

theorem itoa_le (n : Int) (h0 : -9223372036854775808 ≤ n) (h1 : n ≤ 9223372036854775807) : (Lib.itoa n).length ≤ 21 := Lib.itoa_length_le n h0 h1

theorem numsT_le : ∀ (l : List Int), (∀ n ∈ l, -9223372036854775808 ≤ n ∧ n ≤ 9223372036854775807) → (numsT l).length ≤ l.length * 22
  | [], _ => Nat.le_refl _
  | n :: r, h => by
    have h1 := itoa_le n (h n List.mem_cons_self).1 (h n List.mem_cons_self).2
    have ih := numsT_le r (fun m hm => h m (List.mem_cons_of_mem _ hm))
    unfold numsT at ih ⊢
    rw [List.flatMap_cons, List.length_append, List.length_cons, List.length_cons, Nat.succ_mul]
    omega

end Go.Proofs.YthoclnjfbigdiaaDoor
