/-
  Plain facts on bits and numbers: no program is named.
-/
import Derived.Test.YthoclnjfbigdiaaDoorPlain
namespace Go.Proofs.YthoclnjfbigdiaaDoor
open Go.RowKit

/-- A width that may be asked. -/
def okW (width : Int) : Bool := decide (0 ≤ width ∧ width ≤ 40)
/-- A number that fits. -/
def okN (n width : Int) : Bool := decide (0 ≤ n ∧ n < 2 ^ width.toNat)
/-- A number's bit, counted from the least one. -/
def bitAt (n : Int) (j : Nat) : Bool := decide (n / 2 ^ j % 2 = 1)
/-- A number in so many bits, the greatest one first. -/
def bitsOf (n : Int) (w : Nat) : List Bool := (List.range w).map fun i => bitAt n (w - 1 - i)
/-- The number that bits say. -/
def numOf : List Bool → Nat
  | [] => 0
  | b :: l => b.toNat * 2 ^ l.length + numOf l

theorem length_bitsOf (n : Int) (w : Nat) : (bitsOf n w).length = w := by simp [bitsOf]

theorem bitsOf_get (n : Int) (w i : Nat) (h : i < w) : (bitsOf n w)[i]? = some (bitAt n (w - 1 - i)) := by
  simp [bitsOf, h]

theorem okW_true {w : Int} (h : okW w = true) : 0 ≤ w ∧ w ≤ 40 := of_decide_eq_true h
theorem okW_false {w : Int} (h : okW w = false) : w < 0 ∨ 40 < w := by
  have := of_decide_eq_false h
  omega

theorem pow_le_40 (k : Nat) (h : k ≤ 40) : (2 : Int) ^ k ≤ 1099511627776 := by
  have : (2 : Nat) ^ k ≤ 2 ^ 40 := Nat.pow_le_pow_right (by decide) h
  have h2 : ((2 ^ k : Nat) : Int) ≤ ((2 ^ 40 : Nat) : Int) := Int.ofNat_le.2 this
  simpa using h2

theorem pow_pos (k : Nat) : (0 : Int) < 2 ^ k := Int.pow_pos (by decide)

/-- A number fits just where nothing is left behind its shift. -/
theorem okN_shift {n w : Int} (h0 : 0 ≤ n) : okN n w = (n / 2 ^ w.toNat == 0) := by
  have hp := pow_pos w.toNat
  unfold okN
  rw [Bool.eq_iff_iff]
  simp only [decide_eq_true_eq, beq_iff_eq]
  constructor
  · intro h; exact Int.ediv_eq_zero_of_lt h0 h.2
  · intro h
    refine ⟨h0, ?_⟩
    have := Int.mul_ediv_add_emod n (2 ^ w.toNat)
    rw [h] at this
    have h3 := Int.emod_lt_of_pos n hp
    omega

theorem numOf_snoc (l : List Bool) (b : Bool) : numOf (l ++ [b]) = 2 * numOf l + b.toNat := by
  induction l with
  | nil => simp [numOf]
  | cons a l ih =>
    simp only [List.cons_append, numOf, ih, List.length_append, List.length_singleton, Nat.pow_succ]
    rw [Nat.mul_add, ← Nat.add_assoc]
    congr 2
    rw [← Nat.mul_assoc, Nat.mul_comm _ 2]

theorem numOf_lt (l : List Bool) : numOf l < 2 ^ l.length := by
  induction l with
  | nil => simp [numOf]
  | cons b l ih =>
    simp only [numOf, List.length_cons, Nat.pow_succ]
    cases b <;> simp <;> omega

theorem tmod_up {k n : Int} (hn : 1 ≤ n) (h : 0 ≤ k.tmod n) : k.tmod n = k % n := by
  have h1 := Int.mul_tdiv_add_tmod k n
  have h2 := Int.tmod_lt_of_pos k (show 0 < n by omega)
  conv => rhs; rw [← h1]
  rw [Int.mul_add_emod_self_left, Int.emod_eq_of_lt h h2]

theorem tmod_up' {k n : Int} (hn : 1 ≤ n) (h : k.tmod n < 0) : k.tmod n + n = k % n := by
  have h1 := Int.mul_tdiv_add_tmod k n
  have h2 := Int.lt_tmod_of_pos k (show 0 < n by omega)
  conv => rhs; rw [← h1]
  rw [Int.mul_add_emod_self_left, ← Int.add_emod_right, Int.emod_eq_of_lt (by omega) (by omega)]

theorem ret_int {k : IntKind} {a b : Int} (h : a = b) : Ending.returned (.int k a) = .returned (.int k b) := by rw [h]

/-- '& 1' of a number that is not below 0. -/
theorem and_one (x : Int) (h0 : 0 ≤ x) (h1 : x ≤ 9223372036854775807) : bits BinOp.and IntKind.i64 x 1 = x % 2 := by
  obtain ⟨n, rfl⟩ := Int.eq_ofNat_of_zero_le h0
  have e : (BitVec.ofInt 64 (n : Int)).toNat = n := by
    simp only [BitVec.toNat_ofInt]
    omega
  have e1 : (BitVec.ofInt 64 1).toNat = 1 := by decide
  show IntKind.i64.wrap ((BitVec.ofInt 64 (n : Int) &&& BitVec.ofInt 64 1).toNat : Nat) = _
  rw [BitVec.toNat_and, e, e1, Nat.and_one_is_mod, IntKind.wrap_i64]
  omega

theorem shifted_bounds (n : Int) (j : Nat) (h0 : 0 ≤ n) (h1 : n ≤ 9223372036854775807) : 0 ≤ n / 2 ^ j ∧ n / 2 ^ j ≤ 9223372036854775807 := by
  have hp := pow_pos j
  refine ⟨Int.ediv_nonneg h0 (Int.le_of_lt hp), ?_⟩
  have := Int.ediv_le_self (b := (2 : Int) ^ j) (a := n) h0
  omega

/-- The bit that Put stores. -/
theorem bit_stored (n : Int) (j : Nat) (h0 : 0 ≤ n) (h1 : n ≤ 9223372036854775807) : (bits BinOp.and IntKind.i64 (n / 2 ^ j) 1 == 1) = bitAt n j := by
  have hb := shifted_bounds n j h0 h1
  rw [and_one _ hb.1 hb.2]
  unfold bitAt
  rw [Bool.eq_iff_iff]
  simp

/-- The first bits of a number put, and as many zeros as are still to come. -/
theorem put_step (P : List Bool) (n : Int) (k i : Nat) (h : i < k) :
    ((P ++ (bitsOf n k).take i).map Value.bool ++ List.replicate (k - i) (Value.bool false)).set (P.length + i) (.bool (bitAt n (k - 1 - i))) = (P ++ (bitsOf n k).take (i + 1)).map Value.bool ++ List.replicate (k - (i + 1)) (Value.bool false) := by
  have hl : ((P ++ (bitsOf n k).take i).map Value.bool).length = P.length + i := by simp [length_bitsOf]; omega
  rw [List.set_append_right _ _ (by rw [hl]; exact Nat.le_refl _), hl, Nat.sub_self]
  obtain ⟨m, hm⟩ : ∃ m, k - i = m + 1 := ⟨k - i - 1, by omega⟩
  have hm2 : k - (i + 1) = m := by omega
  rw [hm, hm2, List.replicate_succ, List.set_cons_zero]
  have ht : (bitsOf n k).take (i + 1) = (bitsOf n k).take i ++ [bitAt n (k - 1 - i)] := by
    rw [List.take_add_one, bitsOf_get n k i h]
    simp
  rw [ht]
  simp

/-- '| 1' of an even number. -/
theorem or_one (n : Nat) (h : n < 1099511627776) : bits BinOp.or IntKind.i64 ((n : Int) * 2) 1 = (n : Int) * 2 + 1 := by
  have e : (BitVec.ofInt 64 ((n : Int) * 2)).toNat = n * 2 := by
    simp only [BitVec.toNat_ofInt]
    omega
  have e1 : (BitVec.ofInt 64 1).toNat = 1 := by decide
  show IntKind.i64.wrap ((BitVec.ofInt 64 ((n : Int) * 2) ||| BitVec.ofInt 64 1).toNat : Nat) = _
  have e2 : (n * 2) ||| 1 = n * 2 + 1 := by
    rw [Nat.mul_comm, ← Nat.two_pow_add_eq_or_of_lt (i := 1) (b := 1) (by decide) n]
  rw [BitVec.toNat_or, e, e1, e2, IntKind.wrap_i64]
  omega

theorem numOf_take (l : List Bool) (j : Nat) (h : j < l.length) : numOf (l.take (j + 1)) = 2 * numOf (l.take j) + (l.getD j false).toNat := by
  rw [List.take_add_one, List.getElem?_eq_getElem h]
  simp only [Option.toList_some]
  rw [numOf_snoc]
  simp [List.getD, List.getElem?_eq_getElem h]

theorem numOf_take_lt (l : List Bool) (j : Nat) : numOf (l.take j) < 2 ^ j := by
  have h1 := numOf_lt (l.take j)
  have h2 : (2 : Nat) ^ (l.take j).length ≤ 2 ^ j := Nat.pow_le_pow_right (by decide) (List.length_take_le _ _)
  omega

theorem pow_le_nat (k m : Nat) (h : k ≤ m) : (2 : Nat) ^ k ≤ 2 ^ m := Nat.pow_le_pow_right (by decide) h

/-- The last bits of a number laid from behind, and as many zeros as are still to be laid over. -/
theorem ref_step (n : Int) (k j : Nat) (h : j < k) :
    (List.replicate (k - j) (Value.bool false) ++ ((bitsOf n k).drop (k - j)).map Value.bool).set (k - 1 - j) (.bool (bitAt n j)) = List.replicate (k - (j + 1)) (Value.bool false) ++ ((bitsOf n k).drop (k - (j + 1))).map Value.bool := by
  obtain ⟨m, hm⟩ : ∃ m, k - j = m + 1 := ⟨k - j - 1, by omega⟩
  have h1 : k - 1 - j = m := by omega
  have h2 : k - (j + 1) = m := by omega
  have hd : (bitsOf n k).drop m = bitAt n j :: (bitsOf n k).drop (m + 1) := by
    have hlt : m < (bitsOf n k).length := by rw [length_bitsOf]; omega
    rw [List.drop_eq_getElem_cons hlt]
    congr 1
    have hg := bitsOf_get n k m (by omega)
    rw [List.getElem?_eq_getElem hlt] at hg
    have := Option.some.inj hg
    rw [this]
    congr 1
    omega
  rw [hm, h1, h2, hd, List.replicate_succ', List.append_assoc, List.set_append_right _ _ (by simp)]
  simp

theorem half_half (n : Int) (j : Nat) : n / 2 ^ j / 2 = n / 2 ^ (j + 1) := by
  rw [Int.pow_succ, Int.ediv_ediv_of_nonneg (Int.le_of_lt (pow_pos j))]

theorem bit_ref (n : Int) (j : Nat) : (n / 2 ^ j % 2 == 1) = bitAt n j := by
  unfold bitAt
  rw [Bool.eq_iff_iff]
  simp

/-- What Put answers: the error, the bits. -/
def putOk (n width : Int) : Bool := okW width && okN n width
def putE (n width : Int) : Int := if putOk n width then 0 else 3
def putL (l : List Bool) (n width : Int) : List Bool := if putOk n width then l ++ bitsOf n width.toNat else []
/-- What Take answers: the number, the bits behind, the error. -/
def takeOk (l : List Bool) (width : Int) : Bool := okW width && decide (width ≤ l.length)
def takeN (l : List Bool) (width : Int) : Int := if takeOk l width then numOf (l.take width.toNat) else 0
def takeL (l : List Bool) (width : Int) : List Bool := if takeOk l width then l.drop width.toNat else []
def takeE (l : List Bool) (width : Int) : Int := if takeOk l width then 0 else if okW width then 8 else 3

theorem putL_length (l : List Bool) (n width : Int) (hl : l.length ≤ 140737488351232) : (putL l n width).length ≤ 140737488355328 := by
  unfold putL
  split
  · rename_i h
    have hw := okW_true (by unfold putOk at h; simp at h; exact h.1)
    rw [List.length_append, length_bitsOf]
    omega
  · simp

theorem takeL_length (l : List Bool) (width : Int) (hl : l.length ≤ 140737488355328) : (takeL l width).length ≤ 140737488355328 := by
  unfold takeL
  split
  · rw [List.length_drop]; omega
  · simp

/-- The number of the last bits, one more from behind. -/
theorem numOf_behind (l : List Bool) (k j : Nat) (hk : k ≤ l.length) (h : j < k) : numOf ((l.take k).drop (k - (j + 1))) = (l.getD (k - 1 - j) false).toNat * 2 ^ j + numOf ((l.take k).drop (k - j)) := by
  obtain ⟨m, hm⟩ : ∃ m, k - (j + 1) = m := ⟨_, rfl⟩
  have h1 : k - 1 - j = m := by omega
  have h2 : k - j = m + 1 := by omega
  have hlt : m < (l.take k).length := by simp; omega
  rw [hm, h1, h2, List.drop_eq_getElem_cons hlt, numOf]
  have hl : ((l.take k).drop (m + 1)).length = j := by simp; omega
  rw [hl]
  congr 2
  simp [List.getD, List.getElem?_eq_getElem (show m < l.length by omega)]

theorem numOf_behind_lt (l : List Bool) (k j : Nat) (hk : k ≤ l.length) (h : j ≤ k) : numOf ((l.take k).drop (k - j)) < 2 ^ j := by
  have h1 := numOf_lt ((l.take k).drop (k - j))
  have hl : ((l.take k).drop (k - j)).length = j := by simp; omega
  rw [hl] at h1
  exact h1

end Go.Proofs.YthoclnjfbigdiaaDoor
