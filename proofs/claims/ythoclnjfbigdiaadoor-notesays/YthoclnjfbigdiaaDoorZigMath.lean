/-
  The numbers of chapter 2: folded, in groups of four bits, and back. No function of the program is named here.
-/
import Derived.Test.YthoclnjfbigdiaaDoorBitsMath
namespace Go.Proofs.YthoclnjfbigdiaaDoor
open Go.RowKit

theorem hide {p : Prop} (h : p) : Hid p := h

/-- A number that may be put. -/
def zigOk (v : Int) : Bool := decide (-4000000 ≤ v ∧ v ≤ 4000000)
def foldN (v : Int) : Nat := if v < 0 then (-2 * v - 1).toNat else (2 * v).toNat
def unfoldN (n : Nat) : Int := if n % 2 = 1 then -(((n : Int) + 1) / 2) else (n : Int) / 2
/-- A group: whether there are more, and three bits. -/
def grp (m : Bool) (d : Nat) : List Bool := [m, decide (4 ≤ d), decide (2 ≤ d % 4), decide (d % 2 = 1)]
/-- The groups of a number, so many at most. -/
def code : Nat → Nat → List Bool
  | 0, _ => []
  | f + 1, n => grp (decide (0 < n / 8)) (n % 8) ++ (if n / 8 = 0 then [] else code f (n / 8))
def zigL (l : List Bool) (v : Int) : List Bool := if zigOk v then l ++ code 8 (foldN v) else []
def zigE (v : Int) : Int := if zigOk v then 0 else 3
/-- What is taken, from the group with that number on. -/
def decode : Nat → Nat → Nat → List Bool → Int × List Bool × Int
  | 0, _, _, _ => (0, [], 3)
  | f + 1, i, n, l =>
    if l.length < 4 then (0, [], 8)
    else if 0 < i ∧ numOf (l.take 4) = 0 then (0, [], 4)
    else if 8000000 < n + numOf (l.take 4) % 8 * 8 ^ i then (0, [], 3)
    else if numOf (l.take 4) < 8 then (unfoldN (n + numOf (l.take 4) % 8 * 8 ^ i), l.drop 4, 0)
    else decode f (i + 1) (n + numOf (l.take 4) % 8 * 8 ^ i) (l.drop 4)
def zigN (l : List Bool) : Int := (decode 8 0 0 l).1
def zigR (l : List Bool) : List Bool := (decode 8 0 0 l).2.1
def zigF (l : List Bool) : Int := (decode 8 0 0 l).2.2

theorem grp_length (m : Bool) (d : Nat) : (grp m d).length = 4 := rfl

theorem grp_low (d : Nat) (h : d < 8) : bitsOf (d : Int) 4 = grp false d := by
  have : ∀ d : Fin 8, bitsOf ((d.val : Nat) : Int) 4 = grp false d.val := by decide
  exact this ⟨d, h⟩

theorem grp_high (d : Nat) (h : d < 8) : bitsOf ((d : Int) + 8) 4 = grp true d := by
  have : ∀ d : Fin 8, bitsOf (((d.val : Nat) : Int) + 8) 4 = grp true d.val := by decide
  exact this ⟨d, h⟩

theorem numOf_grp (m : Bool) (d : Nat) (h : d < 8) : numOf (grp m d) = m.toNat * 8 + d := by
  have : ∀ (m : Bool) (d : Fin 8), numOf (grp m d.val) = m.toNat * 8 + d.val := by decide
  exact this m ⟨d, h⟩

theorem four (l : List Bool) (h : ¬ l.length < 4) : ∃ a b c d r, l = a :: b :: c :: d :: r := by
  match l, h with
  | [], h => exact absurd (by simp) h
  | [_], h => exact absurd (by simp) h
  | [_, _], h => exact absurd (by simp) h
  | [_, _, _], h => exact absurd (by simp) h
  | a :: b :: c :: d :: r, _ => exact ⟨a, b, c, d, r, rfl⟩

theorem numOf_four (a b c d : Bool) : numOf [a, b, c, d] = 8 * a.toNat + (4 * b.toNat + 2 * c.toNat + d.toNat) := by
  revert a b c d; decide

theorem grp_four (a b c d : Bool) : grp (decide (8 ≤ numOf [a, b, c, d])) (numOf [a, b, c, d] % 8) = [a, b, c, d] := by
  revert a b c d; decide

theorem foldN_le (v : Int) (h : zigOk v = true) : foldN v ≤ 8000000 := by
  have := of_decide_eq_true h
  unfold foldN; split <;> omega

theorem unfold_fold (v : Int) : unfoldN (foldN v) = v := by
  unfold unfoldN foldN
  by_cases h : v < 0
  · rw [if_pos h]
    obtain ⟨m, hm⟩ : ∃ m : Nat, m = (-2 * v - 1).toNat := ⟨_, rfl⟩
    rw [← hm]
    split <;> omega
  · rw [if_neg h]
    obtain ⟨m, hm⟩ : ∃ m : Nat, m = (2 * v).toNat := ⟨_, rfl⟩
    rw [← hm]
    split <;> omega

theorem fold_unfold (n : Nat) : foldN (unfoldN n) = n := by
  unfold unfoldN
  by_cases h : n % 2 = 1
  · rw [if_pos h]
    unfold foldN
    split <;> omega
  · rw [if_neg h]
    unfold foldN
    split <;> omega

theorem unfold_ok (n : Nat) (h : n ≤ 8000000) : zigOk (unfoldN n) = true := by
  unfold zigOk unfoldN
  apply decide_eq_true
  split <;> omega

theorem code_len_le : ∀ (f n : Nat), (code f n).length ≤ 4 * f
  | 0, _ => by simp [code]
  | f + 1, n => by
    have := code_len_le f (n / 8)
    unfold code
    rw [List.length_append, grp_length]
    split
    · simp; omega
    · omega

theorem code_mono : ∀ (f m n : Nat), m ≤ n → (code f m).length ≤ (code f n).length
  | 0, _, _, _ => by simp [code]
  | f + 1, m, n, h => by
    have := code_mono f (m / 8) (n / 8) (by omega)
    unfold code
    rw [List.length_append, grp_length, List.length_append, grp_length]
    by_cases hm : m / 8 = 0
    · rw [if_pos hm]; simp
    · rw [if_neg hm, if_neg (by omega)]
      omega

theorem step_pow (m i : Nat) : m % 8 * 8 ^ i + m / 8 * 8 ^ (i + 1) = m * 8 ^ i := by
  rw [Nat.pow_succ, Nat.mul_comm (8 ^ i) 8, ← Nat.mul_assoc, ← Nat.add_mul]
  congr 1
  omega

/-- What was put is taken. -/
theorem decode_code : ∀ (f i n m : Nat) (r : List Bool), m < 8 ^ f → 0 < f → (0 < i → 0 < m) → n + m * 8 ^ i ≤ 8000000 → decode f i n (code f m ++ r) = (unfoldN (n + m * 8 ^ i), r, 0)
  | 0, _, _, _, _, _, h, _, _ => absurd h (by simp)
  | f + 1, i, n, m, r, hm, _, hi, hb => by
    have hstep := step_pow m i
    have hpi : 0 < 8 ^ i := Nat.pow_pos (by decide)
    have hg := numOf_grp (decide (0 < m / 8)) (m % 8) (Nat.mod_lt _ (by decide))
    have hle : n + m % 8 * 8 ^ i ≤ 8000000 := by
      have : 0 ≤ m / 8 * 8 ^ (i + 1) := Nat.zero_le _
      omega
    have htake : ∀ t : List Bool, (grp (decide (0 < m / 8)) (m % 8) ++ t).take 4 = grp (decide (0 < m / 8)) (m % 8) := fun t => rfl
    have hdrop : ∀ t : List Bool, (grp (decide (0 < m / 8)) (m % 8) ++ t).drop 4 = t := fun t => rfl
    rw [code, List.append_assoc, decode, htake, hdrop, hg]
    rw [if_neg (by rw [List.length_append, grp_length]; omega)]
    by_cases hz : m / 8 = 0
    · have h0 : ¬ 0 < m / 8 := by omega
      have hmm : m % 8 = m := by omega
      rw [decide_eq_false h0, if_pos hz, hmm]
      simp only [Bool.toNat_false, Nat.zero_mul, Nat.zero_add, hmm, List.nil_append]
      rw [if_neg (by rintro ⟨h1, h2⟩; have := hi h1; omega), if_neg (by omega), if_pos (by omega)]
    · have h0 : 0 < m / 8 := by omega
      rw [decide_eq_true h0, if_neg hz]
      simp only [Bool.toNat_true, Nat.one_mul]
      have h8 : (8 + m % 8) % 8 = m % 8 := by omega
      rw [h8, if_neg (by rintro ⟨h1, h2⟩; omega), if_neg (by omega), if_neg (by omega)]
      have hf : 0 < f := by
        cases f with
        | zero => simp at hm; omega
        | succ f => omega
      have hpf : m / 8 < 8 ^ f := by
        rw [Nat.pow_succ] at hm
        exact Nat.div_lt_of_lt_mul (by rw [Nat.mul_comm]; exact hm)
      rw [decode_code f (i + 1) _ (m / 8) r hpf hf (fun _ => h0) (by omega)]
      have : n + m % 8 * 8 ^ i + m / 8 * 8 ^ (i + 1) = n + m * 8 ^ i := by omega
      rw [this]

/-- What is taken was put. -/
theorem code_decode : ∀ (f i n : Nat) (l : List Bool) (z : Int) (r : List Bool), decode f i n l = (z, r, 0) → ∃ m, m < 8 ^ f ∧ (0 < i → 0 < m) ∧ n + m * 8 ^ i ≤ 8000000 ∧ z = unfoldN (n + m * 8 ^ i) ∧ l = code f m ++ r
  | 0, _, _, _, _, _, h => by simp [decode] at h
  | f + 1, i, n, l, z, r, h => by
    rw [decode] at h
    by_cases h4 : l.length < 4
    · rw [if_pos h4] at h; simp at h
    rw [if_neg h4] at h
    obtain ⟨a, b, c, d, t, rfl⟩ := four l h4
    have ht : (a :: b :: c :: d :: t).take 4 = [a, b, c, d] := rfl
    have hd : (a :: b :: c :: d :: t).drop 4 = t := rfl
    rw [ht, hd] at h
    have hg := grp_four a b c d
    have hlt : numOf [a, b, c, d] < 16 := numOf_lt [a, b, c, d]
    have hl : a :: b :: c :: d :: t = [a, b, c, d] ++ t := rfl
    rw [hl, ← hg]
    generalize numOf [a, b, c, d] = g at *
    by_cases h1 : 0 < i ∧ g = 0
    · rw [if_pos h1] at h; simp at h
    rw [if_neg h1] at h
    by_cases h2 : 8000000 < n + g % 8 * 8 ^ i
    · rw [if_pos h2] at h; simp at h
    rw [if_neg h2] at h
    by_cases h3 : g < 8
    · rw [if_pos h3] at h
      simp only [Prod.mk.injEq, and_true] at h
      have hgg : g % 8 = g := by omega
      rw [hgg] at h2 h
      have hz : g / 8 = 0 := by omega
      refine ⟨g, ?_, fun hi => ?_, by omega, ?_, ?_⟩
      · rw [Nat.pow_succ]
        have : 0 < 8 ^ f := Nat.pow_pos (by decide)
        omega
      · by_cases g0 : g = 0
        · exact absurd ⟨hi, g0⟩ h1
        · omega
      · exact h.1.symm
      · rw [code, if_pos hz, decide_eq_false (show ¬ 8 ≤ g by omega), decide_eq_false (show ¬ 0 < g / 8 by omega), h.2]
        simp
    · rw [if_neg h3] at h
      obtain ⟨m, q1, q2, q3, q4, q5⟩ := code_decode f (i + 1) _ t z r h
      have hm := q2 (by omega)
      have e1 : (g % 8 + 8 * m) / 8 = m := by omega
      have e2 : (g % 8 + 8 * m) % 8 = g % 8 := by omega
      have hst := step_pow (g % 8 + 8 * m) i
      rw [e1, e2] at hst
      refine ⟨g % 8 + 8 * m, ?_, fun _ => by omega, by omega, ?_, ?_⟩
      · rw [Nat.pow_succ]; omega
      · rw [q4]; congr 1; omega
      · rw [code, e1, e2, if_neg (by omega), decide_eq_true (show 8 ≤ g by omega), decide_eq_true hm, List.append_assoc, ← q5]

/-- The digits of a number, so many at most. -/
def digs : Nat → Nat → List Nat
  | 0, _ => []
  | f + 1, n => n % 8 :: (if n / 8 = 0 then [] else digs f (n / 8))
def enc : List Nat → List Bool
  | [] => []
  | d :: r => grp (decide (0 < r.length)) d ++ enc r

theorem digs_pos (f n : Nat) (h : 0 < f) : 0 < (digs f n).length := by
  cases f with
  | zero => omega
  | succ f => simp [digs]

theorem digs_len_le : ∀ (f n : Nat), (digs f n).length ≤ f
  | 0, _ => by simp [digs]
  | f + 1, n => by
    have := digs_len_le f (n / 8)
    unfold digs
    split
    · simp
    · simp; omega

theorem digs_lt : ∀ (f n : Nat), ∀ d ∈ digs f n, d < 8
  | 0, _, d, h => by simp [digs] at h
  | f + 1, n, d, h => by
    unfold digs at h
    rcases List.mem_cons.1 h with rfl | h
    · exact Nat.mod_lt _ (by decide)
    · split at h
      · simp at h
      · exact digs_lt f (n / 8) d h

theorem enc_digs : ∀ (f n : Nat), n < 8 ^ f → 0 < f → enc (digs f n) = code f n
  | 0, _, _, h => absurd h (by simp)
  | f + 1, n, hn, _ => by
    rw [digs, enc, code]
    by_cases hz : n / 8 = 0
    · rw [if_pos hz, if_pos hz, decide_eq_false (show ¬ 0 < n / 8 by omega)]
      simp [enc]
    · have hf : 0 < f := by
        cases f with
        | zero => simp at hn; omega
        | succ f => omega
      have hpf : n / 8 < 8 ^ f := by
        rw [Nat.pow_succ] at hn
        exact Nat.div_lt_of_lt_mul (by rw [Nat.mul_comm]; exact hn)
      rw [if_neg hz, if_neg hz, enc_digs f _ hpf hf, decide_eq_true (digs_pos f _ hf), decide_eq_true (show 0 < n / 8 by omega)]

theorem zigL_length (l : List Bool) (v : Int) : (zigL l v).length ≤ l.length + 32 := by
  unfold zigL
  split
  · have := code_len_le 8 (foldN v)
    rw [List.length_append]; omega
  · simp

theorem decode_length : ∀ (f i n : Nat) (l : List Bool), (decode f i n l).2.1.length ≤ l.length
  | 0, _, _, _ => by simp [decode]
  | f + 1, i, n, l => by
    have := decode_length f (i + 1) (n + numOf (l.take 4) % 8 * 8 ^ i) (l.drop 4)
    rw [decode]
    split
    · simp
    · split
      · simp
      · split
        · simp
        · split
          · simp
          · refine Nat.le_trans this ?_
            simp

theorem zigR_length (l : List Bool) : (zigR l).length ≤ l.length := decode_length 8 0 0 l

/-- P2.3, of a number: put, then taken. -/
theorem zig_taken (v : Int) (r : List Bool) (h : zigOk v = true) : decode 8 0 0 (code 8 (foldN v) ++ r) = (v, r, 0) := by
  have hb := foldN_le v h
  rw [decode_code 8 0 0 (foldN v) r (by omega) (by decide) (fun h => absurd h (by decide)) (by omega)]
  simp [unfold_fold]

/-- P2.3, of bits: taken, then put. -/
theorem zig_put (l : List Bool) (h : zigF l = 0) : zigOk (zigN l) = true ∧ code 8 (foldN (zigN l)) ++ zigR l = l := by
  obtain ⟨m, _, _, q3, q4, q5⟩ := code_decode 8 0 0 l (zigN l) (zigR l) (by
    unfold zigN zigR
    rw [show (0 : Int) = (decode 8 0 0 l).2.2 from h.symm])
  simp only [Nat.zero_add, Nat.pow_zero, Nat.mul_one] at q3 q4
  rw [q4, fold_unfold]
  exact ⟨unfold_ok m q3, q5.symm⟩

theorem near_less (v w : Int) (h : max v (-v) < max w (-w)) : (code 8 (foldN v)).length ≤ (code 8 (foldN w)).length := by
  apply code_mono
  unfold foldN
  split <;> split <;> omega

end Go.Proofs.YthoclnjfbigdiaaDoor
