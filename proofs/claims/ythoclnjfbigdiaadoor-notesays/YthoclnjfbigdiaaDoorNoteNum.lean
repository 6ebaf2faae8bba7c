/-
  strconv.Atoi of strconv.Itoa is the number, as plain lists; a numeral has no blank. No program is named.
-/
import Derived.Test.YthoclnjfbigdiaaDoorNoteSplit
namespace Go.Proofs.YthoclnjfbigdiaaDoor
open Go.Lib (parseUint10 decDigits itoa atoiAll parseMag)

theorem parse_append (l m : List UInt8) : ∀ acc v, parseUint10 acc l = .ok v → parseUint10 acc (l ++ m) = parseUint10 v m := by
  induction l with
  | nil =>
    intro acc v h
    simp only [parseUint10] at h
    injection h with h
    subst h
    rfl
  | cons c r ih =>
    intro acc v h
    simp only [parseUint10] at h
    simp only [List.cons_append, parseUint10]
    split at h
    · rename_i h1
      rw [if_pos h1]
      split at h
      · cases h
      · rename_i h2
        rw [if_neg h2]
        split at h
        · cases h
        · rename_i h3
          rw [if_neg h3]
          exact ih _ v h
    · cases h

theorem digit_toNat {d : Nat} (h : d < 10) : (UInt8.ofNat (48 + d)).toNat = 48 + d := by
  rw [UInt8.toNat_ofNat']
  omega

theorem parse_dec (u : Nat) (h : u < 18446744073709551616) : parseUint10 0 (decDigits u) = .ok u := by
  induction u using Nat.strongRecOn with
  | _ u ih =>
    rw [decDigits]
    split
    · rename_i h1
      simp only [parseUint10, digit_toNat h1]
      rw [if_pos (by omega), if_neg (by omega), if_neg (by omega)]
      simp
    · rename_i h1
      rw [parse_append _ _ 0 (u / 10) (ih (u / 10) (by omega) (by omega))]
      simp only [parseUint10, digit_toNat (show u % 10 < 10 by omega)]
      rw [if_pos (by omega), if_neg (by omega), if_neg (by omega)]
      congr 1
      omega

theorem dec_digits (u : Nat) : ∀ c ∈ decDigits u, 48 ≤ c.toNat ∧ c.toNat ≤ 57 := by
  induction u using Nat.strongRecOn with
  | _ u ih =>
    intro c hc
    rw [decDigits] at hc
    split at hc
    · rename_i h1
      obtain rfl := List.mem_singleton.1 hc
      rw [digit_toNat h1]
      omega
    · rename_i h1
      rcases List.mem_append.1 hc with hc | hc
      · exact ih (u / 10) (by omega) c hc
      · obtain rfl := List.mem_singleton.1 hc
        rw [digit_toNat (show u % 10 < 10 by omega)]
        omega

theorem dec_ne (u : Nat) : decDigits u ≠ [] := by
  rw [decDigits]
  split <;> simp

theorem itoa_plain (n : Int) : ∀ c ∈ itoa n, c ≠ 32 := by
  intro c hc e
  subst e
  unfold itoa at hc
  split at hc
  · rcases List.mem_cons.1 hc with h | h
    · cases h
    · have := dec_digits _ _ h
      simp at this
  · have := dec_digits _ _ hc
    simp at this

theorem atoi_itoa (n : Int) (h0 : -9223372036854775808 ≤ n) (h1 : n ≤ 9223372036854775807) : atoiAll (itoa n) = .ok n := by
  unfold itoa
  split
  · rename_i hn
    have hm : parseMag (decDigits n.natAbs) = .ok n.natAbs := by
      unfold parseMag
      rw [if_neg (dec_ne _)]
      exact parse_dec _ (by omega)
    unfold atoiAll
    have e45 : (45 : UInt8).toNat = 45 := rfl
    simp only [e45, or_true, if_true, hm, not_true, false_and, if_false, true_and]
    rw [if_neg (by omega)]
    congr 1
    omega
  · rename_i hn
    obtain ⟨c, r, hcr⟩ := List.exists_cons_of_ne_nil (dec_ne n.toNat)
    have hd := dec_digits n.toNat c (by rw [hcr]; exact List.mem_cons_self)
    have hm : parseMag (c :: r) = .ok n.toNat := by
      rw [← hcr]
      unfold parseMag
      rw [if_neg (dec_ne _)]
      exact parse_dec _ (by omega)
    rw [hcr]
    unfold atoiAll
    have n1 : ¬ c.toNat = 43 := by omega
    have n2 : ¬ c.toNat = 45 := by omega
    simp only [n1, n2, or_self, if_false, hm, not_false_eq_true, true_and, false_and]
    rw [if_neg (by omega)]
    congr 1
    omega

theorem readNum_itoa (n : Int) (h0 : -9223372036854775808 ≤ n) (h1 : n ≤ 9223372036854775807) : readNum (itoa n) = some n := by
  unfold readNum
  rw [atoi_itoa n h0 h1]
  simp

theorem readNums_itoa : ∀ l : List Int, (∀ n ∈ l, -9223372036854775808 ≤ n ∧ n ≤ 9223372036854775807) → readNums (l.map itoa) = some l
  | [], _ => rfl
  | n :: r, h => by
    obtain ⟨h0, h1⟩ := h n List.mem_cons_self
    rw [List.map_cons, readNums, readNum_itoa n h0 h1, readNums_itoa r (fun m hm => h m (List.mem_cons_of_mem _ hm))]
    rfl

/-- What is read of words is what they write. -/
theorem readNums_back : ∀ (ws : List (List UInt8)) (ns : List Int), readNums ws = some ns → ws = ns.map itoa
  | [], ns, h => by
    simp only [readNums, Option.some.injEq] at h
    subst h
    rfl
  | w :: r, ns, h => by
    simp only [readNums] at h
    cases hx : readNum w with
    | none => rw [hx] at h; cases h
    | some v =>
      rw [hx] at h
      simp only [Option.bind_some] at h
      cases hr : readNums r with
      | none => rw [hr] at h; cases h
      | some vr =>
        rw [hr] at h
        simp only [Option.map_some, Option.some.injEq] at h
        subst h
        rw [List.map_cons, ← readNums_back r vr hr]
        unfold readNum at hx
        split at hx
        · split at hx
          · rename_i h2
            simp only [Option.some.injEq] at hx
            subst hx
            rw [h2]
          · cases hx
        · cases hx

theorem numsT_map (l : List Int) : numsT l = (l.map itoa).flatMap (fun x => 32 :: x) := by
  unfold numsT
  rw [List.flatMap_map]

end Go.Proofs.YthoclnjfbigdiaaDoor
