/-
  More of sums as plain numbers: sums of parts, whichever is joined first; the least and the greatest of few small numbers, and all together between.
-/
import Derived.Test.YtcbhpikcnhefbabSumMath
namespace Go.Proofs.Ytcbhpikcnhefbab
open Go.RowKit

theorem joinS_nil (a b : Sm) (h : a.n = 0) : joinS a b = b := if_pos h
theorem joinS_end (a b : Sm) (h : a.n ≠ 0) (h2 : b.n = 0) : joinS a b = a := by
  unfold joinS
  rw [if_neg h, if_pos h2]
theorem joinS_both (a b : Sm) (h : a.n ≠ 0) (h2 : b.n ≠ 0) : joinS a b = ⟨wrap64 (a.n + b.n), min a.lo b.lo, max a.hi b.hi, wrap64 (a.tot + b.tot)⟩ := by
  unfold joinS
  rw [if_neg h, if_neg h2]

theorem wrap_id {x : Int} (h0 : 0 ≤ x) (h1 : x ≤ 9223372036854775807) : wrap64 x = x := by
  unfold wrap64
  omega

theorem joinS_n (a b : Sm) (ha : 0 ≤ a.n) (hb : 0 ≤ b.n) (h : a.n + b.n ≤ 9223372036854775807) : (joinS a b).n = a.n + b.n := by
  by_cases h1 : a.n = 0
  · rw [joinS_nil a b h1]; omega
  · by_cases h2 : b.n = 0
    · rw [joinS_end a b h1 h2]; omega
    · rw [joinS_both a b h1 h2]
      exact wrap_id (by omega) h

theorem joinS_assoc (a b c : Sm) (ha : 0 ≤ a.n) (hb : 0 ≤ b.n) (hc : 0 ≤ c.n) (h : a.n + b.n + c.n ≤ 9223372036854775807) : joinS (joinS a b) c = joinS a (joinS b c) := by
  by_cases h1 : a.n = 0
  · rw [joinS_nil a b h1, joinS_nil a _ h1]
  · by_cases h2 : b.n = 0
    · rw [joinS_end a b h1 h2, joinS_nil b c h2]
    · have n1 := joinS_n a b ha hb (by omega)
      by_cases h3 : c.n = 0
      · rw [joinS_end b c h2 h3, joinS_end (joinS a b) c (by omega) h3]
      · have n2 := joinS_n b c hb hc (by omega)
        rw [joinS_both (joinS a b) c (by omega) h3, joinS_both a (joinS b c) h1 (by omega), n1, n2, joinS_both a b h1 h2, joinS_both b c h2 h3]
        simp only [Sm.mk.injEq]
        refine ⟨by rw [Int.add_assoc], by omega, by omega, ?_⟩
        unfold wrap64
        omega

theorem joinS_comm (a b : Sm) (h : a.n ≠ 0 ∨ b.n ≠ 0 ∨ a = b) : joinS a b = joinS b a := by
  by_cases h1 : a.n = 0
  · rw [joinS_nil a b h1]
    by_cases h2 : b.n = 0
    · rcases h with h | h | h
      · exact absurd h1 h
      · exact absurd h2 h
      · rw [h, joinS_nil b b h2]
    · rw [joinS_end b a h2 h1]
  · by_cases h2 : b.n = 0
    · rw [joinS_end a b h1 h2, joinS_nil b a h2]
    · rw [joinS_both a b h1 h2, joinS_both b a h2 h1, Int.add_comm a.n, Int.min_comm a.lo, Int.max_comm a.hi, Int.add_comm a.tot]

theorem sumFrom_join : ∀ (l : List Pt) (s t : Sm), 0 ≤ s.n → 0 ≤ t.n → s.n + t.n + l.length ≤ 9223372036854775807 → joinS s (sumFrom t l) = sumFrom (joinS s t) l
  | [], _, _, _, _, _ => rfl
  | p :: r, s, t, hs, ht, h => by
    rw [List.length_cons] at h
    have e1 : (sm1 p.2).n = 1 := rfl
    have n1 := joinS_n t (sm1 p.2) ht (by omega) (by omega)
    rw [sumFrom, sumFrom_join r s _ hs (by omega) (by omega), sumFrom, joinS_assoc s t _ hs ht (by omega) (by omega)]

theorem sumFrom_n : ∀ (l : List Pt) (s : Sm), 0 ≤ s.n → s.n + l.length ≤ 9223372036854775807 → (sumFrom s l).n = s.n + l.length
  | [], s, _, _ => by simp [sumFrom]
  | p :: r, s, hs, h => by
    rw [List.length_cons] at h ⊢
    have e1 : (sm1 p.2).n = 1 := rfl
    have n1 := joinS_n s (sm1 p.2) hs (by omega) (by omega)
    rw [sumFrom, sumFrom_n r _ (by omega) (by omega)]
    omega

theorem sumS_n (l : List Pt) (h : l.length ≤ 9223372036854775807) : (sumS l).n = l.length := by
  rw [sumS, sumFrom_n l sm0 (Int.le_refl 0) (by simp only [sm0]; omega)]
  simp [sm0]

theorem sumFrom_append : ∀ (x y : List Pt) (s : Sm), sumFrom s (x ++ y) = sumFrom (sumFrom s x) y
  | [], _, _ => rfl
  | p :: r, y, s => sumFrom_append r y (joinS s (sm1 p.2))

/-- The sum of two parts is that of the whole. -/
theorem sumS_append (x y : List Pt) (h : x.length + y.length ≤ 9223372036854775807) : joinS (sumS x) (sumS y) = sumS (x ++ y) := by
  have hx := sumS_n x (by omega)
  have e0 : sm0.n = 0 := rfl
  have hj : joinS (sumS x) sm0 = sumS x := by
    by_cases h0 : (sumS x).n = 0
    · rw [joinS_nil _ _ h0]
      have : x = [] := List.eq_nil_of_length_eq_zero (by omega)
      rw [this]
      rfl
    · exact joinS_end _ _ h0 rfl
  have e : joinS (sumS x) (sumFrom sm0 y) = sumFrom (joinS (sumS x) sm0) y := sumFrom_join y (sumS x) sm0 (by omega) (by omega) (by omega)
  have a : sumS (x ++ y) = sumFrom (sumS x) y := sumFrom_append x y sm0
  rw [a, show sumS y = sumFrom sm0 y from rfl, e, hj]

/-- Whichever comes first. -/
theorem sumS_comm (x y : List Pt) (h : x.length + y.length ≤ 9223372036854775807) : joinS (sumS y) (sumS x) = sumS (x ++ y) := by
  have hx := sumS_n x (by omega)
  have hy := sumS_n y (by omega)
  rw [← sumS_append x y h]
  apply joinS_comm
  by_cases h1 : y = []
  · by_cases h2 : x = []
    · right; right; rw [h1, h2]
    · right; left
      have : x.length ≠ 0 := fun e => h2 (List.eq_nil_of_length_eq_zero e)
      omega
  · left
    have : y.length ≠ 0 := fun e => h1 (List.eq_nil_of_length_eq_zero e)
    omega

/-- What a sum of few small numbers is held to. -/
structure Few (s : Sm) : Prop where
  one : 1 ≤ s.n
  lo : -1000000 ≤ s.lo
  hi : s.hi ≤ 1000000
  le : s.lo ≤ s.hi
  low : s.n * s.lo ≤ s.tot
  high : s.tot ≤ s.n * s.hi
  small : -1000000 * s.n ≤ s.tot
  great : s.tot ≤ 1000000 * s.n

theorem Few.step {s : Sm} (h : Few s) (v : Int) (h0 : -1000000 ≤ v) (h1 : v ≤ 1000000) (hn : s.n ≤ 40) : joinS s (sm1 v) = ⟨s.n + 1, min s.lo v, max s.hi v, s.tot + v⟩ ∧ Few ⟨s.n + 1, min s.lo v, max s.hi v, s.tot + v⟩ := by
  obtain ⟨n, lo, hi, tot⟩ := s
  obtain ⟨g1, g2, g3, g4, g5, g6, g7, g8⟩ := h
  simp only at *
  constructor
  · rw [joinS_both _ _ (by simp only; omega) (by simp [sm1])]
    simp only [sm1, Sm.mk.injEq, true_and]
    constructor
    · unfold wrap64; omega
    · unfold wrap64; omega
  · have k1 : n * min lo v ≤ n * lo := Int.mul_le_mul_of_nonneg_left (by omega) (by omega)
    have k2 : n * hi ≤ n * max hi v := Int.mul_le_mul_of_nonneg_left (by omega) (by omega)
    refine ⟨by simp only; omega, by simp only; omega, by simp only; omega, by simp only; omega, ?_, ?_, by simp only; omega, by simp only; omega⟩
    · simp only
      rw [Int.add_mul, Int.one_mul]
      omega
    · simp only
      rw [Int.add_mul, Int.one_mul]
      omega

/-- What few small numbers come to. -/
theorem sum_bounds : ∀ (l : List Pt) (s : Sm), Few s → s.n + l.length ≤ 40 → (∀ p ∈ l, -1000000 ≤ p.2 ∧ p.2 ≤ 1000000) →
    Few (sumFrom s l) ∧ (sumFrom s l).lo ≤ s.lo ∧ s.hi ≤ (sumFrom s l).hi ∧ (∀ p ∈ l, (sumFrom s l).lo ≤ p.2 ∧ p.2 ≤ (sumFrom s l).hi) ∧ ((sumFrom s l).lo = s.lo ∨ ∃ p ∈ l, p.2 = (sumFrom s l).lo) ∧ ((sumFrom s l).hi = s.hi ∨ ∃ p ∈ l, p.2 = (sumFrom s l).hi)
  | [], s, f, _, _ => ⟨f, Int.le_refl _, Int.le_refl _, fun p hp => by simp at hp, .inl rfl, .inl rfl⟩
  | p :: r, s, f, h, hv => by
    rw [List.length_cons] at h
    obtain ⟨v0, v1⟩ := hv p List.mem_cons_self
    obtain ⟨e, f'⟩ := f.step p.2 v0 v1 (by omega)
    obtain ⟨i1, i2, i3, i4, i5, i6⟩ := sum_bounds r _ f' (by simp only; omega) (fun q hq => hv q (List.mem_cons_of_mem _ hq))
    rw [sumFrom, e]
    simp only at i2 i3 i5 i6
    clear e f' hv f
    generalize sumFrom _ r = R at *
    refine ⟨i1, by clear i5 i6; omega, by clear i5 i6; omega, ?_, ?_, ?_⟩
    · clear i5 i6
      intro q hq
      rcases List.mem_cons.1 hq with rfl | hq
      · omega
      · exact i4 q hq
    · clear i6
      rcases i5 with i5 | ⟨q, hq, eq⟩
      · by_cases hm : s.lo ≤ p.2
        · left; omega
        · right; exact ⟨p, List.mem_cons_self, by omega⟩
      · right; exact ⟨q, List.mem_cons_of_mem _ hq, eq⟩
    · clear i5
      rcases i6 with i6 | ⟨q, hq, eq⟩
      · by_cases hm : p.2 ≤ s.hi
        · left; omega
        · right; exact ⟨p, List.mem_cons_self, by omega⟩
      · right; exact ⟨q, List.mem_cons_of_mem _ hq, eq⟩

/-- Of a list that has some. -/
theorem sumS_bounds (l : List Pt) (hne : l ≠ []) (h : l.length ≤ 40) (hv : ∀ p ∈ l, -1000000 ≤ p.2 ∧ p.2 ≤ 1000000) :
    Few (sumS l) ∧ (∀ p ∈ l, (sumS l).lo ≤ p.2 ∧ p.2 ≤ (sumS l).hi) ∧ (∃ p ∈ l, p.2 = (sumS l).lo) ∧ (∃ p ∈ l, p.2 = (sumS l).hi) := by
  cases l with
  | nil => exact absurd rfl hne
  | cons p r =>
    rw [List.length_cons] at h
    obtain ⟨v0, v1⟩ := hv p List.mem_cons_self
    have f : Few (sm1 p.2) := by
      refine ⟨Int.le_refl _, v0, v1, Int.le_refl _, ?_, ?_, ?_, ?_⟩ <;> simp only [sm1] <;> omega
    obtain ⟨i1, i2, i3, i4, i5, i6⟩ := sum_bounds r (sm1 p.2) f (by simp only [sm1]; omega) (fun q hq => hv q (List.mem_cons_of_mem _ hq))
    rw [sumS_cons]
    have e1 : (sm1 p.2).lo = p.2 := rfl
    have e2 : (sm1 p.2).hi = p.2 := rfl
    refine ⟨i1, ?_, ?_, ?_⟩
    · clear i5 i6
      intro q hq
      rcases List.mem_cons.1 hq with rfl | hq
      · omega
      · exact i4 q hq
    · clear i6
      rcases i5 with i5 | ⟨q, hq, eq⟩
      · exact ⟨p, List.mem_cons_self, by omega⟩
      · exact ⟨q, List.mem_cons_of_mem _ hq, eq⟩
    · clear i5
      rcases i6 with i6 | ⟨q, hq, eq⟩
      · exact ⟨p, List.mem_cons_self, by omega⟩
      · exact ⟨q, List.mem_cons_of_mem _ hq, eq⟩

end Go.Proofs.Ytcbhpikcnhefbab
