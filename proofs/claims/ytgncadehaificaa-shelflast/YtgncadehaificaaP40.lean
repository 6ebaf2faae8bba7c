/-
  More of sums as plain numbers: sums of parts, whichever is joined first; the least and the greatest of few small numbers, and all together between.
-/
import Derived.Test.YtgncadehaificaaP04
import Derived.Test.YtgncadehaificaaP25
namespace Go.Proofs.Ytgncadehaificaa
open Go.RowKit

theorem joinS_nil (a b : Sm) (h : a.n = 0) : joinS a b = b := if_pos h
theorem joinS_end (a b : Sm) (h : a.n ≠ 0) (h2 : b.n = 0) : joinS a b = a := by
  unfold joinS
  rw [if_neg h, if_pos h2]
theorem joinS_both (a b : Sm) (h : a.n ≠ 0) (h2 : b.n ≠ 0) : joinS a b = ⟨wrap64 (a.n + b.n), min a.lo b.lo, max a.hi b.hi, wrap64 (a.tot + b.tot)⟩ := by
  unfold joinS
  rw [if_neg h, if_neg h2]

theorem wrap_id {x : Int} (h0 : 0 ≤ x) (h1 : x ≤ 9223372036854775807) : wrap64 x = x := by
  unfold wrap64
  omega

theorem joinS_n (a b : Sm) (ha : 0 ≤ a.n) (hb : 0 ≤ b.n) (h : a.n + b.n ≤ 9223372036854775807) : (joinS a b).n = a.n + b.n := by
  by_cases h1 : a.n = 0
  · rw [joinS_nil a b h1]; omega
  · by_cases h2 : b.n = 0
    · rw [joinS_end a b h1 h2]; omega
    · rw [joinS_both a b h1 h2]
      exact wrap_id (by omega) h

theorem joinS_assoc (a b c : Sm) (ha : 0 ≤ a.n) (hb : 0 ≤ b.n) (hc : 0 ≤ c.n) (h : a.n + b.n + c.n ≤ 9223372036854775807) : joinS (joinS a b) c = joinS a (joinS b c) := by
  by_cases h1 : a.n = 0
  · rw [joinS_nil a b h1, joinS_nil a _ h1]
  · by_cases h2 : b.n = 0
    · rw [joinS_end a b h1 h2, joinS_nil b c h2]
    · have n1 := joinS_n a b ha hb (by omega)
      by_cases h3 : c.n = 0
      · rw [joinS_end b c h2 h3, joinS_end (joinS a b) c (by omega) h3]
      · have n2 := joinS_n b c hb hc (by omega)
        rw [joinS_both (joinS a b) c (by omega) h3, joinS_both a (joinS b c) h1 (by omega), n1, n2, joinS_both a b h1 h2, joinS_both b c h2 h3]
        simp only [Sm.mk.injEq]
        refine ⟨by rw [Int.add_assoc], by omega, by omega, ?_⟩
        unfold wrap64
        omega

theorem joinS_comm (a b : Sm) (h : a.n ≠ 0 ∨ b.n ≠ 0 ∨ a = b) : joinS a b = joinS b a := by
  by_cases h1 : a.n = 0
  · rw [joinS_nil a b h1]
    by_cases h2 : b.n = 0
    · rcases h with h | h | h
      · exact absurd h1 h
      · exact absurd h2 h
      · rw [h, joinS_nil b b h2]
    · rw [joinS_end b a h2 h1]
  · by_cases h2 : b.n = 0
    · rw [joinS_end a b h1 h2, joinS_nil b a h2]
    · rw [joinS_both a b h1 h2, joinS_both b a h2 h1, Int.add_comm a.n, Int.min_comm a.lo, Int.max_comm a.hi, Int.add_comm a.tot]

theorem sumFrom_join : ∀ (l : List Pt) (s t : Sm), 0 ≤ s.n → 0 ≤ t.n → s.n + t.n + l.length ≤ 9223372036854775807 → joinS s (sumFrom t l) = sumFrom (joinS s t) l
  | [], _, _, _, _, _ => rfl
  | p :: r, s, t, hs, ht, h => by
    rw [List.length_cons] at h
    have e1 : (sm1 p.2).n = 1 := rfl
    have n1 := joinS_n t (sm1 p.2) ht (by omega) (by omega)
    rw [sumFrom, sumFrom_join r s _ hs (by omega) (by omega), sumFrom, joinS_assoc s t _ hs ht (by omega) (by omega)]

theorem sumFrom_n : ∀ (l : List Pt) (s : Sm), 0 ≤ s.n → s.n + l.length ≤ 9223372036854775807 → (sumFrom s l).n = s.n + l.length
  | [], s, _, _ => by simp [sumFrom]
  | p :: r, s, hs, h => by
    rw [List.length_cons] at h ⊢
    have e1 : (sm1 p.2).n = 1 := rfl
    have n1 := joinS_n s (sm1 p.2) hs (by omega) (by omega)
    rw [sumFrom, sumFrom_n r _ (by omega) (by omega)]
    omega

theorem sumS_n (l : List Pt) (h : l.length ≤ 9223372036854775807) : (sumS l).n = l.length := by
  rw [sumS, sumFrom_n l sm0 (Int.le_refl 0) (by simp only [sm0]; omega)]
  simp [sm0]

theorem sumFrom_append : ∀ (x y : List Pt) (s : Sm), sumFrom s (x ++ y) = sumFrom (sumFrom s x) y
  | [], _, _ => rfl
  | p :: r, y, s => sumFrom_append r y (joinS s (sm1 p.2))

/-- The sum of two parts is that of the whole. -/
theorem sumS_append (x y : List Pt) (h : x.length + y.length ≤ 9223372036854775807) : joinS (sumS x) (sumS y) = sumS (x ++ y) := by
  have hx := sumS_n x (by omega)
  have e0 : sm0.n = 0 := rfl
  have hj : joinS (sumS x) sm0 = sumS x := by
    by_cases h0 : (sumS x).n = 0
    · rw [joinS_nil _ _ h0]
      have : x = [] := List.eq_nil_of_length_eq_zero (by omega)
      rw [this]
      rfl
    · exact joinS_end _ _ h0 rfl
  have e : joinS (sumS x) (sumFrom sm0 y) = sumFrom (joinS (sumS x) sm0) y := sumFrom_join y (sumS x) sm0 (by omega) (by omega) (by omega)
  have a : sumS (x ++ y) = sumFrom (sumS x) y := sumFrom_append x y sm0
  rw [a, show sumS y = sumFrom sm0 y from rfl, e, hj]

/-- Whichever comes first. -/
theorem sumS_comm (x y : List Pt) (h : x.length + y.length ≤ 9223372036854775807) : joinS (sumS y) (sumS x) = sumS (x ++ y) := by
  have hx := sumS_n x (by omega)
  have hy := sumS_n y (by omega)
  rw [← sumS_append x y h]
  apply joinS_comm
  by_cases h1 : y = []
  · by_cases h2 : x = []
    · right; right; rw [h1, h2]
    · right; left
      have : x.length ≠ 0 := fun e => h2 (List.eq_nil_of_length_eq_zero e)
      omega
  · left
    have : y.length ≠ 0 := fun e => h1 (List.eq_nil_of_length_eq_zero e)
    omega

/-- What a sum of few small numbers is held to. -/
structure Few (s : Sm) : Prop where
  one : 1 ≤ s.n
  lo : -1000000 ≤ s.lo
  hi : s.hi ≤ 1000000
  le : s.lo ≤ s.hi
  low : s.n * s.lo ≤ s.tot
  high : s.tot ≤ s.n * s.hi
  small : -1000000 * s.n ≤ s.tot
  great : s.tot ≤ 1000000 * s.n

theorem Few.step {s : Sm} (h : Few s) (v : Int) (h0 : -1000000 ≤ v) (h1 : v ≤ 1000000) (hn : s.n ≤ 40) : joinS s (sm1 v) = ⟨s.n + 1, min s.lo v, max s.hi v, s.tot + v⟩ ∧ Few ⟨s.n + 1, min s.lo v, max s.hi v, s.tot + v⟩ := by
  obtain ⟨n, lo, hi, tot⟩ := s
  obtain ⟨g1, g2, g3, g4, g5, g6, g7, g8⟩ := h
  simp only at *
  constructor
  · rw [joinS_both _ _ (by simp only; omega) (by simp [sm1])]
    simp only [sm1, Sm.mk.injEq, true_and]
    constructor
    · unfold wrap64; omega
    · unfold wrap64; omega
  · have k1 : n * min lo v ≤ n * lo := Int.mul_le_mul_of_nonneg_left (by omega) (by omega)
    have k2 : n * hi ≤ n * max hi v := Int.mul_le_mul_of_nonneg_left (by omega) (by omega)
    refine ⟨by simp only; omega, by simp only; omega, by simp only; omega, by simp only; omega, ?_, ?_, by simp only; omega, by simp only; omega⟩
    · simp only
      rw [Int.add_mul, Int.one_mul]
      omega
    · simp only
      rw [Int.add_mul, Int.one_mul]
      omega

/-- What few small numbers come to. -/
theorem sum_bounds : ∀ (l : List Pt) (s : Sm), Few s → s.n + l.length ≤ 40 → (∀ p ∈ l, -1000000 ≤ p.2 ∧ p.2 ≤ 1000000) →
    Few (sumFrom s l) ∧ (sumFrom s l).lo ≤ s.lo ∧ s.hi ≤ (sumFrom s l).hi ∧ (∀ p ∈ l, (sumFrom s l).lo ≤ p.2 ∧ p.2 ≤ (sumFrom s l).hi) ∧ ((sumFrom s l).lo = s.lo ∨ ∃ p ∈ l, p.2 = (sumFrom s l).lo) ∧ ((sumFrom s l).hi = s.hi ∨ ∃ p ∈ l, p.2 = (sumFrom s l).hi)
  | [], s, f, _, _ => ⟨f, Int.le_refl _, Int.le_refl _, fun p hp => by simp at hp, .inl rfl, .inl rfl⟩
  | p :: r, s, f, h, hv => by
    rw [List.length_cons] at h
    obtain ⟨v0, v1⟩ := hv p List.mem_cons_self
    obtain ⟨e, f'⟩ := f.step p.2 v0 v1 (by omega)
    obtain ⟨i1, i2, i3, i4, i5, i6⟩ := sum_bounds r _ f' (by simp only; omega) (fun q hq => hv q (List.mem_cons_of_mem _ hq))
    rw [sumFrom, e]
    simp only at i2 i3 i5 i6
    clear e f' hv f
    generalize sumFrom _ r = R at *
    refine ⟨i1, by clear i5 i6; omega, by clear i5 i6; omega, ?_, ?_, ?_⟩
    · clear i5 i6
      intro q hq
      rcases List.mem_cons.1 hq with rfl | hq
      · omega
      · exact i4 q hq
    · clear i6
      rcases i5 with i5 | ⟨q, hq, eq⟩
      · by_cases hm : s.lo ≤ p.2
        · left; omega
        · right; exact ⟨p, List.mem_cons_self, by omega⟩
      · right; exact ⟨q, List.mem_cons_of_mem _ hq, eq⟩
    · clear i5
      rcases i6 with i6 | ⟨q, hq, eq⟩
      · by_cases hm : p.2 ≤ s.hi
        · left; omega
        · right; exact ⟨p, List.mem_cons_self, by omega⟩
      · right; exact ⟨q, List.mem_cons_of_mem _ hq, eq⟩

/-- Of a list that has some. -/
theorem sumS_bounds (l : List Pt) (hne : l ≠ []) (h : l.length ≤ 40) (hv : ∀ p ∈ l, -1000000 ≤ p.2 ∧ p.2 ≤ 1000000) :
    Few (sumS l) ∧ (∀ p ∈ l, (sumS l).lo ≤ p.2 ∧ p.2 ≤ (sumS l).hi) ∧ (∃ p ∈ l, p.2 = (sumS l).lo) ∧ (∃ p ∈ l, p.2 = (sumS l).hi) := by
  cases l with
  | nil => exact absurd rfl hne
  | cons p r =>
    rw [List.length_cons] at h
    obtain ⟨v0, v1⟩ := hv p List.mem_cons_self
    have f : Few (sm1 p.2) := by
      refine ⟨Int.le_refl _, v0, v1, Int.le_refl _, ?_, ?_, ?_, ?_⟩ <;> simp only [sm1] <;> omega
    obtain ⟨i1, i2, i3, i4, i5, i6⟩ := sum_bounds r (sm1 p.2) f (by simp only [sm1]; omega) (fun q hq => hv q (List.mem_cons_of_mem _ hq))
    rw [sumS_cons]
    have e1 : (sm1 p.2).lo = p.2 := rfl
    have e2 : (sm1 p.2).hi = p.2 := rfl
    refine ⟨i1, ?_, ?_, ?_⟩
    · clear i5 i6
      intro q hq
      rcases List.mem_cons.1 hq with rfl | hq
      · omega
      · exact i4 q hq
    · clear i6
      rcases i5 with i5 | ⟨q, hq, eq⟩
      · exact ⟨p, List.mem_cons_self, by omega⟩
      · exact ⟨q, List.mem_cons_of_mem _ hq, eq⟩
    · clear i5
      rcases i6 with i6 | ⟨q, hq, eq⟩
      · exact ⟨p, List.mem_cons_self, by omega⟩
      · exact ⟨q, List.mem_cons_of_mem _ hq, eq⟩

end Go.Proofs.Ytgncadehaificaa

/-
  Ranges and buckets of points, as plain lists. No program is named.
-/
namespace Go.Proofs.Ytgncadehaificaa
open Go.RowKit

def Rises (l : List Pt) : Prop := l.Pairwise (fun p q => p.1 < q.1)

def inR (f t : Int) (p : Pt) : Bool := decide (f ≤ p.1 ∧ p.1 < t)

def rngL (l : List Pt) (f t : Int) : List Pt := l.filter (inR f t)

/-- A bucket. -/
structure Bu where
  s : Int
  m : Sm

def startOf (f w : Int) (p : Pt) : Int := p.1 - (p.1 - f) % w

theorem dropWhile_len {α : Type} (p : α → Bool) : ∀ l : List α, (l.dropWhile p).length ≤ l.length
  | [] => Nat.le_refl _
  | x :: r => by
    rw [List.dropWhile_cons]
    split
    · exact Nat.le_succ_of_le (dropWhile_len p r)
    · exact Nat.le_refl _

/-- Runs of points that have one start, so many at most. -/
def runsF (g : Pt → Int) : Nat → List Pt → List Bu
  | 0, _ => []
  | _ + 1, [] => []
  | n + 1, p :: r => ⟨g p, sumS (p :: r.takeWhile (fun q => decide (g q = g p)))⟩ :: runsF g n (r.dropWhile (fun q => decide (g q = g p)))

/-- Runs of points that have one start. -/
def runs (g : Pt → Int) (l : List Pt) : List Bu := runsF g l.length l

theorem runsF_more (g : Pt → Int) : ∀ (n m : Nat) (l : List Pt), l.length ≤ n → l.length ≤ m → runsF g n l = runsF g m l
  | 0, 0, _, _, _ => rfl
  | 0, _ + 1, [], _, _ => rfl
  | 0, _ + 1, _ :: _, h, _ => absurd h (Nat.not_succ_le_zero _)
  | _ + 1, 0, [], _, _ => rfl
  | _ + 1, 0, _ :: _, _, h => absurd h (Nat.not_succ_le_zero _)
  | _ + 1, _ + 1, [], _, _ => rfl
  | n + 1, m + 1, p :: r, h, k => by
    have d := dropWhile_len (fun q => decide (g q = g p)) r
    simp only [runsF, runsF_more g n m _ (Nat.le_trans d (Nat.le_of_succ_le_succ h)) (Nat.le_trans d (Nat.le_of_succ_le_succ k))]

def cutE (f t w : Int) : Int := if 0 ≤ f ∧ f ≤ t ∧ t ≤ 100001 ∧ 1 ≤ w ∧ w ≤ 100001 then (if 200 < (t - f + w - 1) / w then 2 else 0) else 3

theorem rng_len (l : List Pt) (f t : Int) : (rngL l f t).length ≤ l.length := List.length_filter_le _ _

theorem rng_mem {l : List Pt} {f t : Int} {p : Pt} (h : p ∈ rngL l f t) : p ∈ l ∧ f ≤ p.1 ∧ p.1 < t := by
  unfold rngL inR at h
  rw [List.mem_filter] at h
  exact ⟨h.1, by simpa using h.2⟩

theorem rng_rises {l : List Pt} (h : Rises l) (f t : Int) : Rises (rngL l f t) := List.Pairwise.filter _ h

theorem rng_none {l : List Pt} {f t : Int} (h : ∀ p ∈ l, ¬ (f ≤ p.1 ∧ p.1 < t)) : rngL l f t = [] := by
  unfold rngL inR
  rw [List.filter_eq_nil_iff]
  intro p hp
  simpa using h p hp

/-- A range in two parts is the whole. -/
theorem rng_parts : ∀ (l : List Pt), Rises l → ∀ (a b c : Int), a ≤ b → b ≤ c → rngL l a c = rngL l a b ++ rngL l b c
  | [], _, _, _, _, _, _ => rfl
  | p :: r, h, a, b, c, h1, h2 => by
    obtain ⟨hp, hr⟩ := List.pairwise_cons.1 h
    have ih := rng_parts r hr a b c h1 h2
    have e : ∀ x y, rngL (p :: r) x y = if x ≤ p.1 ∧ p.1 < y then p :: rngL r x y else rngL r x y := by
      intro x y
      unfold rngL inR
      rw [List.filter_cons]
      simp
    rw [e, e, e, ih]
    by_cases k1 : a ≤ p.1
    · by_cases k2 : p.1 < b
      · rw [if_pos ⟨k1, by omega⟩, if_pos ⟨k1, k2⟩, if_neg (by omega)]
        rfl
      · have e1 : rngL r a b = [] := rng_none (fun q hq => by have := hp q hq; omega)
        by_cases k3 : p.1 < c
        · rw [if_pos ⟨k1, k3⟩, if_neg (by omega), if_pos (by omega), e1]
          rfl
        · rw [if_neg (by omega), if_neg (by omega), if_neg (by omega)]
    · rw [if_neg (by omega), if_neg (by omega), if_neg (by omega)]

theorem runs_nil (g : Pt → Int) : runs g [] = [] := rfl

theorem runs_cons (g : Pt → Int) (p : Pt) (r : List Pt) : runs g (p :: r) = ⟨g p, sumS (p :: r.takeWhile (fun q => decide (g q = g p)))⟩ :: runs g (r.dropWhile (fun q => decide (g q = g p))) := by
  have e : runsF g r.length (r.dropWhile (fun q => decide (g q = g p))) = runs g (r.dropWhile (fun q => decide (g q = g p))) := runsF_more g _ _ _ (dropWhile_len _ r) (Nat.le_refl _)
  rw [← e]
  rfl

/-- A run, and what is behind it. -/
theorem runs_split (g : Pt → Int) (s : Int) (X Y : List Pt) (hX : ∀ p ∈ X, g p = s) (hY : ∀ p, Y.head? = some p → g p ≠ s) (hne : X ≠ []) : runs g (X ++ Y) = ⟨s, sumS X⟩ :: runs g Y := by
  obtain ⟨p, r, rfl⟩ := List.exists_cons_of_ne_nil hne
  have ep : g p = s := hX p List.mem_cons_self
  have hr : ∀ q ∈ r, decide (g q = g p) = true := fun q hq => by rw [ep]; simpa using hX q (List.mem_cons_of_mem _ hq)
  have t1 : (r ++ Y).takeWhile (fun q => decide (g q = g p)) = r := by
    rw [List.takeWhile_append_of_pos hr]
    cases Y with
    | nil => simp
    | cons y q =>
      rw [List.takeWhile_cons_of_neg (by have := hY y rfl; rw [ep]; simpa using this), List.append_nil]
  have t2 : (r ++ Y).dropWhile (fun q => decide (g q = g p)) = Y := by
    rw [List.dropWhile_append_of_pos hr]
    cases Y with
    | nil => rfl
    | cons y q => rw [List.dropWhile_cons_of_neg (by have := hY y rfl; rw [ep]; simpa using this)]
  rw [List.cons_append, runs_cons, t1, t2, ep]

/-- The first run of some points. -/
theorem runs_first (g : Pt → Int) (p : Pt) (r : List Pt) : ∃ X Y, p :: r = X ++ Y ∧ X ≠ [] ∧ (∀ q ∈ X, g q = g p) ∧ (∀ q, Y.head? = some q → g q ≠ g p) ∧ Y.length ≤ r.length := by
  refine ⟨p :: r.takeWhile (fun q => decide (g q = g p)), r.dropWhile (fun q => decide (g q = g p)), by rw [List.cons_append, List.takeWhile_append_dropWhile], by simp, ?_, ?_, dropWhile_len _ _⟩
  · intro q hq
    rcases List.mem_cons.1 hq with rfl | hq
    · rfl
    · have := List.all_takeWhile (p := fun q => decide (g q = g p)) (l := r)
      rw [List.all_eq_true] at this
      simpa using this q hq
  · intro q hq
    have := List.head?_dropWhile_not (fun q => decide (g q = g p)) r
    rw [hq] at this
    simpa using this

theorem runs_len (g : Pt → Int) : ∀ (n : Nat) (l : List Pt), l.length ≤ n → (runs g l).length ≤ l.length
  | _, [], _ => by rw [runs_nil]; exact Nat.le_refl _
  | 0, p :: r, h => by simp at h
  | n + 1, p :: r, h => by
    obtain ⟨X, Y, e, hne, h1, h2, h3⟩ := runs_first g p r
    have hX : 0 < X.length := List.length_pos_iff.2 hne
    have := runs_len g n Y (by simp at h; omega)
    rw [e, runs_split g (g p) X Y h1 h2 hne, List.length_cons, List.length_append]
    omega

/-- Bucket by bucket. -/
def byOne (l : List Pt) (t w : Int) : Nat → Int → List Bu
  | 0, _ => []
  | k + 1, s => (if rngL l s (min t (s + w)) = [] then [] else [⟨s, sumS (rngL l s (min t (s + w)))⟩]) ++ byOne l t w k (s + w)

theorem startOf_shift (f w : Int) (p : Pt) : startOf (f + w) w p = startOf f w p := by
  unfold startOf
  rw [show p.1 - (f + w) = p.1 - f - w by omega, Int.sub_emod_right]

theorem runs_congr (g h : Pt → Int) : ∀ (n : Nat) (l : List Pt), l.length ≤ n → (∀ p ∈ l, g p = h p) → runs g l = runs h l
  | _, [], _, _ => by rw [runs_nil, runs_nil]
  | 0, p :: r, hl, _ => by simp at hl
  | n + 1, p :: r, hl, hgh => by
    obtain ⟨X, Y, e, hne, h1, h2, h3⟩ := runs_first g p r
    have ep : g p = h p := hgh p List.mem_cons_self
    have mX : ∀ q ∈ X, q ∈ p :: r := fun q hq => by rw [e]; exact List.mem_append_left _ hq
    have mY : ∀ q ∈ Y, q ∈ p :: r := fun q hq => by rw [e]; exact List.mem_append_right _ hq
    have ih := runs_congr g h n Y (by simp at hl; omega) (fun q hq => hgh q (mY q hq))
    rw [e, runs_split g (g p) X Y h1 h2 hne, ih]
    exact (runs_split h (g p) X Y (fun q hq => by rw [← hgh q (mX q hq)]; exact h1 q hq) (fun q hq => by rw [← hgh q (mY q (List.mem_of_head? hq))]; exact h2 q hq) hne).symm

theorem byOne_runs (l : List Pt) (hl : Rises l) (t w : Int) (hw : 1 ≤ w) : ∀ (k : Nat) (s : Int), t ≤ s + k * w → byOne l t w k s = runs (startOf s w) (rngL l s t)
  | 0, s, h => by
    have : rngL l s t = [] := rng_none (fun p _ => by simp at h; omega)
    rw [this, runs_nil]
    rfl
  | k + 1, s, h => by
    have e1 : ((k + 1 : Nat) : Int) * w = k * w + w := by rw [Int.natCast_add, Int.add_mul]; simp
    have ih := byOne_runs l hl t w hw k (s + w) (by rw [e1] at h; omega)
    rw [byOne, ih]
    have ec : runs (startOf (s + w) w) (rngL l (s + w) t) = runs (startOf s w) (rngL l (s + w) t) := runs_congr _ _ _ _ (Nat.le_refl _) (fun p _ => startOf_shift s w p)
    rw [ec]
    have hsp : rngL l s t = rngL l s (min t (s + w)) ++ rngL l (s + w) t := by
      by_cases h1 : s + w ≤ t
      · rw [show min t (s + w) = s + w by omega]
        exact rng_parts l hl s (s + w) t (by omega) h1
      · rw [show min t (s + w) = t by omega, rng_none (l := l) (f := s + w) (t := t) (fun p _ => by omega), List.append_nil]
    rw [hsp]
    have gX : ∀ p ∈ rngL l s (min t (s + w)), startOf s w p = s := by
      intro p hp
      obtain ⟨_, h1, h2⟩ := rng_mem hp
      unfold startOf
      rw [Int.emod_eq_of_lt (by omega) (by omega)]
      omega
    have gY : ∀ p, (rngL l (s + w) t).head? = some p → startOf s w p ≠ s := by
      intro p hp
      obtain ⟨_, h1, h2⟩ := rng_mem (List.mem_of_head? hp)
      unfold startOf
      have := Int.emod_lt_of_pos (p.1 - s) (show 0 < w by omega)
      omega
    by_cases hX : rngL l s (min t (s + w)) = []
    · rw [if_pos hX, hX, List.nil_append, List.nil_append]
    · rw [if_neg hX, runs_split _ s _ _ gX gY hX]
      rfl

/-- What the runs' sums are together. -/
theorem runs_sum (g : Pt → Int) : ∀ (n : Nat) (l P : List Pt), l.length ≤ n → P.length + l.length ≤ 1000 → (runs g l).foldl (fun a x => joinS a x.m) (sumS P) = sumS (P ++ l)
  | _, [], P, _, _ => by rw [runs_nil, List.append_nil]; rfl
  | 0, p :: r, P, h, _ => by simp at h
  | n + 1, p :: r, P, h, hb => by
    obtain ⟨X, Y, e, hne, h1, h2, h3⟩ := runs_first g p r
    have hle : P.length + (X.length + Y.length) ≤ 1000 := by rw [e, List.length_append] at hb; exact hb
    rw [e, runs_split g (g p) X Y h1 h2 hne, List.foldl_cons, sumS_append P X (by omega), runs_sum g n Y (P ++ X) (by simp at h; omega) (by rw [List.length_append]; omega), List.append_assoc]

/-- Two runs in one, where they have one start. -/
def jn (c : Int → Int) (out : List Bu) (x : Bu) : List Bu :=
  match out.getLast? with
  | some b => if b.s = c x.s then out.dropLast ++ [⟨b.s, joinS b.m x.m⟩] else out ++ [⟨c x.s, x.m⟩]
  | none => [⟨c x.s, x.m⟩]

theorem jn_snoc (c : Int → Int) (out : List Bu) (b x : Bu) : jn c (out ++ [b]) x = if b.s = c x.s then out ++ [⟨b.s, joinS b.m x.m⟩] else out ++ [b] ++ [⟨c x.s, x.m⟩] := by
  unfold jn
  simp

theorem runs_wide (g1 g2 : Pt → Int) (c : Int → Int) : ∀ (n : Nat) (l P : List Pt) (out : List Bu) (s : Int), l.length ≤ n → P.length + l.length ≤ 1000 → (∀ p ∈ l, g2 p = c (g1 p)) → (∀ p ∈ P, g2 p = s) → P ≠ [] →
    (runs g1 l).foldl (jn c) (out ++ [⟨s, sumS P⟩]) = out ++ runs g2 (P ++ l)
  | _, [], P, out, s, _, _, _, hP, hne => by rw [runs_nil, runs_split g2 s P [] hP (fun p h => by simp at h) hne, runs_nil]; rfl
  | 0, p :: r, P, _, _, h, _, _, _, _ => by simp at h
  | n + 1, p :: r, P, out, s, h, hb, hc, hP, hne => by
    obtain ⟨X, Y, e, hX, h1, h2, h3⟩ := runs_first g1 p r
    have hle : P.length + (X.length + Y.length) ≤ 1000 := by rw [e, List.length_append] at hb; exact hb
    have mX : ∀ q ∈ X, q ∈ p :: r := fun q hq => by rw [e]; exact List.mem_append_left _ hq
    have mY : ∀ q ∈ Y, q ∈ p :: r := fun q hq => by rw [e]; exact List.mem_append_right _ hq
    have hX2 : ∀ q ∈ X, g2 q = c (g1 p) := fun q hq => by rw [hc q (mX q hq), h1 q hq]
    have hY2 : ∀ q ∈ Y, g2 q = c (g1 q) := fun q hq => hc q (mY q hq)
    have hYl : Y.length ≤ n := by simp at h; omega
    rw [e, runs_split g1 (g1 p) X Y h1 h2 hX, List.foldl_cons, jn_snoc]
    by_cases hs : s = c (g1 p)
    · rw [if_pos hs]
      simp only
      rw [sumS_append P X (by omega), runs_wide g1 g2 c n Y (P ++ X) out s hYl (by rw [List.length_append]; omega) hY2 (fun q hq => ?_) (by simp [hne]), List.append_assoc]
      rcases List.mem_append.1 hq with hq | hq
      · exact hP q hq
      · rw [hX2 q hq, hs]
    · rw [if_neg hs]
      simp only
      rw [runs_wide g1 g2 c n Y X (out ++ [Bu.mk s (sumS P)]) (c (g1 p)) hYl (by omega) hY2 hX2 hX, runs_split g2 s P (X ++ Y) hP ?_ hne, List.append_assoc]
      · rfl
      · intro q hq
        obtain ⟨x, X', rfl⟩ := List.exists_cons_of_ne_nil hX
        simp at hq
        subst hq
        rw [hX2 _ List.mem_cons_self]
        exact fun e => hs e.symm

theorem runs_wide0 (g1 g2 : Pt → Int) (c : Int → Int) (l : List Pt) (hb : l.length ≤ 1000) (hc : ∀ p ∈ l, g2 p = c (g1 p)) : (runs g1 l).foldl (jn c) [] = runs g2 l := by
  cases l with
  | nil => rw [runs_nil, runs_nil]; rfl
  | cons p r =>
    obtain ⟨X, Y, e, hX, h1, h2, h3⟩ := runs_first g1 p r
    have hle : X.length + Y.length ≤ 1000 := by rw [e, List.length_append] at hb; exact hb
    have mX : ∀ q ∈ X, q ∈ p :: r := fun q hq => by rw [e]; exact List.mem_append_left _ hq
    have mY : ∀ q ∈ Y, q ∈ p :: r := fun q hq => by rw [e]; exact List.mem_append_right _ hq
    rw [e, runs_split g1 (g1 p) X Y h1 h2 hX, List.foldl_cons]
    have := runs_wide g1 g2 c Y.length Y X [] (c (g1 p)) (Nat.le_refl _) hle (fun q hq => hc q (mY q hq)) (fun q hq => by rw [hc q (mX q hq), h1 q hq]) hX
    simpa [jn] using this

/-- Runs of points by a start that never falls: their starts rise. -/
theorem runs_rises (g : Pt → Int) : ∀ (n : Nat) (l : List Pt), l.length ≤ n → l.Pairwise (fun p q => g p ≤ g q) → (runs g l).Pairwise (fun x y => x.s < y.s) ∧ ∀ x ∈ runs g l, (∃ p ∈ l, x.s = g p) ∧ ∃ P, P ≠ [] ∧ P.length ≤ l.length ∧ x.m = sumS P ∧ ∀ q ∈ P, q ∈ l
  | _, [], _, _ => by rw [runs_nil]; exact ⟨List.Pairwise.nil, fun x hx => by simp at hx⟩
  | 0, p :: r, h, _ => by simp at h
  | n + 1, p :: r, h, hp => by
    obtain ⟨X, Y, e, hX, h1, h2, h3⟩ := runs_first g p r
    rw [e] at hp ⊢
    obtain ⟨q1, q2, q3⟩ := List.pairwise_append.1 hp
    obtain ⟨i1, i2⟩ := runs_rises g n Y (by simp at h; omega) q2
    rw [runs_split g (g p) X Y h1 h2 hX]
    obtain ⟨x0, X', ex⟩ := List.exists_cons_of_ne_nil hX
    have hx0 : x0 ∈ X := by rw [ex]; exact List.mem_cons_self
    refine ⟨List.Pairwise.cons (fun y hy => ?_) i1, fun x hx => ?_⟩
    · obtain ⟨⟨q, hq, eq⟩, _⟩ := i2 y hy
      obtain ⟨y0, Y', ey⟩ := List.exists_cons_of_ne_nil (l := Y) (by intro e; rw [e] at hq; simp at hq)
      have n0 : g y0 ≠ g p := h2 y0 (by rw [ey]; rfl)
      have l0 : g x0 ≤ g y0 := q3 x0 hx0 y0 (by rw [ey]; exact List.mem_cons_self)
      have l1 : g y0 ≤ g q := by
        rw [ey] at hq q2
        rcases List.mem_cons.1 hq with rfl | hq
        · exact Int.le_refl _
        · exact (List.pairwise_cons.1 q2).1 q hq
      rw [h1 x0 hx0] at l0
      show g p < y.s
      rw [eq]
      omega
    · rcases List.mem_cons.1 hx with rfl | hx
      · exact ⟨⟨x0, List.mem_append_left _ hx0, (h1 x0 hx0).symm⟩, X, hX, by rw [List.length_append]; omega, rfl, fun q hq => List.mem_append_left _ hq⟩
      · obtain ⟨⟨q, hq, eq⟩, P, p1, p2, p3, p4⟩ := i2 x hx
        exact ⟨⟨q, List.mem_append_right _ hq, eq⟩, P, p1, by rw [List.length_append]; omega, p3, fun q hq => List.mem_append_right _ (p4 q hq)⟩

end Go.Proofs.Ytgncadehaificaa
