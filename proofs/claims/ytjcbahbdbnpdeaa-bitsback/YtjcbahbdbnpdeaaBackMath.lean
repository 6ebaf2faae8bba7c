/-
  Plain facts for BitsBack: what was put, one number behind the other, and what is left of it while it is taken.
-/
import Derived.Test.YtjcbahbdbnpdeaaBitsMath
namespace Go.Proofs.Ytjcbahbdbnpdeaa
open Go.RowKit

theorem bitAt_half (n : Int) (j : Nat) : bitAt (n / 2) j = bitAt n (j + 1) := by
  unfold bitAt
  have e : n / 2 / 2 ^ j = n / 2 ^ (j + 1) := by
    rw [Int.pow_succ, Int.mul_comm, Int.ediv_ediv_of_nonneg (by decide)]
  rw [e]

theorem bitsOf_snoc (n : Int) (k : Nat) : bitsOf n (k + 1) = bitsOf (n / 2) k ++ [bitAt n 0] := by
  unfold bitsOf
  rw [List.range_succ, List.map_append]
  congr 1
  · apply List.map_congr_left
    intro i hi
    rw [bitAt_half]
    congr 1
    have := List.mem_range.1 hi
    omega
  · simp

theorem numOf_bitsOf (k : Nat) : ∀ n : Int, 0 ≤ n → n < 2 ^ k → (numOf (bitsOf n k) : Int) = n := by
  induction k with
  | zero =>
    intro n h0 h1
    simp at h1
    have : n = 0 := by omega
    subst this
    simp [bitsOf, numOf]
  | succ k ih =>
    intro n h0 h1
    rw [bitsOf_snoc, numOf_snoc]
    have h2 : n / 2 < 2 ^ k := by
      rw [Int.pow_succ] at h1
      omega
    have h3 := ih (n / 2) (by omega) h2
    have h4 : (((bitAt n 0).toNat : Nat) : Int) = n % 2 := by
      unfold bitAt
      have : n % 2 = 0 ∨ n % 2 = 1 := by omega
      rcases this with h | h <;> simp [h]
    push_cast
    rw [h3, h4]
    omega

/-- The width and the number of the k-th round. -/
def wAt (ws : List Int) (k : Nat) : Nat := (ws.getD k 0 % 41).toNat
def vAt (ns ws : List Int) (k : Nat) : Int := ns.getD k 0 % 2 ^ wAt ws k
def bAt (ns ws : List Int) (k : Nat) : List Bool := bitsOf (vAt ns ws k) (wAt ws k)

theorem wAt_le (ws : List Int) (k : Nat) : wAt ws k ≤ 40 := by unfold wAt; omega
theorem wAt_int (ws : List Int) (k : Nat) : ((wAt ws k : Nat) : Int) = ws.getD k 0 % 41 := by unfold wAt; omega
theorem vAt_ok (ns ws : List Int) (k : Nat) : okN (vAt ns ws k) (wAt ws k) = true := by
  have hp := pow_pos (wAt ws k)
  unfold okN vAt
  simp only [Int.toNat_natCast, decide_eq_true_eq]
  exact ⟨Int.emod_nonneg _ (by omega), Int.emod_lt_of_pos _ hp⟩
theorem vAt_bounds (ns ws : List Int) (k : Nat) : 0 ≤ vAt ns ws k ∧ vAt ns ws k < 2 ^ wAt ws k := by
  have h := vAt_ok ns ws k
  have := (of_decide_eq_true h : 0 ≤ vAt ns ws k ∧ vAt ns ws k < 2 ^ ((wAt ws k : Nat) : Int).toNat)
  simpa using this
theorem length_bAt (ns ws : List Int) (k : Nat) : (bAt ns ws k).length = wAt ws k := length_bitsOf _ _

/-- What is put in the first rounds. -/
def putAll (ns ws : List Int) (j : Nat) : List Bool := (List.range j).flatMap (bAt ns ws)

theorem putAll_succ (ns ws : List Int) (j : Nat) : putAll ns ws (j + 1) = putAll ns ws j ++ bAt ns ws j := by
  simp [putAll, List.range_succ]

theorem putAll_length (ns ws : List Int) (j : Nat) : (putAll ns ws j).length ≤ j * 40 := by
  induction j with
  | zero => simp [putAll]
  | succ j ih =>
    rw [putAll_succ, List.length_append, length_bAt]
    have := wAt_le ws j
    omega

/-- What is left behind the first rounds of taking. -/
def leftAll (ns ws : List Int) (more : List Bool) (K j : Nat) : List Bool := ((List.range (K - j)).flatMap fun i => bAt ns ws (j + i)) ++ more

theorem leftAll_zero (ns ws : List Int) (more : List Bool) (K : Nat) : leftAll ns ws more K 0 = putAll ns ws K ++ more := by
  simp [leftAll, putAll]

theorem leftAll_end (ns ws : List Int) (more : List Bool) (K : Nat) : leftAll ns ws more K K = more := by
  simp [leftAll]

theorem leftAll_step (ns ws : List Int) (more : List Bool) (K j : Nat) (h : j < K) : leftAll ns ws more K j = bAt ns ws j ++ leftAll ns ws more K (j + 1) := by
  obtain ⟨m, hm⟩ : ∃ m, K - j = m + 1 := ⟨K - j - 1, by omega⟩
  have hm2 : K - (j + 1) = m := by omega
  unfold leftAll
  rw [hm, hm2, List.range_succ_eq_map, List.flatMap_cons, List.flatMap_map, List.append_assoc]
  simp only [Nat.add_zero]
  congr 2
  apply congrArg (fun f => (List.range m).flatMap f)
  funext i
  congr 1
  omega

theorem leftAll_length (ns ws : List Int) (more : List Bool) (K j : Nat) (h : K ≤ 30) : (leftAll ns ws more K j).length ≤ 1200 + more.length := by
  have key : ∀ m, ((List.range m).flatMap fun i => bAt ns ws (j + i)).length ≤ m * 40 := by
    intro m
    induction m with
    | zero => simp
    | succ m ih =>
      rw [List.range_succ, List.flatMap_append, List.length_append]
      have := wAt_le ws (j + m)
      simp only [List.flatMap_cons, List.flatMap_nil, List.append_nil, length_bAt]
      omega
  have := key (K - j)
  unfold leftAll
  rw [List.length_append]
  omega

/-- What is taken of it. -/
theorem take_left (ns ws : List Int) (more : List Bool) (K j : Nat) (h : j < K) :
    takeN (leftAll ns ws more K j) (wAt ws j) = vAt ns ws j ∧ takeL (leftAll ns ws more K j) (wAt ws j) = leftAll ns ws more K (j + 1) ∧ takeE (leftAll ns ws more K j) (wAt ws j) = 0 := by
  rw [leftAll_step ns ws more K j h]
  have hlen := length_bAt ns ws j
  have hw := wAt_le ws j
  have ok : takeOk (bAt ns ws j ++ leftAll ns ws more K (j + 1)) (wAt ws j) = true := by
    unfold takeOk okW
    simp only [List.length_append, hlen, Bool.and_eq_true, decide_eq_true_eq]
    omega
  refine ⟨?_, ?_, ?_⟩
  · unfold takeN
    rw [if_pos ok, Int.toNat_natCast]
    have e : (bAt ns ws j ++ leftAll ns ws more K (j + 1)).take (wAt ws j) = bAt ns ws j := by rw [← hlen]; exact List.take_left
    rw [e]
    exact numOf_bitsOf _ _ (vAt_bounds ns ws j).1 (vAt_bounds ns ws j).2
  · unfold takeL
    rw [if_pos ok, Int.toNat_natCast, ← hlen]
    exact List.drop_left
  · unfold takeE
    rw [if_pos ok]

/-- The numbers and the widths, as they were gathered. -/
def vsTo (ns ws : List Int) (j : Nat) : List Int := (List.range j).map (vAt ns ws)
def wsTo (ws : List Int) (j : Nat) : List Int := (List.range j).map fun k => ((wAt ws k : Nat) : Int)

theorem vsTo_succ (ns ws : List Int) (j : Nat) : (vsTo ns ws (j + 1)).map (Value.int .i64) = (vsTo ns ws j).map (Value.int .i64) ++ [.int .i64 (vAt ns ws j)] := by simp [vsTo, List.range_succ]
theorem wsTo_succ (ws : List Int) (j : Nat) : (wsTo ws (j + 1)).map (Value.int .i64) = (wsTo ws j).map (Value.int .i64) ++ [.int .i64 ((wAt ws j : Nat) : Int)] := by simp [wsTo, List.range_succ]
theorem vsTo_get (ns ws : List Int) (K j : Nat) (h : j < K) : (vsTo ns ws K).getD j 0 = vAt ns ws j := by simp [vsTo, List.getD, h]
theorem wsTo_get (ws : List Int) (K j : Nat) (h : j < K) : (wsTo ws K).getD j 0 = ((wAt ws j : Nat) : Int) := by simp [wsTo, List.getD, h]

end Go.Proofs.Ytjcbahbdbnpdeaa
