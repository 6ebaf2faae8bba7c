/-
  slices.Equal, at buckets, of two slices that hold the same: it returns true; it only reads.
-/
import Derived.Test.YtnpikbpngohimaaHQGroup
namespace Go.Proofs.Ytnpikbpngohimaa
open Go.RowKit

set_option maxHeartbeats 1000000 in
set_option maxRecDepth 100000 in
theorem equalBu (a1 a2 : Option Addr) (c1 c2 n : Nat) (l : List Bu) (w : World) (r1 : SlW bc w a1 c1 l) (r2 : SlW bc w a2 c2 l) (hn : n = l.length) (hl : n ≤ 4611686018427387904) :
    Calls Try.prog 35 #[.slice a1 n c1, .slice a2 n c2] w fun e w' => e = .returned (.bool true) ∧ Below w.heap.size w w' := by
  replace hn := hide hn
  go_enter Try.func35, Try.ntmps35
  go_wp2_with fail
  go_loopw [13] (fun i wr => ∃ (k q : Nat), k ≤ n ∧ i = .int .i64 k ∧ wr = w.drewN q) (fun i _ => n - (intOf i).toNat)
  case atStart => exact ⟨0, 0, Nat.zero_le _, rfl, rfl⟩
  case round =>
    obtain ⟨k, q, hk, rfl, rfl⟩ := hrel
    by_cases hlt : k < n
    · have hkl : k < l.length := by rw [← hn.out]; exact hlt
      obtain ⟨b1, o1, rfl, -⟩ := r1.where bc_five (by decide) (by intro h; subst h; simp at hkl)
      obtain ⟨b2, o2, rfl, -⟩ := r2.where bc_five (by decide) (by intro h; subst h; simp at hkl)
      obtain ⟨x, hx⟩ : ∃ x, l[k]? = some x := ⟨_, List.getElem?_eq_getElem hkl⟩
      have s1 := r1.drewN q
      have s2 := r2.drewN q
      have d0 := s1.cell bc_five k 0 x _ hx rfl
      have d1 := s1.cell bc_five k 1 x _ hx rfl
      have d2 := s1.cell bc_five k 2 x _ hx rfl
      have d3 := s1.cell bc_five k 3 x _ hx rfl
      have d4 := s1.cell bc_five k 4 x _ hx rfl
      have e0 := s2.cell bc_five k 0 x _ hx rfl
      have e1 := s2.cell bc_five k 1 x _ hx rfl
      have e2 := s2.cell bc_five k 2 x _ hx rfl
      have e3 := s2.cell bc_five k 3 x _ hx rfl
      have e4 := s2.cell bc_five k 4 x _ hx rfl
      simp only [Nat.add_zero] at d0 e0
      replace hx := hide hx
      clear s1 s2 r1 r2 hkl
      generalize hwq : w.drewN q = wq at *
      replace hwq := hide hwq
      go_wp2_with fail
      go_region
      all_goals go_wp2
      all_goals go_roundw
      case rel => exact ⟨k + 1, q + 1, by omega, by go_num, by rw [← hwq.out]; rfl⟩
      case measure => simp [intOf]; omega
    · obtain rfl : k = n := by omega
      go_wp2
      go_ret
      exact ⟨rfl, belowDrewN (Below.refl _ _) q⟩

end Go.Proofs.Ytnpikbpngohimaa
