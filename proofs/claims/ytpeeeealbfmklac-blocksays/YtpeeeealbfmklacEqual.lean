/-
  slices.Equal, at bools: it returns whether the two lists are the same; it only reads.
-/
import Derived.Test.YtpeeeealbfmklacPlain
namespace Go.Proofs.Ytpeeeealbfmklac
open Go.RowKit

set_option maxHeartbeats 1000000 in
set_option maxRecDepth 100000 in
theorem equalBool (a1 a2 : Option Addr) (c1 c2 : Nat) (l m : List Bool) (w : World) (r1 : Row w a1 (l.map Value.bool)) (r2 : Row w a2 (m.map Value.bool)) (hl : l.length ≤ 4611686018427387904) (hm : m.length ≤ 4611686018427387904) :
    Calls Try.prog 23 #[.slice a1 l.length c1, .slice a2 m.length c2] w fun e w' => e = .returned (.bool (decide (l = m))) ∧ ∃ q, w' = w.drewN q := by
  by_cases hnm : l.length = m.length
  · generalize hn : l.length = n at *
    have hm' := hnm.symm
    rw [hm'] at hm ⊢
    by_cases h0 : n = 0
    · subst h0
      obtain rfl := List.eq_nil_of_length_eq_zero hn
      obtain rfl := List.eq_nil_of_length_eq_zero hm'
      clear hn hm' hnm hl hm r1 r2
      go_enter Try.func23, Try.ntmps23
      go_wp2
      refine wp_loop_rounds 1 ?_
      rw [rounds_succ]
      go_wp2
      go_ret
      exact ⟨rfl, 0, rfl⟩
    obtain ⟨b1, o1, rfl, -, k1⟩ := r1.at (by intro h; simp at h; subst h; simp at hn; omega)
    obtain ⟨b2, o2, rfl, -, k2⟩ := r2.at (by intro h; simp at h; subst h; simp at hm'; omega)
    have g1 := fun k hk => boolAt k1 k hk
    have g2 := fun k hk => boolAt k2 k hk
    clear k1 k2 r1 r2
    have HL : Hid (l.length = n) := hn
    have HM : Hid (m.length = n) := hm'
    clear hn hm' hnm
    go_enter Try.func23, Try.ntmps23
    go_wp2
    go_loopg [13] n (fun g s13 wr => ∃ k q : Nat, k ≤ n ∧ n - k ≤ g ∧ s13 = .int .i64 k ∧ wr = w.drewN q ∧ Hid (∀ j, j < k → l.getD j false = m.getD j false))
    case atStart => exact ⟨0, 0, Nat.zero_le _, by omega, rfl, rfl, fun j hj => absurd hj (Nat.not_lt_zero _)⟩
    case round =>
      obtain ⟨k, q, hk, hg, rfl, rfl, A⟩ := hrel
      by_cases hlt : k < n
      · have e1 := g1 k (by rw [HL.out]; exact hlt)
        have e2 := g2 k (by rw [HM.out]; exact hlt)
        clear g1 g2
        generalize hx : l.getD k false = x at e1
        generalize hy : m.getD k false = y at e2
        have B : Hid (l.getD k false = x ∧ m.getD k false = y) := ⟨hx, hy⟩
        clear hx hy
        cases hxy : (x == y) with
        | true =>
          obtain rfl : x = y := by simpa using hxy
          clear hxy
          go_wp2_with fail
          go_region
          all_goals go_wp2
          all_goals go_roundg (n - (k + 1))
          case measure => omega
          case rel =>
            refine ⟨k + 1, q + 1, by omega, by omega, by go_num, rfl, (show Hid _ from fun j hj => ?_)⟩
            by_cases e : j = k
            · subst e
              rw [B.out.1, B.out.2]
            · exact A.out j (by omega)
        | false =>
          go_wp2_with fail
          go_region
          all_goals go_wp2
          all_goals go_ret
          refine ⟨?_, q + 1, rfl⟩
          have hne : l ≠ m := listNe (d := false) (k := k) (by rw [B.out.1, B.out.2]; simpa using hxy)
          simp [hne]
      · have : k = n := by omega
        subst this
        clear g1 g2
        go_wp2
        go_ret
        refine ⟨?_, q, rfl⟩
        have he : l = m := listEq (d := false) (HL.out.trans HM.out.symm) (fun j hj => A.out j (by rw [← HL.out]; exact hj))
        simp [he]
  · have hnm' : ¬ (l.length : Int) = (m.length : Int) := by omega
    have hne : l ≠ m := fun e => hnm (by rw [e])
    clear r1 r2
    have H : Hid (l ≠ m) := hne
    clear hne
    generalize l.length = x at *
    generalize m.length = y at *
    go_enter Try.func23, Try.ntmps23
    go_wp2
    go_ret
    refine ⟨?_, 0, rfl⟩
    simp [H.out]

end Go.Proofs.Ytpeeeealbfmklac
