/-
  slices.Equal, at points: it returns whether the two lists are the same; it only reads.
-/
import Derived.Test.YtpeeeealbfmklacPoints
namespace Go.Proofs.Ytpeeeealbfmklac
open Go.RowKit

theorem hide' {p : Prop} (h : p) : Hid p := h

set_option maxHeartbeats 1000000 in
set_option maxRecDepth 100000 in
theorem equalPt (a1 a2 : Option Addr) (c1 c2 : Nat) (l m : List Pt) (w : World) (r1 : SlP w a1 c1 l) (r2 : SlP w a2 c2 m) (hl : l.length ≤ 4611686018427387904) (hm : m.length ≤ 4611686018427387904) :
    Calls Try.prog 14 #[.slice a1 l.length c1, .slice a2 m.length c2] w fun e w' => e = .returned (.bool (decide (l = m))) ∧ ∃ q, w' = w.drewN q := by
  by_cases hnm : l.length = m.length
  · generalize hn : l.length = n at *
    have hm' := hnm.symm
    rw [hm'] at hm ⊢
    by_cases h0 : n = 0
    · subst h0
      obtain rfl := List.eq_nil_of_length_eq_zero hn
      obtain rfl := List.eq_nil_of_length_eq_zero hm'
      clear hn hm' hnm hl hm r1 r2
      go_enter Try.func14, Try.ntmps14
      go_wp2
      refine wp_loop_rounds 1 ?_
      rw [rounds_succ]
      go_wp2
      go_ret
      exact ⟨rfl, 0, rfl⟩
    obtain ⟨b1, o1, rfl, -⟩ := r1.where (by intro h; subst h; simp at hn; omega)
    obtain ⟨b2, o2, rfl, -⟩ := r2.where (by intro h; subst h; simp at hm'; omega)
    have g1 := fun k hk => r1.pt k hk
    have g2 := fun k hk => r2.pt k hk
    clear r1 r2
    have HL : Hid (l.length = n) := hn
    have HM : Hid (m.length = n) := hm'
    clear hn hm' hnm
    go_enter Try.func14, Try.ntmps14
    go_wp2
    go_loopg [13] n (fun g s13 wr => ∃ k q : Nat, k ≤ n ∧ n - k ≤ g ∧ s13 = .int .i64 k ∧ wr = w.drewN q ∧ Hid (∀ j : Nat, j < k → l[j]? = m[j]?))
    case atStart => exact ⟨0, 0, Nat.zero_le _, by omega, rfl, rfl, fun j hj => absurd hj (Nat.not_lt_zero _)⟩
    case round =>
      obtain ⟨k, q, hk, hg, rfl, rfl, A⟩ := hrel
      by_cases hlt : k < n
      · obtain ⟨x, y, e1, e2, hx, -⟩ := g1 k (by rw [HL.out]; exact hlt)
        obtain ⟨x', y', e3, e4, hy, -⟩ := g2 k (by rw [HM.out]; exact hlt)
        clear g1 g2
        have B : Hid (l[k]? = some (x, y) ∧ m[k]? = some (x', y')) := ⟨hx, hy⟩
        clear hx hy
        by_cases hxy : x = x' ∧ y = y'
        · obtain ⟨rfl, rfl⟩ := hxy
          go_wp2_with fail
          go_region
          all_goals go_wp2
          all_goals go_roundg (n - (k + 1))
          case measure => omega
          case rel =>
            refine ⟨k + 1, q + 1, by omega, by omega, by go_num, rfl, (show Hid _ from fun j hj => ?_)⟩
            by_cases e : j = k
            · subst e
              rw [B.out.1, B.out.2]
            · exact A.out j (by omega)
        · have hne : l ≠ m := fun h => hxy (by have h2 := B.out.2; rw [← h, B.out.1] at h2; simpa using h2)
          have HN := hide' hne
          clear hne
          by_cases hx : x = x'
          · subst hx
            have hy : ¬ y = y' := fun h => hxy ⟨rfl, h⟩
            clear hxy
            go_wp2_with fail
            go_region
            all_goals go_wp2
            all_goals go_ret
            refine ⟨?_, q + 1, rfl⟩
            simp [HN.out]
          · clear hxy
            go_wp2_with fail
            go_region
            all_goals go_wp2
            all_goals go_ret
            refine ⟨?_, q + 1, rfl⟩
            simp [HN.out]
      · have : k = n := by omega
        subst this
        clear g1 g2
        go_wp2
        go_ret
        refine ⟨?_, q, rfl⟩
        have he : l = m := by
          apply List.ext_getElem?
          intro i
          by_cases hi : i < k
          · exact A.out i hi
          · rw [List.getElem?_eq_none (by rw [HL.out]; omega), List.getElem?_eq_none (by rw [HM.out]; omega)]
        simp [he]
  · have hnm' : ¬ (l.length : Int) = (m.length : Int) := by omega
    have hne : l ≠ m := fun e => hnm (by rw [e])
    clear r1 r2
    have H : Hid (l ≠ m) := hne
    clear hne
    generalize l.length = x at *
    generalize m.length = y at *
    go_enter Try.func14, Try.ntmps14
    go_wp2
    go_ret
    refine ⟨?_, 0, rfl⟩
    simp [H.out]

end Go.Proofs.Ytpeeeealbfmklac
