/-
  line.inRange and line.Check: what they return; nothing that was there is written.
-/
import Derived.Test.YthoclnjfbigdiaaDoorLineMath
namespace Go.Proofs.YthoclnjfbigdiaaDoor
open Go.RowKit

theorem inRange_any (x y : Int) (w : World) :
    Calls Tryd.prog 66 #[.agg #[.int .i64 x, .int .i64 y]] w fun e w' => e = .returned (.bool (ptOk (x, y))) ∧ Below w.heap.size w w' := by
  by_cases h1 : 0 ≤ x
  · by_cases h2 : x ≤ 100000
    · by_cases h3 : -1000000 ≤ y
      · by_cases h4 : y ≤ 1000000
        · have e : ptOk (x, y) = true := decide_eq_true ⟨h1, h2, h3, h4⟩
          rw [e]
          clear e
          go_enter Tryd.func66, Tryd.ntmps66
          go_wp2
          go_ret
          exact ⟨rfl, (Below.refl _ _).alloc (Nat.le_refl _) _⟩
        · have e : ptOk (x, y) = false := decide_eq_false (fun h => h4 h.2.2.2)
          rw [e]
          clear e
          go_enter Tryd.func66, Tryd.ntmps66
          go_wp2
          go_ret
          exact ⟨rfl, (Below.refl _ _).alloc (Nat.le_refl _) _⟩
      · have e : ptOk (x, y) = false := decide_eq_false (fun h => h3 h.2.2.1)
        rw [e]
        clear e
        go_enter Tryd.func66, Tryd.ntmps66
        go_wp2
        go_ret
        exact ⟨rfl, (Below.refl _ _).alloc (Nat.le_refl _) _⟩
    · have e : ptOk (x, y) = false := decide_eq_false (fun h => h2 h.2.1)
      rw [e]
      clear e
      go_enter Tryd.func66, Tryd.ntmps66
      go_wp2
      go_ret
      exact ⟨rfl, (Below.refl _ _).alloc (Nat.le_refl _) _⟩
  · have e : ptOk (x, y) = false := decide_eq_false (fun h => h1 h.1)
    rw [e]
    clear e
    go_enter Tryd.func66, Tryd.ntmps66
    go_wp2
    go_ret
    exact ⟨rfl, (Below.refl _ _).alloc (Nat.le_refl _) _⟩

set_option maxHeartbeats 1000000 in
set_option maxRecDepth 100000 in
theorem check_any (ao : Option Addr) (cap : Nat) (l : List Pt) (w : World) (hr : SlP w ao cap l) :
    Calls Tryd.prog 56 #[.slice ao l.length cap] w fun e w' => e = .returned (.int .i64 (checkE l)) ∧ Below w.heap.size w w' := by
  by_cases h40 : 40 < l.length
  · have h40' : (40 : Int) < l.length := by omega
    have e : checkE l = 2 := if_pos h40
    rw [e]
    clear e h40
    go_enter Tryd.func56, Tryd.ntmps56
    go_wp2
    go_ret
    exact ⟨rfl, Below.refl _ _⟩
  · have e : checkE l = chk (-1) l := if_neg h40
    rw [e]
    clear e
    obtain ⟨C, hC⟩ : ∃ C, C = chk (-1) l := ⟨_, rfl⟩
    rw [← hC]
    obtain ⟨n, hn⟩ : ∃ n, n = l.length := ⟨_, rfl⟩
    rw [← hn] at h40 ⊢
    have HL := hide hn
    have HC : Hid (C = chk (-1) (l.drop 0)) := by rw [List.drop_zero]; exact hC
    clear hn hC
    have h40' : ¬ (40 : Int) < (n : Int) := by omega
    go_enter Tryd.func56, Tryd.ntmps56
    go_wp2
    go_loopw [10] (fun i wr => ∃ (k : Nat) (last : Int), k ≤ n ∧ i = .int .i64 k ∧ Hid (C = chk last (l.drop k)) ∧ Hid ((k = 0 ∧ last = -1) ∨ ∃ j y, k = j + 1 ∧ l[j]? = some (last, y)) ∧ Below w.heap.size w wr) (fun i _ => n - (intOf i).toNat)
    case atStart => exact ⟨0, -1, by omega, rfl, HC, hide (.inl ⟨rfl, rfl⟩), Below.refl _ _⟩
    case round =>
      obtain ⟨k, last, hk, rfl, HR, HK, bel⟩ := hrel
      clear HC
      by_cases hlt : k < n
      · have hs := hr.keep bel (Nat.le_refl _)
        obtain ⟨b, off, rfl, hbw⟩ := hs.where (by intro h; rw [HL.out, h] at hlt; simp at hlt)
        obtain ⟨x, y, e0, e1, hx, hd⟩ := hs.pt k (by rw [← HL.out]; exact hlt)
        have HX := hide hx
        have HR' : Hid (C = chk last ((x, y) :: l.drop (k + 1))) := by have := HR.out; rw [hd] at this; exact this
        clear HR hx hd
        have inr : ∀ W : World, (wr.alloc (.cells #[.int .i64 x, .int .i64 y] 95)) = W → Calls Tryd.prog 66 #[.agg #[.int .i64 x, .int .i64 y]] W fun e w1 => e = .returned (.bool (ptOk (x, y))) ∧ Below w.heap.size w w1 ∧ w1.cell? ⟨wr.heap.size, 0, none⟩ = some (.int .i64 x) ∧ SlP w1 (some ⟨b, off, none⟩) cap l := by
          rintro W rfl
          refine (inRange_any x y _).mono ?_
          rintro e w1 ⟨rfl, b1⟩
          refine ⟨rfl, belowCall (bel.alloc bel.size _) b1, ?_, (hs.alloc _).call b1⟩
          rw [b1.cell (p := ⟨wr.heap.size, 0, none⟩) (by simp), World.cell?_alloc_at (hn := rfl)]
          rfl
        cases hp : ptOk (x, y) with
        | false =>
          rw [hp] at inr
          go_wp2_with (go_at_call 66; refine (inr _ rfl).mono ?_; rintro e w1 ⟨rfl, b1, -, -⟩)
          go_ret
          refine ⟨ret_int ?_, b1⟩
          rw [HR'.out, chk, if_pos hp]
        | true =>
          rw [hp] at inr
          rcases HK.out with ⟨rfl, rfl⟩ | ⟨j, yy, rfl, hj⟩
          · clear HK
            rw [Nat.zero_mul, Nat.add_zero] at e0 e1
            go_wp2_with (go_at_call 66; refine (inr _ rfl).mono ?_; rintro e w1 ⟨rfl, b1, c1, s1⟩)
            go_region
            all_goals go_wp2
            all_goals go_roundw
            case rel =>
              refine ⟨1, x, by omega, by go_num, hide ?_, hide (.inr ⟨0, y, rfl, HX.out⟩), belowDrew b1⟩
              rw [HR'.out, chk, if_neg (by rw [hp]; decide), if_neg (by have := (ptOk_true hp).1; simp only at this ⊢; omega)]
            case measure => simp [intOf]; omega
          · clear HK
            have hj' := hide hj
            clear hj
            by_cases hle : x ≤ last
            · go_wp2_with (go_at_call 66; refine (inr _ rfl).mono ?_; rintro e w1 ⟨rfl, b1, c1, s1⟩)
              obtain ⟨x', y', e2, -, h2, -⟩ := s1.pt j (by rw [← HL.out]; omega)
              obtain rfl : last = x' := by rw [hj'.out] at h2; simpa using (Prod.ext_iff.1 (Option.some.inj h2)).1
              clear h2
              go_region
              all_goals go_wp2
              all_goals go_ret
              refine ⟨ret_int ?_, belowDrew b1⟩
              rw [HR'.out, chk, if_neg (by rw [hp]; decide), if_pos hle]
            · go_wp2_with (go_at_call 66; refine (inr _ rfl).mono ?_; rintro e w1 ⟨rfl, b1, c1, s1⟩)
              obtain ⟨x', y', e2, -, h2, -⟩ := s1.pt j (by rw [← HL.out]; omega)
              obtain rfl : last = x' := by rw [hj'.out] at h2; simpa using (Prod.ext_iff.1 (Option.some.inj h2)).1
              clear h2
              go_region
              all_goals go_wp2
              all_goals go_roundw
              case rel =>
                refine ⟨j + 1 + 1, x, by omega, by go_num, hide ?_, hide (.inr ⟨j + 1, y, rfl, HX.out⟩), belowDrew b1⟩
                rw [HR'.out, chk, if_neg (by rw [hp]; decide), if_neg (by simp only; omega)]
              case measure => simp [intOf]; omega
      · obtain rfl : k = n := by omega
        go_wp2_with fail
        go_ret
        refine ⟨ret_int ?_, bel⟩
        rw [HR.out, HL.out, List.drop_length, chk]

end Go.Proofs.YthoclnjfbigdiaaDoor
