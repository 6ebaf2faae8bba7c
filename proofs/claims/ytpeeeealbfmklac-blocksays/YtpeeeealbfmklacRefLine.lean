/-
  The reference's answers of chapter 3: CheckPoint, CheckPoints, PackedOf: what they return; nothing that was there is written.
-/
import Derived.Test.YtpeeeealbfmklacRefZag
import Derived.Test.YtpeeeealbfmklacPack
namespace Go.Proofs.Ytpeeeealbfmklac
open Go.RowKit

theorem refPoint_any (x y : Int) (w : World) :
    Calls Try.prog 33 #[.agg #[.int .i64 x, .int .i64 y]] w fun e w' => e = .returned (.int .i64 (if ptOk (x, y) = false then 3 else 0)) ∧ Below w.heap.size w w' := by
  by_cases h1 : 0 ≤ x ∧ x ≤ 100000
  · have i1 := fun W => in_any x 0 100000 W
    rw [decide_eq_true h1] at i1
    by_cases h2 : -1000000 ≤ y ∧ y ≤ 1000000
    · have i2 := fun W => in_any y (-1000000) 1000000 W
      rw [decide_eq_true h2] at i2
      have e : ptOk (x, y) = true := decide_eq_true ⟨h1.1, h1.2, h2⟩
      rw [e, if_neg (by decide)]
      clear e h1 h2
      go_enter Try.func33, Try.ntmps33
      go_wp2_with fail
      go_at_call 31
      refine (i1 _).mono ?_
      rintro e w1 ⟨rfl, rfl⟩
      go_wp2_with fail
      go_at_call 31
      refine (i2 _).mono ?_
      rintro e w2 ⟨rfl, rfl⟩
      go_wp2_with fail
      go_ret
      exact ⟨rfl, (Below.refl _ _).alloc (Nat.le_refl _) _⟩
    · have i2 := fun W => in_any y (-1000000) 1000000 W
      rw [decide_eq_false h2] at i2
      have e : ptOk (x, y) = false := decide_eq_false (fun h => h2 h.2.2)
      rw [e, if_pos rfl]
      clear e h1 h2
      go_enter Try.func33, Try.ntmps33
      go_wp2_with fail
      go_at_call 31
      refine (i1 _).mono ?_
      rintro e w1 ⟨rfl, rfl⟩
      go_wp2_with fail
      go_at_call 31
      refine (i2 _).mono ?_
      rintro e w2 ⟨rfl, rfl⟩
      go_wp2_with fail
      go_ret
      exact ⟨rfl, (Below.refl _ _).alloc (Nat.le_refl _) _⟩
  · have i1 := fun W => in_any x 0 100000 W
    rw [decide_eq_false h1] at i1
    have e : ptOk (x, y) = false := decide_eq_false (fun h => h1 ⟨h.1, h.2.1⟩)
    rw [e, if_pos rfl]
    clear e h1
    go_enter Try.func33, Try.ntmps33
    go_wp2_with fail
    go_at_call 31
    refine (i1 _).mono ?_
    rintro e w1 ⟨rfl, rfl⟩
    go_wp2_with fail
    go_ret
    exact ⟨rfl, (Below.refl _ _).alloc (Nat.le_refl _) _⟩

set_option maxHeartbeats 1000000 in
set_option maxRecDepth 100000 in
theorem refCheck_any (ao : Option Addr) (cap : Nat) (l : List Pt) (w : World) (hr : SlP w ao cap l) :
    Calls Try.prog 29 #[.slice ao l.length cap] w fun e w' => e = .returned (.int .i64 (checkE l)) ∧ Below w.heap.size w w' := by
  by_cases h40 : 40 < l.length
  · have h40' : (40 : Int) < l.length := by omega
    have e : checkE l = 2 := if_pos h40
    rw [e]
    clear e h40
    go_enter Try.func29, Try.ntmps29
    go_wp2
    go_ret
    exact ⟨rfl, Below.refl _ _⟩
  · have e : checkE l = chk (-1) l := if_neg h40
    rw [e]
    clear e
    obtain ⟨C, hC⟩ : ∃ C, C = chk (-1) l := ⟨_, rfl⟩
    rw [← hC]
    obtain ⟨n, hn⟩ : ∃ n, n = l.length := ⟨_, rfl⟩
    rw [← hn] at h40 ⊢
    have HL := hide hn
    have HC : Hid (C = chk (-1) (l.drop 0)) := by rw [List.drop_zero]; exact hC
    clear hn hC
    have h40' : ¬ (40 : Int) < (n : Int) := by omega
    go_enter Try.func29, Try.ntmps29
    go_wp2
    go_loopw [3, 12] (fun la i wr => ∃ (k : Nat) (last : Int), k ≤ n ∧ i = .int .i64 k ∧ la = .int .i64 last ∧ Hid (C = chk last (l.drop k)) ∧ Below w.heap.size w wr) (fun _ i _ => n - (intOf i).toNat)
    case atStart => exact ⟨0, -1, by omega, rfl, rfl, HC, Below.refl _ _⟩
    case round =>
      obtain ⟨k, last, hk, rfl, rfl, HR, bel⟩ := hrel
      clear HC
      by_cases hlt : k < n
      · have hs := hr.keep bel (Nat.le_refl _)
        obtain ⟨b, off, rfl, hbw⟩ := hs.where (by intro h; rw [HL.out, h] at hlt; simp at hlt)
        obtain ⟨x, y, e0, e1, hx, hd⟩ := hs.pt k (by rw [← HL.out]; exact hlt)
        have HR' : Hid (C = chk last ((x, y) :: l.drop (k + 1))) := by have := HR.out; rw [hd] at this; exact this
        clear HR hx hd
        have inr : ∀ W : World, (wr.alloc (.cells #[.int .i64 x, .int .i64 y] 36)) = W → Calls Try.prog 33 #[.agg #[.int .i64 x, .int .i64 y]] W fun e w1 => e = .returned (.int .i64 (if ptOk (x, y) = false then 3 else 0)) ∧ Below w.heap.size w w1 ∧ w1.cell? ⟨wr.heap.size, 0, none⟩ = some (.int .i64 x) := by
          rintro W rfl
          refine (refPoint_any x y _).mono ?_
          rintro e w1 ⟨rfl, b1⟩
          refine ⟨rfl, belowCall (bel.alloc bel.size _) b1, ?_⟩
          rw [b1.cell (p := ⟨wr.heap.size, 0, none⟩) (by simp), World.cell?_alloc_at (hn := rfl)]
          rfl
        cases hp : ptOk (x, y) with
        | false =>
          rw [hp, if_pos rfl] at inr
          go_wp2_with (go_at_call 33; refine (inr _ rfl).mono ?_; rintro e w1 ⟨rfl, b1, -⟩)
          go_ret
          refine ⟨ret_int ?_, b1⟩
          rw [HR'.out, chk, if_pos hp]
        | true =>
          rw [hp, if_neg (by decide)] at inr
          by_cases hle : x ≤ last
          · go_wp2_with (go_at_call 33; refine (inr _ rfl).mono ?_; rintro e w1 ⟨rfl, b1, c1⟩)
            go_ret
            refine ⟨ret_int ?_, b1⟩
            rw [HR'.out, chk, if_neg (by rw [hp]; decide), if_pos hle]
          · go_wp2_with (go_at_call 33; refine (inr _ rfl).mono ?_; rintro e w1 ⟨rfl, b1, c1⟩)
            go_roundw
            case rel =>
              refine ⟨k + 1, x, by omega, by go_num, rfl, hide ?_, b1⟩
              rw [HR'.out, chk, if_neg (by rw [hp]; decide), if_neg (by simp only; omega)]
            case measure => simp [intOf]; omega
      · obtain rfl : k = n := by omega
        go_wp2_with fail
        go_ret
        refine ⟨ret_int ?_, bel⟩
        rw [HR.out, HL.out, List.drop_length, chk]

theorem coded2_ok (ao : Option Addr) (cap : Nat) (l : List Bool) (v : Int) (w : World) (hr : Sl w ao cap (l.map Value.bool)) (hl : l.length ≤ 100000) (h : zigOk v = true) :
    Calls Try.prog 30 #[.slice ao l.length cap, .int .i64 v] w fun e w' =>
      ∃ a' G, e = .returned (.tuple #[.slice a' (l ++ code 8 (foldN v)).length G, .int .i64 0]) ∧ Sl w' a' G ((l ++ code 8 (foldN v)).map Value.bool) ∧ Below w.heap.size w w' := by
  have p := coded_any ao cap l v w hr (by omega)
  rw [zigL, zigE, if_pos h, if_pos h] at p
  exact p

end Go.Proofs.Ytpeeeealbfmklac
