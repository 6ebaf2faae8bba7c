/-
  The reference's PackedOf: what it returns, for every list of points; nothing that was there is written.
-/
import Derived.Test.YtpeeeealbfmklacRefLine
namespace Go.Proofs.Ytpeeeealbfmklac
open Go.RowKit

/-- What the two points ahead say of the place. -/
def Behind (l : List Pt) (k : Nat) (t v s : Int) : Prop :=
  (k = 0 ∧ t = 0 ∧ v = 0 ∧ s = 0) ∨ (k = 1 ∧ l[0]? = some (t, v) ∧ s = t) ∨ ∃ j y, k = j + 2 ∧ l[j + 1]? = some (t, v) ∧ l[j]? = some (t - s, y)

theorem Behind.next {l : List Pt} {k : Nat} {t v s x y : Int} (h : Behind l k t v s) (hx : l[k]? = some (x, y)) : Behind l (k + 1) x y (x - t) := by
  rcases h with ⟨rfl, rfl, rfl, rfl⟩ | ⟨rfl, h0, rfl⟩ | ⟨j, y', rfl, h1, h0⟩
  · exact .inr (.inl ⟨rfl, hx, by omega⟩)
  · exact .inr (.inr ⟨0, v, rfl, hx, by rw [h0]; simp only [Option.some.injEq, Prod.mk.injEq, and_true]; omega⟩)
  · exact .inr (.inr ⟨j + 1, v, rfl, hx, by rw [h1]; simp only [Option.some.injEq, Prod.mk.injEq, and_true]; omega⟩)

theorem Sl.drew {w : World} {ao : Option Addr} {cap : Nat} {cs : List Value} (h : Sl w ao cap cs) : Sl w.drew ao cap cs := ⟨h.row, h.le, h.max, h.nil⟩

set_option maxHeartbeats 1000000 in
set_option maxRecDepth 100000 in
theorem refPack_ok (ao : Option Addr) (cap : Nat) (l : List Pt) (w : World) (hr : SlP w ao cap l) (h : checkE l = 0) :
    Calls Try.prog 19 #[.slice ao l.length cap] w fun e w' =>
      ∃ a' G, e = .returned (.tuple #[.slice a' (pk 0 0 0 l).length G, .int .i64 0]) ∧ Sl w' a' G ((pk 0 0 0 l).map Value.bool) ∧ Below w.heap.size w w' := by
  have hc := refCheck_any ao cap l w hr
  rw [h] at hc
  obtain ⟨h40, hchk⟩ := checkE_zero h
  obtain ⟨P, hP⟩ : ∃ P, P = pk 0 0 0 l := ⟨_, rfl⟩
  rw [← hP]
  obtain ⟨n, hn⟩ : ∃ n, n = l.length := ⟨_, rfl⟩
  rw [← hn] at h40 hc ⊢
  have HL := hide hn
  have HP : Hid (P = [] ++ pk 0 0 0 (l.drop 0)) := by rw [List.drop_zero]; exact hP
  have HC : Hid (chk (-1) (l.drop 0) = 0) := by rw [List.drop_zero]; exact hchk
  clear hn hP hchk h
  go_enter Try.func19, Try.ntmps19
  go_wp2_with fail
  go_at_call 29
  refine hc.mono ?_
  rintro e w1 ⟨rfl, b1⟩
  clear hc
  go_wp2_with fail
  go_loopw [5, 17] (fun o i wr => ∃ (k G : Nat) (t v s last : Int) (a' : Option Addr) (O : List Bool), k ≤ n ∧ i = .int .i64 k ∧ o = .slice a' O.length G ∧ (0 ≤ t ∧ t ≤ 100000) ∧ t ≤ last + 1 ∧ (-1000000 ≤ v ∧ v ≤ 1000000) ∧ (0 ≤ s ∧ s ≤ 100000) ∧ O.length ≤ 64 * k ∧ Hid (P = O ++ pk t v s (l.drop k)) ∧ Hid (chk last (l.drop k) = 0) ∧ Hid (Behind l k t v s) ∧ Sl wr a' G (O.map Value.bool) ∧ Below w.heap.size w wr) (fun _ i _ => n - (intOf i).toNat)
  case atStart => exact ⟨0, 0, 0, 0, 0, -1, none, [], by omega, rfl, rfl, by omega, by omega, by omega, by omega, by simp, HP, HC, hide (.inl ⟨rfl, rfl, rfl, rfl⟩), Sl.ofNil _, b1⟩
  case round =>
    clear HP HC b1 w1
    obtain ⟨k, G, t, v, s, last, a', O, hk, rfl, rfl, ht, hl, hv, hs, hO, HP, HC, HB, S, bel⟩ := hrel
    by_cases hlt : k < n
    · have hs1 := hr.keep bel (Nat.le_refl _)
      obtain ⟨b, o, rfl, hbw⟩ := hs1.where (by intro h; rw [HL.out, h] at hlt; simp at hlt)
      obtain ⟨x, y, e0, e1, hx, hd⟩ := hs1.pt k (by rw [← HL.out]; exact hlt)
      have HP' := HP.out
      have HC' := HC.out
      rw [hd] at HP' HC'
      obtain ⟨z1, z2, hx', hy', hs'⟩ := zig_fits HC' ht hl hv hs
      obtain ⟨_, _, HC2⟩ := chk_cons HC'
      have HC3 := hide HC2
      have HB2 := hide (HB.out.next hx)
      rw [pk, ← List.append_assoc, ← List.append_assoc] at HP'
      simp only at HP' z1 z2 hx' hy' hs'
      have C1 : ∀ W z, Sl W a' G (O.map Value.bool) → z = x - t - s → Calls Try.prog 30 #[.slice a' O.length G, .int .i64 z] W fun e w' => ∃ a' G, e = .returned (.tuple #[.slice a' (O ++ code 8 (foldN (x - t - s))).length G, .int .i64 0]) ∧ Sl w' a' G ((O ++ code 8 (foldN (x - t - s))).map Value.bool) ∧ Below W.heap.size W w' := by
        rintro W z h rfl
        exact coded2_ok a' G O _ W h (by omega) z1
      have hO1 : (O ++ code 8 (foldN (x - t - s))).length ≤ 64 * k + 32 := by
        have h1 := code_len_le 8 (foldN (x - t - s))
        rw [List.length_append]; omega
      generalize O ++ code 8 (foldN (x - t - s)) = O1 at *
      have C2 : ∀ a' G W z, Sl W a' G (O1.map Value.bool) → z = y - v → Calls Try.prog 30 #[.slice a' O1.length G, .int .i64 z] W fun e w' => ∃ a' G, e = .returned (.tuple #[.slice a' (O1 ++ code 8 (foldN (y - v))).length G, .int .i64 0]) ∧ Sl w' a' G ((O1 ++ code 8 (foldN (y - v))).map Value.bool) ∧ Below W.heap.size W w' := by
        rintro a' G W z h rfl
        exact coded2_ok a' G O1 _ W h (by omega) z2
      have hO2 : (O1 ++ code 8 (foldN (y - v))).length ≤ 64 * (k + 1) := by
        have h1 := code_len_le 8 (foldN (y - v))
        rw [List.length_append]; omega
      generalize O1 ++ code 8 (foldN (y - v)) = O2 at *
      have HP3 := hide HP'
      have HX := hide hx
      clear HP HC HP' HC' HC2 hd hx z1 z2
      obtain ⟨ht0, ht1⟩ := ht
      obtain ⟨hv0, hv1⟩ := hv
      obtain ⟨hs0, hs2⟩ := hs
      have hx1 := hx'
      have hy1 := hy'
      have hs3 := hs'
      obtain ⟨hxa, hxb⟩ := hx1
      obtain ⟨hya, hyb⟩ := hy1
      obtain ⟨hsa, hsb⟩ := hs3
      rcases HB.out with ⟨rfl, rfl, rfl, rfl⟩ | ⟨rfl, h0, rfl⟩ | ⟨j, y', rfl, h1, h0⟩
      · clear HB
        rw [Nat.zero_mul, Nat.add_zero] at e0 e1
        go_wp2_with fail
        go_region
        all_goals go_wp2_with fail
        all_goals go_at_call 30
        refine (C1 _ _ (S.alloc _).drew (by omega)).mono ?_
        rintro e w3 ⟨a3, G3, rfl, S3, b3⟩
        go_wp2_with fail
        go_at_call 30
        refine (C2 _ _ _ _ S3 (by omega)).mono ?_
        rintro e w4 ⟨a4, G4, rfl, S4, b4⟩
        go_wp2_with fail
        go_roundw
        case rel => exact ⟨0 + 1, G4, x, y, _, x, a4, O2, by omega, by go_num, rfl, hx', by omega, hy', hs', hO2, HP3, HC3, HB2, S4, belowCall (belowCall (belowDrew (bel.alloc bel.size _)) b3) b4⟩
        case measure => simp [intOf]; omega
      · clear HB
        obtain ⟨t', v', e2, e3, h2, -⟩ := hs1.pt 0 (by rw [← HL.out]; omega)
        rw [h0] at h2
        simp only [Option.some.injEq, Prod.mk.injEq] at h2
        obtain ⟨rfl, rfl⟩ := h2
        clear h0
        rw [Nat.zero_mul, Nat.add_zero] at e2 e3
        go_wp2_with fail
        go_region
        all_goals go_wp2_with fail
        all_goals go_at_call 30
        refine (C1 _ _ (S.alloc _).drew (by omega)).mono ?_
        rintro e w3 ⟨a3, G3, rfl, S3, b3⟩
        go_wp2_with fail
        go_at_call 30
        refine (C2 _ _ _ _ S3 (by omega)).mono ?_
        rintro e w4 ⟨a4, G4, rfl, S4, b4⟩
        go_wp2_with fail
        go_roundw
        case rel => exact ⟨1 + 1, G4, x, y, _, x, a4, O2, by omega, by go_num, rfl, hx', by omega, hy', hs', hO2, HP3, HC3, HB2, S4, belowCall (belowCall (belowDrew (bel.alloc bel.size _)) b3) b4⟩
        case measure => simp [intOf]; omega
      · clear HB
        obtain ⟨t', v', e2, e3, h2, -⟩ := hs1.pt (j + 1) (by rw [← HL.out]; omega)
        obtain ⟨t'', v'', e4, e5, h3, -⟩ := hs1.pt j (by rw [← HL.out]; omega)
        rw [h1] at h2
        rw [h0] at h3
        simp only [Option.some.injEq, Prod.mk.injEq] at h2 h3
        obtain ⟨rfl, rfl⟩ := h2
        obtain ⟨hz, rfl⟩ := h3
        have hz0 : -100000 ≤ t'' := by omega
        have hz1 : t'' ≤ 100000 := by omega
        clear h0 h1
        go_wp2_with fail
        go_region
        all_goals go_wp2_with fail
        all_goals go_at_call 30
        refine (C1 _ _ (S.alloc _).drew (by omega)).mono ?_
        rintro e w3 ⟨a3, G3, rfl, S3, b3⟩
        go_wp2_with fail
        go_at_call 30
        refine (C2 _ _ _ _ S3 (by omega)).mono ?_
        rintro e w4 ⟨a4, G4, rfl, S4, b4⟩
        go_wp2_with fail
        go_roundw
        case rel => exact ⟨(j + 2) + 1, G4, x, y, _, x, a4, O2, by omega, by go_num, rfl, hx', by omega, hy', hs', hO2, HP3, HC3, HB2, S4, belowCall (belowCall (belowDrew (bel.alloc bel.size _)) b3) b4⟩
        case measure => simp [intOf]; omega
    · obtain rfl : k = n := by omega
      have HP' := HP.out
      rw [HL.out, List.drop_length, pk, List.append_nil] at HP'
      subst HP'
      go_wp2_with fail
      go_ret2
      exact ⟨_, _, rfl, S, bel⟩

theorem refPack_no (ao : Option Addr) (cap : Nat) (l : List Pt) (w : World) (hr : SlP w ao cap l) (h : ¬ checkE l = 0) :
    Calls Try.prog 19 #[.slice ao l.length cap] w fun e w' => e = .returned (.tuple #[.slice none 0 0, .int .i64 (checkE l)]) ∧ Below w.heap.size w w' := by
  have hc := refCheck_any ao cap l w hr
  generalize checkE l = E at *
  go_enter Try.func19, Try.ntmps19
  go_wp2_with fail
  go_at_call 29
  refine hc.mono ?_
  rintro e w1 ⟨rfl, b1⟩
  go_wp2_with fail
  go_ret2
  exact ⟨rfl, b1⟩

/-- PackedOf, whatever it is handed. -/
theorem refPack_any (ao : Option Addr) (cap : Nat) (l : List Pt) (w : World) (hr : SlP w ao cap l) :
    Calls Try.prog 19 #[.slice ao l.length cap] w fun e w' =>
      ∃ a' G, e = .returned (.tuple #[.slice a' (packL l).length G, .int .i64 (checkE l)]) ∧ Sl w' a' G ((packL l).map Value.bool) ∧ Below w.heap.size w w' := by
  by_cases h : checkE l = 0
  · have e : packL l = pk 0 0 0 l := if_pos h
    rw [e, h]
    exact refPack_ok ao cap l w hr h
  · have e : packL l = [] := if_neg h
    rw [e]
    refine (refPack_no ao cap l w hr h).mono ?_
    rintro e w' ⟨rfl, b⟩
    exact ⟨none, 0, rfl, Sl.ofNil _, b⟩

end Go.Proofs.Ytpeeeealbfmklac
