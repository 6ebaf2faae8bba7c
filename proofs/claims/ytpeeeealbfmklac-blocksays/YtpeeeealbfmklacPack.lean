/-
  line.Pack: what it returns, for every list of points; nothing that was there is written.
-/
import Derived.Test.YtpeeeealbfmklacCheck
import Derived.Test.YtpeeeealbfmklacPlace
namespace Go.Proofs.Ytpeeeealbfmklac
open Go.RowKit

theorem checkE_zero {l : List Pt} (h : checkE l = 0) : l.length ≤ 40 ∧ chk (-1) l = 0 := by
  unfold checkE at h
  split at h
  · cases h
  · exact ⟨by omega, h⟩

set_option maxHeartbeats 1000000 in
set_option maxRecDepth 100000 in
theorem pack_ok (ao : Option Addr) (cap : Nat) (l : List Pt) (w : World) (hr : SlP w ao cap l) (h : checkE l = 0) :
    Calls Try.prog 17 #[.slice ao l.length cap] w fun e w' =>
      ∃ a' G, e = .returned (.tuple #[.slice a' (pk 0 0 0 l).length G, .int .i64 0]) ∧ Sl w' a' G ((pk 0 0 0 l).map Value.bool) ∧ Below w.heap.size w w' := by
  have hc := check_any ao cap l w hr
  rw [h] at hc
  obtain ⟨h40, hchk⟩ := checkE_zero h
  obtain ⟨P, hP⟩ : ∃ P, P = pk 0 0 0 l := ⟨_, rfl⟩
  rw [← hP]
  obtain ⟨n, hn⟩ : ∃ n, n = l.length := ⟨_, rfl⟩
  rw [← hn] at h40 hc ⊢
  have HL := hide hn
  have HP : Hid (P = [] ++ pk 0 0 0 (l.drop 0)) := by rw [List.drop_zero]; exact hP
  have HC : Hid (chk (-1) (l.drop 0) = 0) := by rw [List.drop_zero]; exact hchk
  clear hn hP hchk h
  go_enter Try.func17, Try.ntmps17
  go_wp2_with fail
  go_at_call 15
  refine hc.mono ?_
  rintro e w1 ⟨rfl, b1⟩
  clear hc
  obtain ⟨g, hg⟩ : ∃ g, g = w1.heap.size := ⟨_, rfl⟩
  have hgw : w.heap.size ≤ g := by rw [hg]; exact b1.size
  go_wp2_with fail
  rw [← hg]
  have B0 := Blk.laid w1 (spot 0 0 0) 49 g hg
  have bel0 : Below w.heap.size w (w1.alloc (.cells (spot 0 0 0).toArray 49)) := b1.alloc b1.size _
  unfold spot at B0 bel0
  generalize w1.alloc _ = w2 at *
  clear b1 hg
  go_loopw [5, 19] (fun o i wr => ∃ (k G : Nat) (t v s last : Int) (a' : Option Addr) (O : List Bool), k ≤ n ∧ i = .int .i64 k ∧ o = .slice a' O.length G ∧ (0 ≤ t ∧ t ≤ 100000) ∧ t ≤ last + 1 ∧ (-1000000 ≤ v ∧ v ≤ 1000000) ∧ (0 ≤ s ∧ s ≤ 100000) ∧ O.length ≤ 64 * k ∧ Hid (P = O ++ pk t v s (l.drop k)) ∧ Hid (chk last (l.drop k) = 0) ∧ Blk wr g (spot t v s) 49 ∧ Sl wr a' G (O.map Value.bool) ∧ Off g a' ∧ Below w.heap.size w wr) (fun _ i _ => n - (intOf i).toNat)
  case atStart => exact ⟨0, 0, 0, 0, 0, -1, none, [], by omega, rfl, rfl, by omega, by omega, by omega, by omega, by simp, HP, HC, B0, Sl.ofNil _, Off.nil _, bel0⟩
  case round =>
    clear HP HC B0 bel0
    obtain ⟨k, G, t, v, s, last, a', O, hk, rfl, rfl, ht, hl, hv, hs, hO, HP, HC, B, S, off, bel⟩ := hrel
    by_cases hlt : k < n
    · have hs1 := hr.keep bel (Nat.le_refl _)
      obtain ⟨b, o, rfl, hbw⟩ := hs1.where (by intro h; rw [HL.out, h] at hlt; simp at hlt)
      obtain ⟨x, y, e0, e1, hx, hd⟩ := hs1.pt k (by rw [← HL.out]; exact hlt)
      have HP' := HP.out
      have HC' := HC.out
      rw [hd] at HP' HC'
      obtain ⟨z1, z2, hx', hy', hs'⟩ := zig_fits HC' ht hl hv hs
      obtain ⟨_, _, HC2⟩ := chk_cons HC'
      have HC3 := hide HC2
      rw [pk, ← List.append_assoc] at HP'
      simp only at HP' z1 z2 hx' hy' hs'
      have TO := fun W hB => to_any g t v s x y W hB ht hv hs hx' hy'
      have PB := fun W h => putBoth_ok a' G O (x - t - s) (y - v) W h (by omega) z1 z2
      have hO' : (O ++ (code 8 (foldN (x - t - s)) ++ code 8 (foldN (y - v)))).length ≤ 64 * (k + 1) := by
        have h1 := code_len_le 8 (foldN (x - t - s))
        have h2 := code_len_le 8 (foldN (y - v))
        rw [List.length_append, List.length_append]; omega
      have HP3 := hide HP'
      clear HP HC HP' HC' HC2 hd hx z1 z2
      generalize O ++ (code 8 (foldN (x - t - s)) ++ code 8 (foldN (y - v))) = O' at *
      go_wp2_with fail
      go_at_call 25
      refine (TO _ (B.alloc _)).mono ?_
      rintro e w3 ⟨rfl, B3, g3⟩
      have bel3 : Below w.heap.size w w3 := (bel.alloc bel.size _).grown g3 (by simp; exact Nat.le_succ_of_le bel.size) (fun j hj => by cases hj; exact hgw)
      have S3 := (S.alloc _).off g3 off
      clear g3
      go_wp2_with fail
      go_at_call 26
      refine (PB _ S3).mono ?_
      rintro e w4 ⟨a4, G4, rfl, S4, b4, k4⟩
      go_wp2_with fail
      go_roundw
      case rel => exact ⟨k + 1, G4, x, y, x - t, x, a4, O', by omega, by go_num, rfl, hx', by omega, hy', hs', hO', HP3, HC3, B3.keep b4 B3.lt, S4, off.kin k4 B3.lt, belowCall bel3 b4⟩
      case measure => simp [intOf]; omega
    · obtain rfl : k = n := by omega
      have HP' := HP.out
      rw [HL.out, List.drop_length, pk, List.append_nil] at HP'
      subst HP'
      go_wp2_with fail
      go_ret2
      exact ⟨_, _, rfl, S, bel⟩

theorem pack_no (ao : Option Addr) (cap : Nat) (l : List Pt) (w : World) (hr : SlP w ao cap l) (h : ¬ checkE l = 0) :
    Calls Try.prog 17 #[.slice ao l.length cap] w fun e w' => e = .returned (.tuple #[.slice none 0 0, .int .i64 (checkE l)]) ∧ Below w.heap.size w w' := by
  have hc := check_any ao cap l w hr
  generalize checkE l = E at *
  go_enter Try.func17, Try.ntmps17
  go_wp2_with fail
  go_at_call 15
  refine hc.mono ?_
  rintro e w1 ⟨rfl, b1⟩
  go_wp2_with fail
  go_ret2
  exact ⟨rfl, b1⟩

/-- Pack, whatever it is handed. -/
theorem pack_any (ao : Option Addr) (cap : Nat) (l : List Pt) (w : World) (hr : SlP w ao cap l) :
    Calls Try.prog 17 #[.slice ao l.length cap] w fun e w' =>
      ∃ a' G, e = .returned (.tuple #[.slice a' (packL l).length G, .int .i64 (checkE l)]) ∧ Sl w' a' G ((packL l).map Value.bool) ∧ Below w.heap.size w w' := by
  by_cases h : checkE l = 0
  · have e : packL l = pk 0 0 0 l := if_pos h
    rw [e, h]
    exact pack_ok ao cap l w hr h
  · have e : packL l = [] := if_neg h
    rw [e]
    refine (pack_no ao cap l w hr h).mono ?_
    rintro e w' ⟨rfl, b⟩
    exact ⟨none, 0, rfl, Sl.ofNil _, b⟩

theorem packL_length (l : List Pt) : (packL l).length ≤ 2560 := by
  unfold packL
  split
  · rename_i h
    have := pk_length 0 0 0 l
    have := (checkE_zero h).1
    omega
  · simp

end Go.Proofs.Ytpeeeealbfmklac
