/-
  note.numbersOf: the numbers of entries, in a row of the call's own.
-/
import Derived.Test.YthoclnjfbigdiaaDoorNCheck
import Derived.Test.YthoclnjfbigdiaaDoorOwn
import Derived.Laws.MakeOwn
import Derived.Deep.Cut
import Derived.Deep.CutRange
namespace Go.Proofs.YthoclnjfbigdiaaDoor
open Go.RowKit

theorem infoI : (Tryd.prog.info? 3).map (fun i => (i.zero, i.size, i.bytes)) = some (some (.int .i64 0), 1, 8) := by kernel_rfl

theorem ntNums_length : ∀ l : List Nt, (ntNums l).length = l.length * 3
  | [] => rfl
  | x :: r => by
    have := ntNums_length r
    unfold ntNums at this ⊢
    rw [List.flatMap_cons, List.length_append, this]
    simp only [List.length_cons, List.length_nil]
    omega

set_option maxHeartbeats 1000000 in
set_option maxRecDepth 100000 in
theorem numbers_any (l : List Nt) (a : Option Addr) (cap n : Nat) (w : World) (S : SlW ec w a cap l) (hn : n = l.length) (few : n ≤ 10) :
    Calls Tryd.prog 25 #[.slice a n cap] w fun e w' => ∃ a' G, e = .returned (.slice a' (n * 3) G) ∧ w'.ownsRow w.heap.size 3 1 (.slice a' (n * 3) G) (n * 3) ((ntNums l).map (Value.int .i64)) ∧ Below w.heap.size w w' := by
  obtain ⟨i0, hi, hz0, hz1, hz2⟩ := info_parts infoI
  obtain ⟨c3, hc3⟩ : ∃ c3, c3 = n * 3 := ⟨_, rfl⟩
  obtain ⟨w1, hr, own, gr⟩ := run_make_own (P := Tryd.prog) w w.heap.size 51 3 i0 (.int .i64 0) 1 Tryd.underlying51 hi hz0 hz1 .i64 .i64 c3 (by rw [hz2]; omega) (by unfold maxLen; omega) (Nat.le_refl _)
  have bel : Below w.heap.size w w1 := (Below.refl _ _).grown gr (Nat.le_refl _) (fun k hk => by cases hk)
  have u3 : IntKind.i64.wrap (3 * (n : Int)) = (c3 : Int) := by rw [IntKind.wrap_i64]; omega
  replace hn := hide hn
  replace hc3 := hide hc3
  clear gr
  go_enter Tryd.func25, Tryd.ntmps25
  go_wp2_with fail
  go_loopw [12, 3] (fun i s3 wr => ∃ (k : Nat) (ao : Option Addr) (G k3 : Nat), k ≤ n ∧ i = .int .i64 k ∧ s3 = .slice ao k3 G ∧ k3 = k * 3 ∧ wr.ownsRow w.heap.size 3 1 (.slice ao k3 G) k3 ((ntNums (l.take k)).map (Value.int .i64)) ∧ Below w.heap.size w wr) (fun i _ _ => n - (intOf i).toNat)
  case atStart => exact ⟨0, _, _, 0, Nat.zero_le _, rfl, rfl, rfl, own, bel⟩
  case round =>
    clear own bel hr
    obtain ⟨k, ao, G, k3, hk, rfl, rfl, hk3, own, bel⟩ := hrel
    by_cases hlt : k < n
    · have hkl : k < l.length := by rw [← hn.out]; exact hlt
      obtain ⟨b1, o1, rfl, hb1l⟩ := S.where ec_three (by decide) (by intro h; subst h; simp at hkl)
      obtain ⟨x, hx⟩ : ∃ x, l[k]? = some x := ⟨_, List.getElem?_eq_getElem hkl⟩
      have s1 := S.keep bel (Nat.le_refl _)
      have d0 := s1.cell ec_three k 0 x _ hx rfl
      have d1 := s1.cell ec_three k 1 x _ hx rfl
      have d2 := s1.cell ec_three k 2 x _ hx rfl
      simp only [Nat.add_zero] at d0
      have hT : (ntNums (l.take k)).map (Value.int .i64) ++ (#[Value.int .i64 x.1, .int .i64 x.2.1, .int .i64 x.2.2] : Array Value).toList = (ntNums (l.take (k + 1))).map (Value.int .i64) := by
        rw [List.take_add_one, hx]
        unfold ntNums
        simp
      obtain ⟨xs, xt, xv⟩ := x
      simp only at *
      replace hx := hide hx
      generalize (ntNums (l.take k)).map (Value.int .i64) = X at *
      replace hT := hide hT
      replace hk3 := hide hk3
      clear s1 hkl
      have BX := Blk.laid wr [.int .i64 xs, .int .i64 xt, .int .i64 xv] 59 _ rfl
      have bX := newB bel (.cells #[.int .i64 xs, .int .i64 xt, .int .i64 xv] 59)
      have own2 := own.alloc (.cells #[.int .i64 xs, .int .i64 xt, .int .i64 xv] 59)
      have hk30 : k3 ≤ 30 := by rw [hk3.out]; omega
      go_upto_region 5 with fail
      generalize wr.alloc _ = w2 at *
      have z0 : w2.cell? ⟨wr.heap.size, 0, none⟩ = some (.int .i64 xs) := BX.cell 0
      have z1 : w2.cell? ⟨wr.heap.size, 1, none⟩ = some (.int .i64 xt) := BX.cell 1
      have z2 : w2.cell? ⟨wr.heap.size, 2, none⟩ = some (.int .i64 xv) := BX.cell 2
      have lX := BX.lt
      go_wp2_with (at_builtin; refine wpList_append_new w2 rfl (.tmp 16) (.tmp 23) 51 rfl w.heap.size 3 i0 _ 1 8 Tryd.underlying51 hi hz0 hz1 hz2 rfl (by decide) (.slice ao k3 G) k3 _ (by rfl) own2 3 #[.int .i64 xs, .int .i64 xt, .int .i64 xv] 3 (by rfl) (by rfl) (by simp [Value.oneCell']) (by decide) (by unfold maxLen; omega) (by omega) bX.size ?_)
      intro v7 w7 own7 grow7 went7
      have bel7 := belowGrown bX own2 grow7 (Nat.le_refl _) bX.size
      have own8 : w7.ownsRow w.heap.size 3 1 v7 (k3 + 3) ((ntNums (l.take (k + 1))).map (Value.int .i64)) := by rw [← hT.out]; exact own7
      obtain ⟨g7, G7, rfl⟩ : ∃ g7 G7, v7 = .slice (some ⟨g7, 0, none⟩) (k3 + 3) G7 := by
        rcases own8.2 with ⟨_, h⟩ | ⟨g, cap, cur, h, _⟩
        · omega
        · exact ⟨_, _, h⟩
      go_wp2_with fail
      go_roundw
      case rel => exact ⟨k + 1, some ⟨g7, 0, none⟩, G7, k3 + 3, by omega, by go_num, rfl, by rw [hk3.out, Nat.succ_mul], own8, bel7⟩
      case measure => simp [intOf]; omega
    · obtain rfl : n = k := by omega
      rw [List.take_of_length_le (by rw [← hn.out]; exact Nat.le_refl _)] at own
      subst hk3
      go_wp2_with fail
      go_ret
      exact ⟨_, _, rfl, own, bel⟩

end Go.Proofs.YthoclnjfbigdiaaDoor
