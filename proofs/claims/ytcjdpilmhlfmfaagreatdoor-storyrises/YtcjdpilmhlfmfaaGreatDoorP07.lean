/-
  How an argument that is a record, by value, is opened: three numbers and a slice of entries.
-/
import Derived.Lib.SmallJoins
import Derived.Lib.AtoiAllCases
import Derived.Laws.MakeOwn
import Derived.Deep.Cut
import Derived.Deep.CutRange
import Derived.RangeFuncNested
import Derived.RangeFuncBound
import Derived.RangeFuncCalls
import Derived.RangeFuncLeaves
import Derived.RangeFuncBox
import Derived.Shelf.Abstract
import Derived.Shelf.RegionOpen
import Derived.WalkKit
import Derived.OwnWalkIn
import Derived.TacticsInMore
import Derived.LoopNIn
import Derived.LoopIn
import Derived.Maps.AppendAt
import Derived.Test.YtcjdpilmhlfmfaaGreatDoorP06
import Derived.Test.YtcjdpilmhlfmfaaGreatDoorP05
import Derived.Test.YtcjdpilmhlfmfaaGreatDoorP01
namespace Go.Proofs.YtcjdpilmhlfmfaaGreatDoor
open Go.RowKit Go.ChangeShapes Go.WideShapes Go.ChangeAt Go.Joins

theorem cellsInt : Tryz.prog.cellsOf 3 = 1 := by kernel_rfl

theorem three_of {α : Type} {l : List α} (h : l.length = 3) : ∃ a b c, l = [a, b, c] := by
  match l, h with
  | [a, b, c], _ => exact ⟨a, b, c, rfl⟩

theorem rec_light {H : Type} {ts : List TypeId} {ds : List (DataW H)} {j : Nat} {t : TypeId} {d : DataW H} (hsz : (DataW.weightsEach Tryz.prog ts ds).all (· ≤ reachBytes) = true) (ht : ts[j]? = some t) (hd : ds[j]? = some d) : Light t d := by
  intro n hn
  have h := of_decide_eq_true (List.all_eq_true.1 hsz _ (DataW.weights_mem_each ht hd n hn))
  unfold reachBytes at h
  exact h

set_option maxRecDepth 100000 in
theorem open_nt {H : Type} {enc : TypeId × Value → H} {W : World} (cs : List Value) (x : DataW H × List MemPlace) (m : Nat) (hl : cs.length = 3) (h : DataW.trod enc Tryz.prog W 0 (fun _ => true) true m 68 cs = some x) (_ : Light 68 x.1) :
    ∃ y : Nt, cs = ec y ∧ True := by
  obtain ⟨c0, c1, c2, rfl⟩ := three_of hl
  obtain ⟨y0, y1, y2, n, rfl, _, h0, h1, h2⟩ := Go.Deep.trod_struct3 Tryz.underlying68 h
  simp only [cellsInt, List.drop_zero, List.drop_succ_cons, List.take_succ_cons, List.take_zero] at h0 h1 h2
  obtain ⟨a0, e0, rfl, w0⟩ := DataW.trod_int Tryz.underlying3 h0
  obtain ⟨a1, e1, rfl, w1⟩ := DataW.trod_int Tryz.underlying3 h1
  obtain ⟨a2, e2, rfl, w2⟩ := DataW.trod_int Tryz.underlying3 h2
  simp at e0 e1 e2
  subst e0 e1 e2
  exact ⟨(a0, a1, a2), rfl, trivial⟩

end Go.Proofs.YtcjdpilmhlfmfaaGreatDoor

/-
  Texts as numbers, as plain lists: what note.readNumbers says. No program is named.
-/
namespace Go.Proofs.YtcjdpilmhlfmfaaGreatDoor

/-- The number that a word writes, if it writes one as strconv.Itoa does. -/
def readNum (w : List UInt8) : Option Int :=
  match Lib.atoiAll w with
  | .ok v => if Lib.itoa v = w then some v else none
  | _ => none

def readNums : List (List UInt8) → Option (List Int)
  | [] => some []
  | w :: r => (readNum w).bind fun v => (readNums r).map (v :: ·)

theorem readNums_snoc (l : List (List UInt8)) (w : List UInt8) (vs : List Int) (h : readNums l = some vs) : readNums (l ++ [w]) = (readNum w).map fun v => vs ++ [v] := by
  induction l generalizing vs with
  | nil =>
    simp only [readNums, Option.some.injEq] at h
    subst h
    simp only [List.nil_append, readNums]
    cases readNum w <;> rfl
  | cons x r ih =>
    simp only [readNums] at h
    cases hx : readNum x with
    | none => rw [hx] at h; cases h
    | some v =>
      rw [hx] at h
      simp only [Option.bind_some] at h
      cases hr : readNums r with
      | none => rw [hr] at h; cases h
      | some vr =>
        rw [hr] at h
        simp only [Option.map_some, Option.some.injEq] at h
        subst h
        simp only [List.cons_append, readNums, hx, Option.bind_some, ih vr hr]
        cases readNum w <;> rfl

theorem readNums_bad (l : List (List UInt8)) (w : List UInt8) (r : List (List UInt8)) (h : readNum w = none) : readNums (l ++ w :: r) = none := by
  induction l with
  | nil => simp only [List.nil_append, readNums, h, Option.bind_none]
  | cons x q ih =>
    simp only [List.cons_append, readNums, ih]
    cases readNum x <;> rfl

theorem readNums_length : ∀ (l : List (List UInt8)) (vs : List Int), readNums l = some vs → vs.length = l.length
  | [], vs, h => by simp only [readNums, Option.some.injEq] at h; subst h; rfl
  | w :: r, vs, h => by
    simp only [readNums] at h
    cases hx : readNum w with
    | none => rw [hx] at h; cases h
    | some v =>
      rw [hx] at h
      simp only [Option.bind_some] at h
      cases hr : readNums r with
      | none => rw [hr] at h; cases h
      | some vr =>
        rw [hr] at h
        simp only [Option.map_some, Option.some.injEq] at h
        subst h
        simp [readNums_length r vr hr]

end Go.Proofs.YtcjdpilmhlfmfaaGreatDoor

/-
  note.numbersOf: the numbers of entries, in a row of the call's own.
-/
namespace Go.Proofs.YtcjdpilmhlfmfaaGreatDoor
open Go.RowKit

theorem infoI : (Tryz.prog.info? 3).map (fun i => (i.zero, i.size, i.bytes)) = some (some (.int .i64 0), 1, 8) := by kernel_rfl

theorem ntNums_length : ∀ l : List Nt, (ntNums l).length = l.length * 3
  | [] => rfl
  | x :: r => by
    have := ntNums_length r
    unfold ntNums at this ⊢
    rw [List.flatMap_cons, List.length_append, this]
    simp only [List.length_cons, List.length_nil]
    omega

set_option maxHeartbeats 1000000 in
set_option maxRecDepth 100000 in
theorem numbers_any (l : List Nt) (a : Option Addr) (cap n : Nat) (w : World) (S : SlW ec w a cap l) (hn : n = l.length) (few : n ≤ 10) :
    Calls Tryz.prog 233 #[.slice a n cap] w fun e w' => ∃ a' G, e = .returned (.slice a' (n * 3) G) ∧ w'.ownsRow w.heap.size 3 1 (.slice a' (n * 3) G) (n * 3) ((ntNums l).map (Value.int .i64)) ∧ Below w.heap.size w w' := by
  obtain ⟨i0, hi, hz0, hz1, hz2⟩ := info_parts infoI
  obtain ⟨c3, hc3⟩ : ∃ c3, c3 = n * 3 := ⟨_, rfl⟩
  obtain ⟨w1, hr, own, gr⟩ := run_make_own (P := Tryz.prog) w w.heap.size 28 3 i0 (.int .i64 0) 1 Tryz.underlying28 hi hz0 hz1 .i64 .i64 c3 (by rw [hz2]; omega) (by unfold maxLen; omega) (Nat.le_refl _)
  have bel : Below w.heap.size w w1 := (Below.refl _ _).grown gr (Nat.le_refl _) (fun k hk => by cases hk)
  have u3 : IntKind.i64.wrap (3 * (n : Int)) = (c3 : Int) := by rw [IntKind.wrap_i64]; omega
  replace hn := hide hn
  replace hc3 := hide hc3
  clear gr
  go_enter Tryz.func233, Tryz.ntmps233
  go_wp2_with fail
  go_loopw [12, 3] (fun i s3 wr => ∃ (k : Nat) (ao : Option Addr) (G k3 : Nat), k ≤ n ∧ i = .int .i64 k ∧ s3 = .slice ao k3 G ∧ k3 = k * 3 ∧ wr.ownsRow w.heap.size 3 1 (.slice ao k3 G) k3 ((ntNums (l.take k)).map (Value.int .i64)) ∧ Below w.heap.size w wr) (fun i _ _ => n - (intOf i).toNat)
  case atStart => exact ⟨0, _, _, 0, Nat.zero_le _, rfl, rfl, rfl, own, bel⟩
  case round =>
    clear own bel hr
    obtain ⟨k, ao, G, k3, hk, rfl, rfl, hk3, own, bel⟩ := hrel
    by_cases hlt : k < n
    · have hkl : k < l.length := by rw [← hn.out]; exact hlt
      obtain ⟨b1, o1, rfl, hb1l⟩ := S.where ec_three (by decide) (by intro h; subst h; simp at hkl)
      obtain ⟨x, hx⟩ : ∃ x, l[k]? = some x := ⟨_, List.getElem?_eq_getElem hkl⟩
      have s1 := S.keep bel (Nat.le_refl _)
      have d0 := s1.cell ec_three k 0 x _ hx rfl
      have d1 := s1.cell ec_three k 1 x _ hx rfl
      have d2 := s1.cell ec_three k 2 x _ hx rfl
      simp only [Nat.add_zero] at d0
      have hT : (ntNums (l.take k)).map (Value.int .i64) ++ (#[Value.int .i64 x.1, .int .i64 x.2.1, .int .i64 x.2.2] : Array Value).toList = (ntNums (l.take (k + 1))).map (Value.int .i64) := by
        rw [List.take_add_one, hx]
        unfold ntNums
        simp
      obtain ⟨xs, xt, xv⟩ := x
      simp only at *
      replace hx := hide hx
      generalize (ntNums (l.take k)).map (Value.int .i64) = X at *
      replace hT := hide hT
      replace hk3 := hide hk3
      clear s1 hkl
      have BX := Blk.laid wr [.int .i64 xs, .int .i64 xt, .int .i64 xv] 68 _ rfl
      have bX := newB bel (.cells #[.int .i64 xs, .int .i64 xt, .int .i64 xv] 68)
      have own2 := own.alloc (.cells #[.int .i64 xs, .int .i64 xt, .int .i64 xv] 68)
      have hk30 : k3 ≤ 30 := by rw [hk3.out]; omega
      go_upto_region 5 with fail
      generalize wr.alloc _ = w2 at *
      have z0 : w2.cell? ⟨wr.heap.size, 0, none⟩ = some (.int .i64 xs) := BX.cell 0
      have z1 : w2.cell? ⟨wr.heap.size, 1, none⟩ = some (.int .i64 xt) := BX.cell 1
      have z2 : w2.cell? ⟨wr.heap.size, 2, none⟩ = some (.int .i64 xv) := BX.cell 2
      have lX := BX.lt
      go_wp2_with (at_builtin; refine wpList_append_new w2 rfl (.tmp 16) (.tmp 23) 28 rfl w.heap.size 3 i0 _ 1 8 Tryz.underlying28 hi hz0 hz1 hz2 rfl (by decide) (.slice ao k3 G) k3 _ (by rfl) own2 3 #[.int .i64 xs, .int .i64 xt, .int .i64 xv] 3 (by rfl) (by rfl) (by simp [Value.oneCell']) (by decide) (by unfold maxLen; omega) (by omega) bX.size ?_)
      intro v7 w7 own7 grow7 went7
      have bel7 := belowGrown bX own2 grow7 (Nat.le_refl _) bX.size
      have own8 : w7.ownsRow w.heap.size 3 1 v7 (k3 + 3) ((ntNums (l.take (k + 1))).map (Value.int .i64)) := by rw [← hT.out]; exact own7
      obtain ⟨g7, G7, rfl⟩ : ∃ g7 G7, v7 = .slice (some ⟨g7, 0, none⟩) (k3 + 3) G7 := by
        rcases own8.2 with ⟨_, h⟩ | ⟨g, cap, cur, h, _⟩
        · omega
        · exact ⟨_, _, h⟩
      go_wp2_with fail
      go_roundw
      case rel => exact ⟨k + 1, some ⟨g7, 0, none⟩, G7, k3 + 3, by omega, by go_num, rfl, by rw [hk3.out, Nat.succ_mul], own8, bel7⟩
      case measure => simp [intOf]; omega
    · obtain rfl : n = k := by omega
      rw [List.take_of_length_le (by rw [← hn.out]; exact Nat.le_refl _)] at own
      subst hk3
      go_wp2_with fail
      go_ret
      exact ⟨_, _, rfl, own, bel⟩

end Go.Proofs.YtcjdpilmhlfmfaaGreatDoor

/-
  note.readNumbers: the numbers of words, or that one is none.
-/
namespace Go.Proofs.YtcjdpilmhlfmfaaGreatDoor
open Go.RowKit

def bytes (b : ByteArray) : List UInt8 := b.data.toList

theorem toList_loop (b : ByteArray) : ∀ (n i : Nat) (acc : List UInt8), b.size - i = n → ByteArray.toList.loop b i acc = acc.reverse ++ b.data.toList.drop i := by
  intro n
  induction n with
  | zero =>
    intro i acc h
    unfold ByteArray.toList.loop
    rw [if_neg (by omega)]
    have : b.data.toList.drop i = [] := List.drop_eq_nil_of_le (by show b.data.toList.length ≤ i; rw [Array.length_toList]; exact Nat.le_of_sub_eq_zero h)
    rw [this]; simp
  | succ n ih =>
    intro i acc h
    unfold ByteArray.toList.loop
    have hi : i < b.size := by omega
    rw [if_pos hi, ih (i + 1) _ (by omega)]
    have hl : i < b.data.toList.length := by rw [Array.length_toList]; exact hi
    rw [List.drop_eq_getElem_cons hl]
    have : b.get! i = b.data.toList[i] := by
      show b.data[i]! = _
      rw [getElem!_pos b.data i hi]; rfl
    simp [this]
theorem toList_bytes (b : ByteArray) : b.toList = bytes b := by
  unfold ByteArray.toList bytes
  rw [toList_loop b _ 0 [] rfl]; simp

theorem bytes_eq {l : List UInt8} {b : ByteArray} : (⟨l.toArray⟩ : ByteArray) = b ↔ l = bytes b := by
  constructor
  · rintro rfl; simp [bytes]
  · rintro rfl; simp [bytes]

set_option maxHeartbeats 1000000 in
set_option maxRecDepth 100000 in
theorem readNumbers_any (ws : List ByteArray) (a : Option Addr) (cap n : Nat) (w : World) (hg : Gl w) (S : Sl w a cap (ws.map Value.string)) (hn : n = ws.length) (few : n ≤ 100000) (hsz : ∀ b ∈ ws, b.size ≤ 100000) :
    Calls Tryz.prog 171 #[.slice a n cap] w fun e w' => ((∃ vs a' G, readNums (ws.map bytes) = some vs ∧ e = .returned (.tuple #[.slice a' n G, .bool true]) ∧ w'.ownsRow w.heap.size 3 1 (.slice a' n G) n (vs.map (Value.int .i64))) ∨ (readNums (ws.map bytes) = none ∧ e = .returned (.tuple #[.slice none 0 0, .bool false]))) ∧ Below w.heap.size w w' := by
  obtain ⟨i0, hi, hz0, hz1, hz2⟩ := info_parts infoI
  obtain ⟨w1, hr, own, gr⟩ := run_make_own (P := Tryz.prog) w w.heap.size 28 3 i0 (.int .i64 0) 1 Tryz.underlying28 hi hz0 hz1 .i64 .i64 n (by rw [hz2]; omega) (by unfold maxLen; omega) (Nat.le_refl _)
  have bel : Below w.heap.size w w1 := (Below.refl _ _).grown gr (Nat.le_refl _) (fun k hk => by cases hk)
  obtain ⟨R, hR⟩ : ∃ R, R = readNums (ws.map bytes) := ⟨_, rfl⟩
  rw [← hR]
  replace hR := hide hR
  replace hn := hide hn
  replace hsz := hide hsz
  clear gr
  go_enter Tryz.func171, Tryz.ntmps171
  go_wp2_with fail
  go_loopw [14, 4] (fun i s4 wr => ∃ (k : Nat) (ao : Option Addr) (G : Nat) (vs : List Int), k ≤ n ∧ i = .int .i64 k ∧ s4 = .slice ao k G ∧ Hid (readNums ((ws.take k).map bytes) = some vs) ∧ wr.ownsRow w.heap.size 3 1 (.slice ao k G) k (vs.map (Value.int .i64)) ∧ Below w.heap.size w wr) (fun i _ _ => n - (intOf i).toNat)
  case atStart => exact ⟨0, _, _, [], Nat.zero_le _, rfl, rfl, hide rfl, own, bel⟩
  case round =>
    clear own bel hr
    obtain ⟨k, ao, G, vs, hk, rfl, rfl, hv, own, bel⟩ := hrel
    by_cases hlt : k < n
    · have hkl : k < ws.length := by rw [← hn.out]; exact hlt
      obtain ⟨x, hx⟩ : ∃ x, ws[k]? = some x := ⟨_, List.getElem?_eq_getElem hkl⟩
      have S1 := S.keep bel (Nat.le_refl _)
      obtain ⟨b1, o1, rfl, -, hc⟩ := S1.row.at (by intro h; have := congrArg List.length h; simp at this; subst this; simp at hkl)
      have d0 : wr.cell? ⟨b1, o1 + k, none⟩ = some (.string x) := hc k _ (by rw [List.getElem?_map, hx]; rfl)
      have hxs := hsz.out x (List.mem_of_getElem? hx)
      have g1 := hg.call bel
      have hbad : readNum (bytes x) = none → R = none := by
        intro h
        rw [hR.out]
        have e : ws = ws.take k ++ x :: ws.drop (k + 1) := by
          obtain ⟨hk', rfl⟩ := List.getElem?_eq_some_iff.1 hx
          rw [← List.drop_eq_getElem_cons hk', List.take_append_drop]
        rw [e, List.map_append, List.map_cons]
        exact readNums_bad _ _ _ h
      have hgood : ∀ v, readNum (bytes x) = some v → Hid (readNums ((ws.take (k + 1)).map bytes) = some (vs ++ [v])) := by
        intro v h
        rw [List.take_add_one, hx, List.map_append]
        simp only [Option.toList_some, List.map_cons, List.map_nil]
        rw [readNums_snoc _ _ _ hv.out, h]
        exact hide rfl
      replace hx := hide hx
      clear S1 hc hkl
      cases hat : Lib.atoiAll x.data.toList with
      | «syntax» =>
        obtain ⟨te, pe, he⟩ := g1.syn
        have hRn := hide (hbad (by unfold readNum bytes; rw [hat]))
        replace hat := hide hat
        go_wp2_with fail
        go_at_call 205
        refine (Tryz.strconv_Atoi_syntax x (by omega) hat.out _ _ he (.inr ⟨_, _, rfl⟩)).mono ?_
        rintro e w2 ⟨N, rfl, -, -, b2⟩
        go_wp2_with fail
        go_ret2
        exact ⟨.inr ⟨hRn.out, rfl⟩, belowCall bel b2⟩
      | range =>
        obtain ⟨te, pe, he⟩ := g1.rng
        have hRn := hide (hbad (by unfold readNum bytes; rw [hat]))
        replace hat := hide hat
        go_wp2_with fail
        go_at_call 205
        refine (Tryz.strconv_Atoi_range x (by omega) hat.out _ _ he (.inr ⟨_, _, rfl⟩)).mono ?_
        rintro e w2 ⟨N, rfl, -, -, b2⟩
        go_wp2_with fail
        go_ret2
        exact ⟨.inr ⟨hRn.out, rfl⟩, belowCall bel b2⟩
      | ok v =>
        obtain ⟨v0, v1⟩ := Lib.atoiAll_bounds hat
        have hrd : readNum (bytes x) = if Lib.itoa v = bytes x then some v else none := by unfold readNum bytes; rw [hat]
        replace hat := hide hat
        go_wp2_with fail
        go_at_call 205
        refine (Tryz.strconv_Atoi_ok x (by omega) v hat.out _).mono ?_
        rintro e w2 ⟨rfl, hw2⟩
        have b2 : Below wr.heap.size wr w2 := by
          rcases hw2 with rfl | ⟨t, rfl⟩
          · exact Below.refl _ _
          · exact Lib.bytesWorld_below _ _ _
        have bel2 := belowCall bel b2
        have own2 := ownCall own b2
        have g2 := g1.call b2
        clear hw2 b2
        go_wp2_with fail
        go_at_call 143
        refine (Tryz.strconv_Itoa v v0 v1 _ g2.tab).mono ?_
        rintro e w3 ⟨rfl, q, os, hw3⟩
        have b3 : Below w2.heap.size w2 w3 := by rw [hw3]; exact Lib.below_grow _ _ (Nat.le_refl _) _ _
        have bel3 := belowCall bel2 b3
        have own3 := ownCall own2 b3
        clear hw3 b3 bel2 own2 g2
        by_cases heq : (⟨(Lib.itoa v).toArray⟩ : ByteArray) = x
        · have hgv := hgood v (by rw [hrd, if_pos (bytes_eq.1 heq)])
          clear hrd hbad hgood
          go_wp2_with (at_builtin; refine wpList_append_new w3 rfl (.tmp 31) (.tmp 33) 28 rfl w.heap.size 3 i0 _ 1 8 Tryz.underlying28 hi hz0 hz1 hz2 rfl (by decide) (.slice ao k G) k _ (by rfl) own3 1 #[.int .i64 v] 3 (by rfl) (by rfl) (by simp [Value.oneCell']) (by decide) (by unfold maxLen; omega) (by omega) bel3.size ?_)
          intro v7 w7 own7 grow7 went7
          have bel7 := belowGrown bel3 own3 grow7 (Nat.le_refl _) bel3.size
          have own8 : w7.ownsRow w.heap.size 3 1 v7 (k + 1) ((vs ++ [v]).map (Value.int .i64)) := by rw [List.map_append]; exact own7
          obtain ⟨g7, G7, rfl⟩ : ∃ g7 G7, v7 = .slice (some ⟨g7, 0, none⟩) (k + 1) G7 := by
            rcases own8.2 with ⟨_, h⟩ | ⟨g, cap, cur, h, _⟩
            · omega
            · exact ⟨_, _, h⟩
          go_wp2_with fail
          go_roundw
          case rel => exact ⟨k + 1, some ⟨g7, 0, none⟩, G7, vs ++ [v], by omega, by go_num, rfl, hgv, own8, bel7⟩
          case measure => simp [intOf]; omega
        · have hRn := hide (hbad (by rw [hrd, if_neg (fun h => heq (bytes_eq.2 h))]))
          have hne : (Lib.itoa v == x.toList) = false := by
            rw [beq_eq_false_iff_ne]
            intro h
            exact heq (bytes_eq.2 (by rw [h]; exact toList_bytes x))
          clear hrd hbad hgood
          go_wp2_with fail
          go_ret2
          exact ⟨.inr ⟨hRn.out, rfl⟩, bel3⟩
    · obtain rfl : n = k := by omega
      have hRs : Hid (R = some vs) := by
        rw [hR.out]
        have := hv.out
        rw [List.take_of_length_le (by rw [← hn.out]; exact Nat.le_refl _)] at this
        exact this
      go_wp2_with fail
      go_ret2
      exact ⟨.inl ⟨vs, _, _, hRs.out, rfl, own⟩, bel⟩

end Go.Proofs.YtcjdpilmhlfmfaaGreatDoor

/-
  slices.Chunk of numbers, three by three: its iterator, its maker; note.entriesOf.
-/
namespace Go.Proofs.YtcjdpilmhlfmfaaGreatDoor
open Go.RowKit Go.Shelf
attribute [local go_sem] Oper.semAt_some

/-- What a round keeps: what was there, and the two boxes that the iterator reads. -/
def Kc (n₀ Bs Bn : Nat) (W W' : World) : Prop := Below n₀ W W' ∧ W'.heap[Bs]? = W.heap[Bs]? ∧ W'.heap[Bn]? = W.heap[Bn]?

theorem Kc.refl (n₀ Bs Bn : Nat) (W : World) : Kc n₀ Bs Bn W W := ⟨Below.refl _ _, rfl, rfl⟩
theorem Kc.trans {n₀ Bs Bn : Nat} {A B C : World} (h : Kc n₀ Bs Bn A B) (k : Kc n₀ Bs Bn B C) : Kc n₀ Bs Bn A C := ⟨h.1.trans k.1, k.2.1.trans h.2.1, k.2.2.trans h.2.2⟩

theorem chunks (m k : Nat) (pre : List (Fin m)) (h : pre.map Fin.val = List.range k) : pre.length = k := by
  have := congrArg List.length h
  simpa using this

set_option maxRecDepth 100000 in
set_option maxHeartbeats 2000000 in
theorem chunk1_in (F : Fence) (n : Nat) (hf : F.fn 231) (hro : F.round = none) (hn : 1 ≤ n) (l Bs Bn n₀ b off m m3 cap : Nat) (hm3 : m3 = m * 3) (hm : m3 ≤ 1000000) (hc3 : m3 ≤ cap) (hcap : cap ≤ 9223372036854775807) (J Jx : List (Fin m) → World → Prop) (W : World) (hJab : AbidesFrom W.heap.size J)
    (hY : ∀ pre x W, J pre W → pre.length < m → YieldAt F (n - 1) Tryz.prog l #[.slice (some ⟨b, off + x.val * 3, none⟩) 3 3] W fun e W' =>
      (e = .returned (.bool true) ∧ J (pre ++ [x]) W' ∧ Kc n₀ Bs Bn W W') ∨ (e = .returned (.bool false) ∧ Jx (pre ++ [x]) W'))
    (hBs : Boxed W Bs 28 (.slice (some ⟨b, off, none⟩) m3 cap)) (hBn : Boxed W Bn 3 (.int .i64 3)) (h0 : J [] W) :
    CallsIn F n Tryz.prog 231 #[.func (.yield l) #[] #[], .pointer (some ⟨Bs, 0, none⟩), .pointer (some ⟨Bn, 0, none⟩)] W fun e W' => (∃ v, e = .returned v) ∧
      ((∃ ys : List (Fin m), ys.map Fin.val = List.range m ∧ J ys W') ∨ (∃ pre, True ∧ Jx pre W')) := by
  refine callsIn_of_wp Tryz.func231 rfl hf ?_ hro
  simp only [Tryz.ntmps231, List.size_toArray, List.length_cons, List.length_nil, Nat.reduceAdd, Nat.reduceSub, Array.replicate_succ, Array.replicate_zero, List.push_toArray, List.append_toArray, List.nil_append, List.cons_append]
  gi_wp2
  gi_loopw [4] (fun i wr => ∃ (k k3 : Nat) (pre : List (Fin m)), k ≤ m ∧ k3 = k * 3 ∧ i = .int .i64 k3 ∧ pre.map Fin.val = List.range k ∧ J pre wr ∧ Kc n₀ Bs Bn W wr)
    (fun i _ => m3 - (intOf i).toNat)
  case atStart => exact ⟨0, 0, [], Nat.zero_le _, rfl, rfl, rfl, h0, Kc.refl _ _ _ _⟩
  case round =>
    obtain ⟨k, k3, pre, hk, hk3, rfl, hpre, hJs, hK⟩ := hrel
    have cs : wr.cell? ⟨Bs, 0, none⟩ = some (.slice (some ⟨b, off, none⟩) m3 cap) := (show Boxed wr Bs _ _ from hK.2.1.trans hBs).cell
    have cn : wr.cell? ⟨Bn, 0, none⟩ = some (.int .i64 3) := (show Boxed wr Bn _ _ from hK.2.2.trans hBn).cell
    by_cases hlt : k < m
    · have q1 : (k3 : Int) < m3 := by omega
      have q2 : (0 : Int) ≤ k3 := by omega
      have q3 : (k3 : Int) ≤ m3 := by omega
      have q4 : (m3 : Int) ≤ cap := by omega
      have q5 : (k3 : Int) ≤ cap := by omega
      have q6 : (3 : Int) ≤ ((m3 - k3 : Nat) : Int) := by omega
      have q7 : ¬ ((m3 - k3 : Nat) : Int) < 3 := by omega
      have q8 : (k3 : Int) + 3 ≤ cap := by omega
      have q9 : (k3 : Int) + 3 ≤ m3 := by omega
      have q10 : (0 : Int) ≤ (k3 : Int) + 3 := by omega
      have q11 : (k3 : Int) ≤ (k3 : Int) + 3 := by omega
      have u1 : IntKind.i64.wrap ((k3 : Int) + 3) = (k3 : Int) + 3 := by rw [IntKind.wrap_i64]; omega
      have t1 : ((k3 : Int) + 3).toNat - k3 = 3 := by omega
      have mixed : Tryz.prog.follows .mixedOrders = true := by kernel_rfl
      have gd : wr.grownBy wr.drew none := ⟨rfl, rfl, rfl, Nat.le_refl _, fun k hk _ => rfl⟩
      have hJ2 : J pre wr.drew := hJab _ _ _ none hJs gd (fun r e => by cases e)
      obtain ⟨fn, tmps, assign, body, hy, hR⟩ := hY pre ⟨k, hlt⟩ wr.drew hJ2 (by rw [chunks m k pre hpre]; exact hlt)
      rw [← hk3] at hy
      replace hm3 := Lib.hid hm3
      replace hk3 := Lib.hid hk3
      have hmin : min (3 : Int) ((m3 - k3 : Nat) : Int) = 3 := by omega
      gi_wp2
      gi_region_o
      all_goals gi_wp2
      all_goals (
        refine hR.mono ?_
        rintro e W3 (⟨rfl, hJ3, hk4⟩ | ⟨rfl, hJx3⟩)
        · have hK3 : Kc n₀ Bs Bn W W3 := hK.trans (Kc.trans ⟨belowDrew (Below.refl _ _), rfl, rfl⟩ hk4)
          have cs3 : W3.cell? ⟨Bs, 0, none⟩ = some (.slice (some ⟨b, off, none⟩) m3 cap) := (show Boxed W3 Bs _ _ from hK3.2.1.trans hBs).cell
          have cn3 : W3.cell? ⟨Bn, 0, none⟩ = some (.int .i64 3) := (show Boxed W3 Bn _ _ from hK3.2.2.trans hBn).cell
          gi_wp2
          go_roundw
          case rel => exact ⟨k + 1, k3 + 3, pre ++ [⟨k, hlt⟩], hlt, by rw [hk3.out, Nat.succ_mul], by go_num, by rw [List.map_append, hpre, List.range_succ]; rfl, hJ3, hK3⟩
          case measure => simp [intOf]; omega
        · gi_wp2
          refine bodyPost_ret (results_none rfl _ _ _) rfl ?_
          exact ⟨⟨_, rfl⟩, .inr ⟨_, trivial, hJx3⟩⟩)
    · obtain rfl : k = m := by omega
      have q1 : ¬ (k3 : Int) < m3 := by omega
      replace hm3 := Lib.hid hm3
      replace hk3 := Lib.hid hk3
      gi_wp2
      go_end0
      exact ⟨⟨_, rfl⟩, .inl ⟨_, hpre, hJs⟩⟩

end Go.Proofs.YtcjdpilmhlfmfaaGreatDoor

/-
  A region that draws its order, by an invariant: whatever has come up so far, what holds then; each operation shown once, wherever it comes up.
-/
namespace Go.Proofs.YtcjdpilmhlfmfaaGreatDoor
open Go.RowKit

def togo : List Bool → Nat
  | [] => 0
  | b :: r => (if b then 0 else 1) + togo r

theorem togo_set : ∀ (l : List Bool) (i : Nat), l[i]? = some false → togo (l.set i true) + 1 = togo l
  | [], i, h => by simp at h
  | b :: r, 0, h => by
    simp at h
    subst h
    simp [togo]
    omega
  | b :: r, i + 1, h => by
    have := togo_set r i (by simpa using h)
    simp only [List.set_cons_succ, togo]
    omega

theorem togo_zero : ∀ (l : List Bool) (i : Nat), togo l = 0 → l[i]? ≠ some false
  | [], i, _ => by simp
  | b :: r, 0, h => by
    cases b with
    | false => simp [togo] at h
    | true => simp
  | b :: r, i + 1, h => by
    have : togo r = 0 := by simp only [togo] at h; omega
    simpa using togo_zero r i this

/-- What has come up has behind it all that it waits for. -/
def Down (md : Region.Mode) (ops : Array Oper) (d : Nat → Bool) : Prop :=
  ∀ i o, ops[i]? = some o → d i = true → ∀ e ∈ o.after, Region.binds md e = true → d e.on = true

/-- What waits for something that has not come up has not come up. -/
theorem no {md : Region.Mode} {ops : Array Oper} {d : Nat → Bool} (h : Down md ops d) (i : Nat) (o : Oper) (ho : ops[i]? = some o) (e : Edge) (he : e ∈ o.after) (hb : Region.binds md e = true) (hd : d e.on = false) : d i = false := by
  cases hi : d i with
  | false => rfl
  | true =>
    have := h i o ho hi e he hb
    rw [hd] at this
    cases this

theorem listed_off {L : Array Bool} {i : Nat} (h : L.getD i true = false) : i < L.size ∧ L.getD i false = false ∧ L.toList[i]? = some false := by
  by_cases hi : i < L.size
  · have e : L[i] = false := by simpa [Array.getD, hi] using h
    refine ⟨hi, by simp [Array.getD, hi, e], ?_⟩
    rw [Array.getElem?_toList, Array.getElem?_eq_getElem hi, e]
  · simp [Array.getD, hi] at h

theorem listed_on {L : Array Bool} {i : Nat} (hi : i < L.size) (h : L.getD i false = false) : L.getD i true = false := by
  simpa [Array.getD, hi] using h

theorem listed_set (L : Array Bool) (i k : Nat) (hi : i < L.size) : (L.setIfInBounds i true).getD k false = (k == i || L.getD k false) := by
  by_cases hk : k = i
  · subst hk
    simp [Array.getD, hi]
  · by_cases hs : k < L.size
    · have : (L.setIfInBounds i true)[k]'(by simpa using hs) = L[k] := by rw [Array.getElem_setIfInBounds_ne (hj := hs) (h := fun e => hk e.symm)]
      simp [Array.getD, hs, hk, this]
    · simp [Array.getD, hs, hk]

theorem wpAny_inv {P : Program} {md : Region.Mode} {ops : Array Oper} {Q : Exit → Act → World → Prop} (Inv : (Nat → Bool) → Act → World → Prop)
    (hback : ∀ (i : Nat) (o : Oper), ops[i]? = some o → ∀ e ∈ o.after, e.on < i)
    (hstep : ∀ (i : Nat) (o : Oper) (d : Nat → Bool) (a : Act) (w : World), ops[i]? = some o → d i = false → (∀ e ∈ o.after, Region.binds md e = true → d e.on = true) → Down md ops d → Inv d a w →
      ∀ K : Act → World → Prop, (∀ a' w', Inv (fun k => k == i || d k) a' w' → K a' w') → if Region.wanted o (yielded ops a.tmps) = true then Oper.wp P o a w K Q else K (a.put o.dst undef) w)
    (hend : ∀ d a w, (∀ i, i < ops.size → d i = true) → Inv d a w → Q .normal a w) :
    ∀ (fuel : Nat) (L : Array Bool) (a : Act) (w : World), L.size = ops.size → togo L.toList ≤ fuel → Down md ops (fun k => L.getD k false) → Inv (fun k => L.getD k false) a w → wpAny P md ops Q fuel L a w := by
  intro fuel
  induction fuel with
  | zero =>
    intro L a w hs ht hd inv
    have all : ∀ i, i < ops.size → L.getD i false = true := by
      intro i hi
      cases e : L.getD i false with
      | true => rfl
      | false => exact absurd (listed_off (listed_on (by omega) e)).2.2 (togo_zero _ i (by omega))
    refine ⟨?_, hend _ a w all inv⟩
    cases hr : Region.ready md ops L with
    | nil => rfl
    | cons j rs =>
      obtain ⟨hu, _⟩ := mem_ready.1 (show j ∈ Region.ready md ops L by rw [hr]; exact List.mem_cons_self)
      exact absurd (listed_off hu).2.2 (togo_zero _ j (by omega))
  | succ fuel ih =>
    intro L a w hs ht hd inv
    refine ⟨fun hr => ?_, fun i hi => ?_⟩
    · refine hend _ a w ?_ inv
      intro i
      induction i using Nat.strongRecOn with
      | _ i ihi =>
        intro hi
        cases e : L.getD i false with
        | true => rfl
        | false =>
          exfalso
          have ho : ops[i]? = some ops[i] := Array.getElem?_eq_getElem hi
          have : i ∈ Region.ready md ops L := mem_ready.2 ⟨listed_on (by omega) e, _, ho, fun x hx _ => ihi x.on (hback i _ ho x hx) (by have := hback i _ ho x hx; omega)⟩
          rw [hr] at this
          cases this
    · obtain ⟨hu, o, ho, hall⟩ := mem_ready.1 hi
      obtain ⟨hlt, hoff, hget⟩ := listed_off hu
      have hfun : (fun k => (L.setIfInBounds i true).getD k false) = (fun k => k == i || L.getD k false) := funext fun k => listed_set L i k hlt
      refine wpOp_step ho (fun K hK => ?_)
      refine hstep i o (fun k => L.getD k false) a w ho hoff hall hd inv K (fun a' w' inv' => ?_)
      refine hK _ _ (ih _ a' w' (by simpa using hs) ?_ ?_ ?_)
      · have := togo_set L.toList i hget
        rw [Array.toList_setIfInBounds]
        omega
      · rw [hfun]
        intro j oj hoj hj e he hb
        by_cases hji : j = i
        · subst hji
          rw [ho] at hoj
          obtain rfl := Option.some.inj hoj
          have := hall e he hb
          simp only [this, Bool.or_true]
        · have h1 : L.getD j false = true := by
            have : (j == i) = false := by simp [hji]
            simpa [this] using hj
          have := hd j oj hoj h1 e he hb
          simp only at this
          simp only [this, Bool.or_true]
      · rw [hfun]; exact inv'

/-- Each operation waits for earlier ones alone. -/
def backB (ops : Array Oper) : Bool := (List.range ops.size).all fun i => ((ops[i]?).map fun o => o.after.all fun e => decide (e.on < i)).getD true

theorem back_of {ops : Array Oper} (h : backB ops = true) : ∀ (i : Nat) (o : Oper), ops[i]? = some o → ∀ e ∈ o.after, e.on < i := by
  intro i o ho e he
  have hi := (Array.getElem?_eq_some_iff.1 ho).1
  have := List.all_eq_true.1 h i (List.mem_range.2 hi)
  rw [ho] at this
  simp only [Option.map_some, Option.getD_some] at this
  have := (Array.all_eq_true_iff_forall_mem.1 this) e he
  simpa using this

theorem togo_new : ∀ n : Nat, togo (List.replicate n false) = n
  | 0 => rfl
  | n + 1 => by
    rw [List.replicate_succ, togo, togo_new n]
    simp
    omega

theorem wp_region_inv {P : Program} {ops : Array Oper} {Q : Exit → Act → World → Prop} {id : Nat} {a : Act} {w : World} (hm : P.follows .mixedOrders = true) (hb : backB ops = true) (Inv : (Nat → Bool) → Act → World → Prop)
    (hstep : ∀ (i : Nat) (o : Oper) (d : Nat → Bool) (a : Act) (w : World), i < ops.size → ops[i]? = some o → d i = false → (∀ e ∈ o.after, Region.binds .any e = true → d e.on = true) → Down .any ops d → Inv d a w →
      ∀ K : Act → World → Prop, (∀ a' w', Inv (fun k => k == i || d k) a' w' → K a' w') → if Region.wanted o (yielded ops a.tmps) = true then Oper.wp P o a w K Q else K (a.put o.dst undef) w)
    (hend : ∀ d a w, (∀ i, i < ops.size → d i = true) → Inv d a w → Q .normal a w) (inv0 : Inv (fun _ => false) a w.drew) : (Code.region id ops true).wp P Q a w := by
  have e : (fun k => (Array.replicate ops.size false).getD k false) = fun _ => false := funext fun k => by
    by_cases hk : k < ops.size
    · simp [Array.getD, hk]
    · simp [Array.getD, hk]
  refine wp_region_any hm (wpAny_inv Inv (back_of hb) (fun i o d a w ho => hstep i o d a w (Array.getElem?_eq_some_iff.1 ho).1 ho) hend _ _ _ _ (by simp) (by rw [Array.toList_replicate, togo_new]; exact Nat.le_refl _) ?_ (by rw [e]; exact inv0))
  intro i o _ hd
  rw [e] at hd
  cases hd

end Go.Proofs.YtcjdpilmhlfmfaaGreatDoor
