/-
  note.readNumbers: the numbers of words, or that one is none.
-/
import Derived.Test.YthoclnjfbigdiaaDoorNGlob
import Derived.Test.YthoclnjfbigdiaaDoorNoteRead
import Derived.Test.YthoclnjfbigdiaaDoorNNums
namespace Go.Proofs.YthoclnjfbigdiaaDoor
open Go.RowKit

def bytes (b : ByteArray) : List UInt8 := b.data.toList

theorem toList_loop (b : ByteArray) : ∀ (n i : Nat) (acc : List UInt8), b.size - i = n → ByteArray.toList.loop b i acc = acc.reverse ++ b.data.toList.drop i := by
  intro n
  induction n with
  | zero =>
    intro i acc h
    unfold ByteArray.toList.loop
    rw [if_neg (by omega)]
    have : b.data.toList.drop i = [] := List.drop_eq_nil_of_le (by show b.data.toList.length ≤ i; rw [Array.length_toList]; exact Nat.le_of_sub_eq_zero h)
    rw [this]; simp
  | succ n ih =>
    intro i acc h
    unfold ByteArray.toList.loop
    have hi : i < b.size := by omega
    rw [if_pos hi, ih (i + 1) _ (by omega)]
    have hl : i < b.data.toList.length := by rw [Array.length_toList]; exact hi
    rw [List.drop_eq_getElem_cons hl]
    have : b.get! i = b.data.toList[i] := by
      show b.data[i]! = _
      rw [getElem!_pos b.data i hi]; rfl
    simp [this]
theorem toList_bytes (b : ByteArray) : b.toList = bytes b := by
  unfold ByteArray.toList bytes
  rw [toList_loop b _ 0 [] rfl]; simp

theorem bytes_eq {l : List UInt8} {b : ByteArray} : (⟨l.toArray⟩ : ByteArray) = b ↔ l = bytes b := by
  constructor
  · rintro rfl; simp [bytes]
  · rintro rfl; simp [bytes]

set_option maxHeartbeats 1000000 in
set_option maxRecDepth 100000 in
theorem readNumbers_any (ws : List ByteArray) (a : Option Addr) (cap n : Nat) (w : World) (hg : Gl w) (S : Sl w a cap (ws.map Value.string)) (hn : n = ws.length) (few : n ≤ 100000) (hsz : ∀ b ∈ ws, b.size ≤ 100000) :
    Calls Tryd.prog 49 #[.slice a n cap] w fun e w' => ((∃ vs a' G, readNums (ws.map bytes) = some vs ∧ e = .returned (.tuple #[.slice a' n G, .bool true]) ∧ w'.ownsRow w.heap.size 3 1 (.slice a' n G) n (vs.map (Value.int .i64))) ∨ (readNums (ws.map bytes) = none ∧ e = .returned (.tuple #[.slice none 0 0, .bool false]))) ∧ Below w.heap.size w w' := by
  obtain ⟨i0, hi, hz0, hz1, hz2⟩ := info_parts infoI
  obtain ⟨w1, hr, own, gr⟩ := run_make_own (P := Tryd.prog) w w.heap.size 51 3 i0 (.int .i64 0) 1 Tryd.underlying51 hi hz0 hz1 .i64 .i64 n (by rw [hz2]; omega) (by unfold maxLen; omega) (Nat.le_refl _)
  have bel : Below w.heap.size w w1 := (Below.refl _ _).grown gr (Nat.le_refl _) (fun k hk => by cases hk)
  obtain ⟨R, hR⟩ : ∃ R, R = readNums (ws.map bytes) := ⟨_, rfl⟩
  rw [← hR]
  replace hR := hide hR
  replace hn := hide hn
  replace hsz := hide hsz
  clear gr
  go_enter Tryd.func49, Tryd.ntmps49
  go_wp2_with fail
  go_loopw [14, 4] (fun i s4 wr => ∃ (k : Nat) (ao : Option Addr) (G : Nat) (vs : List Int), k ≤ n ∧ i = .int .i64 k ∧ s4 = .slice ao k G ∧ Hid (readNums ((ws.take k).map bytes) = some vs) ∧ wr.ownsRow w.heap.size 3 1 (.slice ao k G) k (vs.map (Value.int .i64)) ∧ Below w.heap.size w wr) (fun i _ _ => n - (intOf i).toNat)
  case atStart => exact ⟨0, _, _, [], Nat.zero_le _, rfl, rfl, hide rfl, own, bel⟩
  case round =>
    clear own bel hr
    obtain ⟨k, ao, G, vs, hk, rfl, rfl, hv, own, bel⟩ := hrel
    by_cases hlt : k < n
    · have hkl : k < ws.length := by rw [← hn.out]; exact hlt
      obtain ⟨x, hx⟩ : ∃ x, ws[k]? = some x := ⟨_, List.getElem?_eq_getElem hkl⟩
      have S1 := S.keep bel (Nat.le_refl _)
      obtain ⟨b1, o1, rfl, -, hc⟩ := S1.row.at (by intro h; have := congrArg List.length h; simp at this; subst this; simp at hkl)
      have d0 : wr.cell? ⟨b1, o1 + k, none⟩ = some (.string x) := hc k _ (by rw [List.getElem?_map, hx]; rfl)
      have hxs := hsz.out x (List.mem_of_getElem? hx)
      have g1 := hg.call bel
      have hbad : readNum (bytes x) = none → R = none := by
        intro h
        rw [hR.out]
        have e : ws = ws.take k ++ x :: ws.drop (k + 1) := by
          obtain ⟨hk', rfl⟩ := List.getElem?_eq_some_iff.1 hx
          rw [← List.drop_eq_getElem_cons hk', List.take_append_drop]
        rw [e, List.map_append, List.map_cons]
        exact readNums_bad _ _ _ h
      have hgood : ∀ v, readNum (bytes x) = some v → Hid (readNums ((ws.take (k + 1)).map bytes) = some (vs ++ [v])) := by
        intro v h
        rw [List.take_add_one, hx, List.map_append]
        simp only [Option.toList_some, List.map_cons, List.map_nil]
        rw [readNums_snoc _ _ _ hv.out, h]
        exact hide rfl
      replace hx := hide hx
      clear S1 hc hkl
      cases hat : Lib.atoiAll x.data.toList with
      | «syntax» =>
        obtain ⟨te, pe, he⟩ := g1.syn
        have hRn := hide (hbad (by unfold readNum bytes; rw [hat]))
        replace hat := hide hat
        go_wp2_with fail
        go_at_call 63
        refine (Tryd.strconv_Atoi_syntax x (by omega) hat.out _ _ he (.inr ⟨_, _, rfl⟩)).mono ?_
        rintro e w2 ⟨N, rfl, -, -, b2⟩
        go_wp2_with fail
        go_ret2
        exact ⟨.inr ⟨hRn.out, rfl⟩, belowCall bel b2⟩
      | range =>
        obtain ⟨te, pe, he⟩ := g1.rng
        have hRn := hide (hbad (by unfold readNum bytes; rw [hat]))
        replace hat := hide hat
        go_wp2_with fail
        go_at_call 63
        refine (Tryd.strconv_Atoi_range x (by omega) hat.out _ _ he (.inr ⟨_, _, rfl⟩)).mono ?_
        rintro e w2 ⟨N, rfl, -, -, b2⟩
        go_wp2_with fail
        go_ret2
        exact ⟨.inr ⟨hRn.out, rfl⟩, belowCall bel b2⟩
      | ok v =>
        obtain ⟨v0, v1⟩ := Lib.atoiAll_bounds hat
        have hrd : readNum (bytes x) = if Lib.itoa v = bytes x then some v else none := by unfold readNum bytes; rw [hat]
        replace hat := hide hat
        go_wp2_with fail
        go_at_call 63
        refine (Tryd.strconv_Atoi_ok x (by omega) v hat.out _).mono ?_
        rintro e w2 ⟨rfl, hw2⟩
        have b2 : Below wr.heap.size wr w2 := by
          rcases hw2 with rfl | ⟨t, rfl⟩
          · exact Below.refl _ _
          · exact Lib.bytesWorld_below _ _ _
        have bel2 := belowCall bel b2
        have own2 := ownCall own b2
        have g2 := g1.call b2
        clear hw2 b2
        go_wp2_with fail
        go_at_call 29
        refine (Tryd.strconv_Itoa v v0 v1 _ g2.tab).mono ?_
        rintro e w3 ⟨rfl, q, os, hw3⟩
        have b3 : Below w2.heap.size w2 w3 := by rw [hw3]; exact Lib.below_grow _ _ (Nat.le_refl _) _ _
        have bel3 := belowCall bel2 b3
        have own3 := ownCall own2 b3
        clear hw3 b3 bel2 own2 g2
        by_cases heq : (⟨(Lib.itoa v).toArray⟩ : ByteArray) = x
        · have hgv := hgood v (by rw [hrd, if_pos (bytes_eq.1 heq)])
          clear hrd hbad hgood
          go_wp2_with (at_builtin; refine wpList_append_new w3 rfl (.tmp 31) (.tmp 33) 51 rfl w.heap.size 3 i0 _ 1 8 Tryd.underlying51 hi hz0 hz1 hz2 rfl (by decide) (.slice ao k G) k _ (by rfl) own3 1 #[.int .i64 v] 3 (by rfl) (by rfl) (by simp [Value.oneCell']) (by decide) (by unfold maxLen; omega) (by omega) bel3.size ?_)
          intro v7 w7 own7 grow7 went7
          have bel7 := belowGrown bel3 own3 grow7 (Nat.le_refl _) bel3.size
          have own8 : w7.ownsRow w.heap.size 3 1 v7 (k + 1) ((vs ++ [v]).map (Value.int .i64)) := by rw [List.map_append]; exact own7
          obtain ⟨g7, G7, rfl⟩ : ∃ g7 G7, v7 = .slice (some ⟨g7, 0, none⟩) (k + 1) G7 := by
            rcases own8.2 with ⟨_, h⟩ | ⟨g, cap, cur, h, _⟩
            · omega
            · exact ⟨_, _, h⟩
          go_wp2_with fail
          go_roundw
          case rel => exact ⟨k + 1, some ⟨g7, 0, none⟩, G7, vs ++ [v], by omega, by go_num, rfl, hgv, own8, bel7⟩
          case measure => simp [intOf]; omega
        · have hRn := hide (hbad (by rw [hrd, if_neg (fun h => heq (bytes_eq.2 h))]))
          have hne : (Lib.itoa v == x.toList) = false := by
            rw [beq_eq_false_iff_ne]
            intro h
            exact heq (bytes_eq.2 (by rw [h]; exact toList_bytes x))
          clear hrd hbad hgood
          go_wp2_with fail
          go_ret2
          exact ⟨.inr ⟨hRn.out, rfl⟩, bel3⟩
    · obtain rfl : n = k := by omega
      have hRs : Hid (R = some vs) := by
        rw [hR.out]
        have := hv.out
        rw [List.take_of_length_le (by rw [← hn.out]; exact Nat.le_refl _)] at this
        exact this
      go_wp2_with fail
      go_ret2
      exact ⟨.inl ⟨vs, _, _, hRs.out, rfl, own⟩, bel⟩

end Go.Proofs.YthoclnjfbigdiaaDoor
