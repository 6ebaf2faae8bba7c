/-
  The reference's RecText: its closure 'say', which lays numbers as texts behind the words that are there.
-/
import Derived.Test.YthoclnjfbigdiaaDoorNPrint
import Derived.Test.YthoclnjfbigdiaaDoorNReadR
import Derived.Test.YthoclnjfbigdiaaDoorStepCall
import Derived.Test.YthoclnjfbigdiaaDoorSumMath
import Derived.Deep.Cut
import Derived.Deep.CutRange
import Derived.Deep.AppendLies
namespace Go.Proofs.YthoclnjfbigdiaaDoor
open Go.RowKit

/-- A number's text. -/
def itB (n : Int) : ByteArray := ⟨(Lib.itoa n).toArray⟩

theorem ownNe {w : World} {base n g : Nat} {e t : TypeId} {size : Nat} {v : Value} {xs cs : List Value} (h : w.ownsRow base e size v n xs) (B : Blk w g cs t) (ht : e ≠ t) : v.ownBlock ≠ some g := by
  rcases h.2 with ⟨rfl, _⟩ | ⟨g1, c1, cur1, rfl, _, h1, _⟩
  · intro e; cases e
  · intro e
    have e1 : g1 = g := by simpa [Value.ownBlock] using e
    subst e1
    have h2 := h1.symm.trans B
    simp only [Option.some.injEq, Obj.cells.injEq] at h2
    exact ht h2.2.1

theorem infoS : (Tryd.prog.info? 9).map (fun i => (i.zero, i.size, i.bytes)) = some (some (.string ⟨#[]⟩), 1, 16) := by kernel_rfl

set_option maxHeartbeats 1000000 in
set_option maxRecDepth 100000 in
theorem say_any (ns : List Int) (g m bw k0 : Nat) (aw : Option Addr) (G : Nat) (ws : List ByteArray) (w : World) (hm : m = ns.length) (few : m ≤ 100) (hk0 : k0 ≤ 100)
    (hgb : bw < g) (BN : Blk w g (ns.map (Value.int .i64)) 3) (BW : Blk w bw [.slice aw k0 G] 55) (own : w.ownsRow (bw + 1) 9 1 (.slice aw k0 G) k0 (ws.map Value.string))
    (hb : ∀ n ∈ ns, -9223372036854775808 ≤ n ∧ n ≤ 9223372036854775807) (htab : ∀ W, Below bw w W → Lib.TabIs Tryd.prog W "internal/strconv.uint64pow10" .u64 Lib.pow10Tab) :
    Calls Tryd.prog 28 #[.slice (some ⟨g, 0, none⟩) m m, .pointer (some ⟨bw, 0, none⟩)] w fun e w' => e = .returned (.tuple #[]) ∧
      ∃ aw' G', Blk w' bw [.slice aw' (k0 + m) G'] 55 ∧ w'.ownsRow (bw + 1) 9 1 (.slice aw' (k0 + m) G') (k0 + m) ((ws ++ ns.map itB).map Value.string) ∧ Below bw w w' := by
  obtain ⟨i0, hi, hz0, hz1, hz2⟩ := info_parts infoS
  replace hm := hide hm
  go_enter Tryd.func28, Tryd.ntmps28
  go_wp2_with fail
  go_loopw [7] (fun i wr => ∃ (k : Nat) (ao : Option Addr) (H kk : Nat), k ≤ m ∧ i = .int .i64 k ∧ kk = k0 + k ∧ Blk wr g (ns.map (Value.int .i64)) 3 ∧ Blk wr bw [.slice ao kk H] 55 ∧ wr.ownsRow (bw + 1) 9 1 (.slice ao kk H) kk ((ws ++ (ns.take k).map itB).map Value.string) ∧ Below bw w wr) (fun i _ => m - (intOf i).toNat)
  case atStart => exact ⟨0, aw, G, k0, Nat.zero_le _, rfl, rfl, BN, BW, by simpa using own, Below.refl _ _⟩
  case round =>
    clear BN BW own
    obtain ⟨k, ao, H, kk, hk, rfl, hkk, BN, BW, own, bel⟩ := hrel
    by_cases hlt : k < m
    · have hkl : k < ns.length := by rw [← hm.out]; exact hlt
      obtain ⟨x, hx⟩ : ∃ x, ns[k]? = some x := ⟨_, List.getElem?_eq_getElem hkl⟩
      obtain ⟨x0, x1⟩ := hb x (List.mem_of_getElem? hx)
      have d0 : wr.cell? ⟨g, k, none⟩ = some (.int .i64 x) := (BN.cell k).trans (by rw [List.getElem?_map, hx]; rfl)
      have e0 : wr.cell? ⟨bw, 0, none⟩ = some (.slice ao kk H) := BW.cell 0
      have fz : wr.frozen? ⟨bw, 0, none⟩ = false := BW.free 0
      have lw := BW.lt
      have lg := BN.lt
      have hT : (ws ++ (ns.take k).map itB).map Value.string ++ [.string (itB x)] = (ws ++ (ns.take (k + 1)).map itB).map Value.string := by
        rw [List.take_add_one, hx]
        simp
      have cI : ∀ W, Below wr.heap.size wr W → Calls Tryd.prog 29 #[.int .i64 x] W fun e w' => ∃ v', e = .returned v' ∧ v' = .string (itB x) ∧ Below wr.heap.size wr w' ∧ w'.cell? ⟨bw, 0, none⟩ = some (.slice ao kk H) := by
        intro W hW
        refine (Tryd.strconv_Itoa x x0 x1 _ (htab W (bel.trans (hW.mono (Nat.le_of_lt lw))))).mono ?_
        rintro e w' ⟨rfl, q, os, hw'⟩
        have b3 : Below W.heap.size W w' := by rw [hw']; exact Lib.below_grow _ _ (Nat.le_refl _) _ _
        have bb := hW.trans (b3.mono hW.size)
        exact ⟨_, rfl, rfl, bb, (BW.keep bb lw).cell 0⟩
      have ownW : ∀ W, Below wr.heap.size wr W → W.ownsRow (bw + 1) 9 1 (.slice ao kk H) kk ((ws ++ (ns.take k).map itB).map Value.string) := fun W h => ownCall own h
      have hkk' : kk ≤ 200 := by omega
      generalize itB x = X at *
      have hone : ∀ u ∈ ([.string X] : List Value), u.oneCell' = true := by
        intro u hu
        simp only [List.mem_cons, List.not_mem_nil, or_false] at hu
        subst hu
        rfl
      generalize (ws ++ (ns.take k).map itB).map Value.string = XS at *
      replace hT := hide hT
      replace hx := hide hx
      replace hkk := hide hkk
      replace ownW := hide ownW
      have lww : bw + 1 ≤ wr.heap.size := lw
      clear hkl
      go_upto_region 3 with fail
      go_region_law
        (first
          | (refine step_go_call (by rfl) 29 (.tmp 12) 3 (by rfl) (.int .i64 x) (by rfl) (by go_simp) (cI _ (by exact belowDrew (Below.refl _ _))) (by rintro e w' ⟨v', rfl, _⟩; exact ⟨_, rfl⟩) ?_; rintro v5 w5 ⟨v5', ev5, hv5, bb5, z0⟩; obtain rfl := Ending.returned.inj ev5; subst hv5; have o5 := (ownW.out w5 bb5).alloc (.cells #[.string X] 9); have b5 := newB bb5 (.cells #[.string X] 9); have l5 : bw < w5.heap.size := Nat.lt_of_lt_of_le lw bb5.size)
          | (refine step_append_lies _ (by rfl) (.tmp 11) (.tmp 14) 55 (by rfl) (bw + 1) 9 i0 (.string ⟨#[]⟩) 1 16 Tryd.underlying55 hi hz0 hz1 hz2 rfl (by decide) (.slice ao kk H) kk _ (by rfl) o5 ⟨w5.heap.size, 0, none⟩ 1 1 [.string X] (by rfl) (by rfl) (World.news_of_block (cs := #[.string X]) (t := 9) (fr := (0, 0)) (heap_alloc_new w5 _)) hone (by decide) (by unfold maxLen; omega) (by omega) (by have := b5.size; omega) (w5.heap.size + 1) (by simp) ?_; intro g6 c6 w6 own6 grow6 at6 lt6; have B6 := (BW.keep b5 lw).grown grow6 (fun k e => by have := (o5.lt k e).1; omega); have N6 := (BN.keep b5 lg).grown grow6 (fun k e h => ownNe o5 (BN.keep b5 lg) (by decide) (by rw [e, h])); have bb6 := belowGrown (b5.mono (Nat.le_of_lt lw)) o5 grow6 (Nat.le_succ _) (by have := b5.size; omega); have u1 : w6.cell? ⟨bw, 0, none⟩ = some (.slice ao kk H) := B6.cell 0; have fz6 : w6.frozen? ⟨bw, 0, none⟩ = false := B6.free 0))
      all_goals (
        go_wp2_with fail
        go_roundw
        case rel =>
          have o7 := ownsRow_setCell_other own6 (a := ⟨bw, 0, none⟩) (fun e => by have : g6 = bw := Option.some.inj e; have := (own6.lt g6 rfl).1; omega) (.slice (some ⟨g6, 0, none⟩) (kk + 1) c6)
          rw [hT.out] at o7
          exact ⟨k + 1, some ⟨g6, 0, none⟩, c6, kk + 1, by omega, by go_num, by rw [hkk.out]; omega, N6.other 0 _ (by omega), B6.set 0 _, o7, (bel.trans bb6).setCell (p := ⟨bw, 0, none⟩) (Nat.le_refl _) _⟩
        case measure => simp [intOf]; omega)
    · obtain rfl : m = k := by omega
      subst hkk
      rw [List.take_of_length_le (by rw [← hm.out]; exact Nat.le_refl _)] at own
      go_wp2_with fail
      go_end0
      exact ⟨rfl, _, _, BW, own, bel⟩

/-- 'say' of numbers just laid. -/
theorem say_laid (ns : List Int) (bw k0 g : Nat) (aw : Option Addr) (G : Nat) (ws : List ByteArray) (V : World) (few : ns.length ≤ 100) (hk0 : k0 ≤ 100)
    (BW : Blk V bw [.slice aw k0 G] 55) (own : V.ownsRow (bw + 1) 9 1 (.slice aw k0 G) k0 (ws.map Value.string)) (hg : g = V.heap.size)
    (hb : ∀ n ∈ ns, -9223372036854775808 ≤ n ∧ n ≤ 9223372036854775807) (htab : ∀ W, Below bw V W → Lib.TabIs Tryd.prog W "internal/strconv.uint64pow10" .u64 Lib.pow10Tab) :
    Calls Tryd.prog 28 #[.slice (some ⟨g, 0, none⟩) ns.length ns.length, .pointer (some ⟨bw, 0, none⟩)] (V.alloc (.cells (ns.map (Value.int .i64)).toArray 3)) fun e w' => e = .returned (.tuple #[]) ∧
      ∃ aw' G', Blk w' bw [.slice aw' (k0 + ns.length) G'] 55 ∧ w'.ownsRow (bw + 1) 9 1 (.slice aw' (k0 + ns.length) G') (k0 + ns.length) ((ws ++ ns.map itB).map Value.string) ∧ Below bw V w' := by
  subst hg
  have lw := BW.lt
  have b1 : Below bw V (V.alloc (.cells (ns.map (Value.int .i64)).toArray 3)) := (Below.refl bw V).alloc (Nat.le_of_lt lw) _
  refine (say_any ns V.heap.size ns.length bw k0 aw G ws _ rfl few hk0 lw (Blk.laid V _ _ _ rfl) (BW.alc _) (own.alloc _) hb (fun W h => htab W (b1.trans h))).mono ?_
  rintro e w' ⟨rfl, aw', G', h1, h2, h3⟩
  exact ⟨rfl, aw', G', h1, h2, b1.trans h3⟩

end Go.Proofs.YthoclnjfbigdiaaDoor
