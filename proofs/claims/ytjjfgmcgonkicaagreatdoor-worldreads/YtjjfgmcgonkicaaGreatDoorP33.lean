/-
  The reference's RecText: its closure 'say', which lays numbers as texts behind the words that are there.
-/
import Derived.Deep.Cut
import Derived.Deep.CutRange
import Derived.Deep.AppendLies
import Derived.Lib.ParseIntBTie
import Derived.Deep.CutBlock
import Derived.Deep.RegionHeld3
import Derived.Test.YtjjfgmcgonkicaaGreatDoorP09
import Derived.Test.YtjjfgmcgonkicaaGreatDoorP08
import Derived.Test.YtjjfgmcgonkicaaGreatDoorP31
import Derived.Test.YtjjfgmcgonkicaaGreatDoorP05
import Derived.Test.YtjjfgmcgonkicaaGreatDoorP32
import Derived.Test.YtjjfgmcgonkicaaGreatDoorP30
import Derived.Test.YtjjfgmcgonkicaaGreatDoorP07
namespace Go.Proofs.YtjjfgmcgonkicaaGreatDoor
open Go.RowKit

/-- A number's text. -/
def itB (n : Int) : ByteArray := ⟨(Lib.itoa n).toArray⟩

theorem infoS : (Tryz.prog.info? 9).map (fun i => (i.zero, i.size, i.bytes)) = some (some (.string ⟨#[]⟩), 1, 16) := by kernel_rfl

set_option maxHeartbeats 1000000 in
set_option maxRecDepth 100000 in
theorem say_any (ns : List Int) (g m bw k0 : Nat) (aw : Option Addr) (G : Nat) (ws : List ByteArray) (w : World) (hm : m = ns.length) (few : m ≤ 100) (hk0 : k0 ≤ 100)
    (hgb : bw < g) (BN : Blk w g (ns.map (Value.int .i64)) 3) (BW : Blk w bw [.slice aw k0 G] 132) (own : w.ownsRow (bw + 1) 9 1 (.slice aw k0 G) k0 (ws.map Value.string))
    (hb : ∀ n ∈ ns, -9223372036854775808 ≤ n ∧ n ≤ 9223372036854775807) (htab : ∀ W, Below bw w W → Lib.TabIs Tryz.prog W "internal/strconv.uint64pow10" .u64 Lib.pow10Tab) :
    Calls Tryz.prog 114 #[.slice (some ⟨g, 0, none⟩) m m, .pointer (some ⟨bw, 0, none⟩)] w fun e w' => e = .returned (.tuple #[]) ∧
      ∃ aw' G', Blk w' bw [.slice aw' (k0 + m) G'] 132 ∧ w'.ownsRow (bw + 1) 9 1 (.slice aw' (k0 + m) G') (k0 + m) ((ws ++ ns.map itB).map Value.string) ∧ Below bw w w' := by
  obtain ⟨i0, hi, hz0, hz1, hz2⟩ := info_parts infoS
  replace hm := hide hm
  go_enter Tryz.func114, Tryz.ntmps114
  go_wp2_with fail
  go_loopw [7] (fun i wr => ∃ (k : Nat) (ao : Option Addr) (H kk : Nat), k ≤ m ∧ i = .int .i64 k ∧ kk = k0 + k ∧ Blk wr g (ns.map (Value.int .i64)) 3 ∧ Blk wr bw [.slice ao kk H] 132 ∧ wr.ownsRow (bw + 1) 9 1 (.slice ao kk H) kk ((ws ++ (ns.take k).map itB).map Value.string) ∧ Below bw w wr) (fun i _ => m - (intOf i).toNat)
  case atStart => exact ⟨0, aw, G, k0, Nat.zero_le _, rfl, rfl, BN, BW, by simpa using own, Below.refl _ _⟩
  case round =>
    clear BN BW own
    obtain ⟨k, ao, H, kk, hk, rfl, hkk, BN, BW, own, bel⟩ := hrel
    by_cases hlt : k < m
    · have hkl : k < ns.length := by rw [← hm.out]; exact hlt
      obtain ⟨x, hx⟩ : ∃ x, ns[k]? = some x := ⟨_, List.getElem?_eq_getElem hkl⟩
      obtain ⟨x0, x1⟩ := hb x (List.mem_of_getElem? hx)
      have d0 : wr.cell? ⟨g, k, none⟩ = some (.int .i64 x) := (BN.cell k).trans (by rw [List.getElem?_map, hx]; rfl)
      have e0 : wr.cell? ⟨bw, 0, none⟩ = some (.slice ao kk H) := BW.cell 0
      have fz : wr.frozen? ⟨bw, 0, none⟩ = false := BW.free 0
      have lw := BW.lt
      have lg := BN.lt
      have hT : (ws ++ (ns.take k).map itB).map Value.string ++ [.string (itB x)] = (ws ++ (ns.take (k + 1)).map itB).map Value.string := by
        rw [List.take_add_one, hx]
        simp
      have cI : ∀ W, Below wr.heap.size wr W → Calls Tryz.prog 115 #[.int .i64 x] W fun e w' => ∃ v', e = .returned v' ∧ v' = .string (itB x) ∧ Below wr.heap.size wr w' ∧ w'.cell? ⟨bw, 0, none⟩ = some (.slice ao kk H) := by
        intro W hW
        refine (Tryz.strconv_Itoa x x0 x1 _ (htab W (bel.trans (hW.mono (Nat.le_of_lt lw))))).mono ?_
        rintro e w' ⟨rfl, q, os, hw'⟩
        have b3 : Below W.heap.size W w' := by rw [hw']; exact Lib.below_grow _ _ (Nat.le_refl _) _ _
        have bb := hW.trans (b3.mono hW.size)
        exact ⟨_, rfl, rfl, bb, (BW.keep bb lw).cell 0⟩
      have ownW : ∀ W, Below wr.heap.size wr W → W.ownsRow (bw + 1) 9 1 (.slice ao kk H) kk ((ws ++ (ns.take k).map itB).map Value.string) := fun W h => ownCall own h
      have hkk' : kk ≤ 200 := by omega
      generalize itB x = X at *
      have hone : ∀ u ∈ ([.string X] : List Value), u.oneCell' = true := by
        intro u hu
        simp only [List.mem_cons, List.not_mem_nil, or_false] at hu
        subst hu
        rfl
      generalize (ws ++ (ns.take k).map itB).map Value.string = XS at *
      replace hT := hide hT
      replace hx := hide hx
      replace hkk := hide hkk
      replace ownW := hide ownW
      have lww : bw + 1 ≤ wr.heap.size := lw
      clear hkl
      go_upto_region 3 with fail
      go_region_law
        (first
          | (refine step_go_call (by rfl) 115 (.tmp 12) 3 (by rfl) (.int .i64 x) (by rfl) (by go_simp) (cI _ (by exact belowDrew (Below.refl _ _))) (by rintro e w' ⟨v', rfl, _⟩; exact ⟨_, rfl⟩) ?_; rintro v5 w5 ⟨v5', ev5, hv5, bb5, z0⟩; obtain rfl := Ending.returned.inj ev5; subst hv5; have o5 := (ownW.out w5 bb5).alloc (.cells #[.string X] 9); have b5 := newB bb5 (.cells #[.string X] 9); have l5 : bw < w5.heap.size := Nat.lt_of_lt_of_le lw bb5.size)
          | (refine step_append_lies _ (by rfl) (.tmp 11) (.tmp 14) 132 (by rfl) (bw + 1) 9 i0 (.string ⟨#[]⟩) 1 16 Tryz.underlying132 hi hz0 hz1 hz2 rfl (by decide) (.slice ao kk H) kk _ (by rfl) o5 ⟨w5.heap.size, 0, none⟩ 1 1 [.string X] (by rfl) (by rfl) (World.news_of_block (cs := #[.string X]) (t := 9) (fr := (0, 0)) (heap_alloc_new w5 _)) hone (by decide) (by unfold maxLen; omega) (by omega) (by have := b5.size; omega) (w5.heap.size + 1) (by simp) ?_; intro g6 c6 w6 own6 grow6 at6 lt6; have B6 := (BW.keep b5 lw).grown grow6 (fun k e => by have := (o5.lt k e).1; omega); have N6 := (BN.keep b5 lg).grown grow6 (fun k e h => ownNe o5 (BN.keep b5 lg) (by decide) (by rw [e, h])); have bb6 := belowGrown (b5.mono (Nat.le_of_lt lw)) o5 grow6 (Nat.le_succ _) (by have := b5.size; omega); have u1 : w6.cell? ⟨bw, 0, none⟩ = some (.slice ao kk H) := B6.cell 0; have fz6 : w6.frozen? ⟨bw, 0, none⟩ = false := B6.free 0))
      all_goals (
        go_wp2_with fail
        go_roundw
        case rel =>
          have o7 := ownsRow_setCell_other own6 (a := ⟨bw, 0, none⟩) (fun e => by have : g6 = bw := Option.some.inj e; have := (own6.lt g6 rfl).1; omega) (.slice (some ⟨g6, 0, none⟩) (kk + 1) c6)
          rw [hT.out] at o7
          exact ⟨k + 1, some ⟨g6, 0, none⟩, c6, kk + 1, by omega, by go_num, by rw [hkk.out]; omega, N6.other 0 _ (by omega), B6.set 0 _, o7, (bel.trans bb6).setCell (p := ⟨bw, 0, none⟩) (Nat.le_refl _) _⟩
        case measure => simp [intOf]; omega)
    · obtain rfl : m = k := by omega
      subst hkk
      rw [List.take_of_length_le (by rw [← hm.out]; exact Nat.le_refl _)] at own
      go_wp2_with fail
      go_end0
      exact ⟨rfl, _, _, BW, own, bel⟩

/-- 'say' of numbers just laid. -/
theorem say_laid (ns : List Int) (bw k0 g : Nat) (aw : Option Addr) (G : Nat) (ws : List ByteArray) (V : World) (few : ns.length ≤ 100) (hk0 : k0 ≤ 100)
    (BW : Blk V bw [.slice aw k0 G] 132) (own : V.ownsRow (bw + 1) 9 1 (.slice aw k0 G) k0 (ws.map Value.string)) (hg : g = V.heap.size)
    (hb : ∀ n ∈ ns, -9223372036854775808 ≤ n ∧ n ≤ 9223372036854775807) (htab : ∀ W, Below bw V W → Lib.TabIs Tryz.prog W "internal/strconv.uint64pow10" .u64 Lib.pow10Tab) :
    Calls Tryz.prog 114 #[.slice (some ⟨g, 0, none⟩) ns.length ns.length, .pointer (some ⟨bw, 0, none⟩)] (V.alloc (.cells (ns.map (Value.int .i64)).toArray 3)) fun e w' => e = .returned (.tuple #[]) ∧
      ∃ aw' G', Blk w' bw [.slice aw' (k0 + ns.length) G'] 132 ∧ w'.ownsRow (bw + 1) 9 1 (.slice aw' (k0 + ns.length) G') (k0 + ns.length) ((ws ++ ns.map itB).map Value.string) ∧ Below bw V w' := by
  subst hg
  have lw := BW.lt
  have b1 : Below bw V (V.alloc (.cells (ns.map (Value.int .i64)).toArray 3)) := (Below.refl bw V).alloc (Nat.le_of_lt lw) _
  refine (say_any ns V.heap.size ns.length bw k0 aw G ws _ rfl few hk0 lw (Blk.laid V _ _ _ rfl) (BW.alc _) (own.alloc _) hb (fun W h => htab W (b1.trans h))).mono ?_
  rintro e w' ⟨rfl, aw', G', h1, h2, h3⟩
  exact ⟨rfl, aw', G', h1, h2, b1.trans h3⟩

end Go.Proofs.YtjjfgmcgonkicaaGreatDoor

/-
  The reference's RecRead: the record of a text, or what is wrong with it.
-/
namespace Go.Proofs.YtjjfgmcgonkicaaGreatDoor
open Go.RowKit

def ofL (l : List UInt8) : ByteArray := ⟨l.toArray⟩

theorem bytes_ofL (l : List UInt8) : bytes (ofL l) = l := by simp [bytes, ofL]

theorem size_bytes (b : ByteArray) : (bytes b).length = b.size := Array.length_toList

/-- What a loop over what is left has still to do. -/
def leftOf : Value → Value → Nat
  | .string b, .bool true => b.size + 1
  | _, _ => 0

/-- strings.Cut at a blank. -/
theorem cut_any (s : ByteArray) (w : World) (hg : Gl w) (hs : s.size ≤ 100000) :
    Calls Tryz.prog 124 #[.string s, .string ⟨#[32]⟩] w fun e w' => ∃ (t r : ByteArray) (m : Bool), e = .returned (.tuple #[.string t, .string r, .bool m]) ∧ sp (bytes s) = bytes t :: (if m = true then sp (bytes r) else []) ∧ t.size ≤ s.size ∧ r.size ≤ s.size ∧ (m = true → r.size < s.size) ∧ Below w.heap.size w w' := by
  obtain ⟨mx, hmx⟩ := hg.max
  refine (Tryz.strings_Cut s ⟨#[32]⟩ mx w (by omega) hmx).mono ?_
  rintro e w' ⟨rfl, q, rfl⟩
  have h1 := cut_sp (bytes s)
  obtain ⟨h2, h3, h4⟩ := cut_less (bytes s)
  rw [size_bytes] at h2 h3 h4
  refine ⟨ofL (Lib.cut (bytes s) [32]).1, ofL (Lib.cut (bytes s) [32]).2.1, (Lib.cut (bytes s) [32]).2.2, rfl, ?_, ?_, ?_, ?_, belowDrewN (Below.refl _ _) q⟩
  · rw [bytes_ofL, bytes_ofL]
    exact h1
  · rw [← size_bytes, bytes_ofL]; exact h2
  · rw [← size_bytes, bytes_ofL]; exact h3
  · intro h
    rw [← size_bytes, bytes_ofL]; exact h4 h

def outRd : Option Rc → Rc
  | none => rec0
  | some r => if recE r = 0 then r else rec0

def outE : Option Rc → Int
  | none => 1
  | some r => recE r

theorem parseR_out (s : ByteArray) (hs : s.size ≤ 60000) : parseR s = outRd (readR (sp (bytes s))) := by
  unfold parseR
  rw [if_neg (by omega), textR_sp]
  cases readR (sp (bytes s)) <;> rfl

theorem parseE_out (s : ByteArray) (hs : s.size ≤ 60000) : parseE s = outE (readR (sp (bytes s))) := by
  unfold parseE
  rw [if_neg (by omega), textR_sp]
  cases readR (sp (bytes s)) <;> rfl

/-- What the operations of the batch's round yield. -/
def valsR (R g o : Nat) (s7 v0 v1 : Value) (q : Nat) (e0 e1 e2 : Int) : Nat → Value → Prop
  | 0, v => v = .pointer (some ⟨R, 3, none⟩)
  | 1, v => v = v0
  | 2, v => v = s7
  | 3, v => v = .pointer (some ⟨g, o, none⟩)
  | 4, v => v = .int .i64 e0
  | 5, v => v = s7
  | 6, v => v = .pointer (some ⟨g, o + 1, none⟩)
  | 7, v => v = .int .i64 e1
  | 8, v => v = s7
  | 9, v => v = .pointer (some ⟨g, o + 2, none⟩)
  | 10, v => v = .int .i64 e2
  | 11, v => v = .agg #[.int .i64 e0, .int .i64 e1, .int .i64 e2]
  | 12, v => v = .slice (some ⟨q, 0, none⟩) 1 1
  | 13, v => v = v1
  | 14, v => v = .pointer (some ⟨R, 3, none⟩)
  | _, _ => True

def stR (Wd Wa w1 wF : World) (d : Nat → Bool) : World := if d 15 then wF else if d 13 then w1 else if d 12 then Wa else Wd

theorem stR_same (Wd Wa w1 wF : World) (d : Nat → Bool) (i : Nat) (h1 : i ≠ 12) (h2 : i ≠ 13) (h3 : i ≠ 15) : stR Wd Wa w1 wF (fun k => k == i || d k) = stR Wd Wa w1 wF d := by
  unfold stR
  simp [Ne.symm h1, Ne.symm h2, Ne.symm h3]

def lenOf : Value → Nat
  | .slice _ n _ => n
  | _ => 0

set_option maxHeartbeats 8000000 in
set_option maxRecDepth 100000 in
theorem rread_is (s : ByteArray) (w : World) (hg : Gl w) (hs : s.size ≤ 60000) :
    Calls Tryz.prog 93 #[.string s] w fun e w' => ∃ a' G, e = .returned (.tuple #[.agg #[.int .i64 (parseR s).k, .int .i64 (parseR s).s, .int .i64 (parseR s).n, .slice a' (parseR s).e.length G], .int .i64 (parseE s)]) ∧ w'.ownsRow w.heap.size 84 3 (.slice a' (parseR s).e.length G) (parseR s).e.length ((parseR s).e.flatMap ec) ∧ Below w.heap.size w w' := by
  have BX := Blk.laid w [.int .i64 0, .int .i64 0, .int .i64 0, .slice none 0 0] 93 _ rfl
  have belX : Below w.heap.size w (w.alloc (.cells #[.int .i64 0, .int .i64 0, .int .i64 0, .slice none 0 0] 93)) := (Below.refl _ _).alloc (Nat.le_refl _) _
  have g1 := hg.alloc (.cells #[.int .i64 0, .int .i64 0, .int .i64 0, .slice none 0 0] 93)
  have hR : parseR s = outRd (readR (sp (bytes s))) := parseR_out s hs
  have hE : parseE s = outE (readR (sp (bytes s))) := parseE_out s hs
  generalize parseR s = PR at *
  generalize parseE s = PE at *
  obtain ⟨i0, hi, hz0, hz1, hz2⟩ := info_parts infoI
  go_enter Tryz.func93, Tryz.ntmps93
  go_wp2_with fail
  generalize w.alloc _ = w1 at *
  go_at_call 124
  refine (cut_any s w1 g1 (by omega)).mono ?_
  rintro e w2 ⟨wd, rs, mo, rfl, hsp, k1, k2, k3, b2⟩
  have hws : wd.size ≤ 60000 := by omega
  have hrs : rs.size ≤ 60000 := by omega
  have BX2 := BX.keep b2 BX.lt
  have bel2 := belowCall belX b2
  have gw := hg.call bel2
  rw [hsp] at hR hE
  clear hsp k1 k2 k3 b2 BX belX g1
  obtain ⟨WS, hWS⟩ : ∃ WS, WS = if mo = true then sp (bytes rs) else [] := ⟨_, rfl⟩
  rw [← hWS] at hR hE
  replace hWS := hide hWS
  have hbad : readNums WS = none → PR = rec0 ∧ PE = 1 := by
    intro h
    rw [hR, hE]
    simp only [readR, h, Option.bind_none]
    exact ⟨rfl, rfl⟩
  replace hR := hide hR
  replace hE := hide hE
  go_upto_block 0 with fail
  go_cut [5, 6, 7, 8, 9, 10] from 19 to 43 (fun s5 s6 s7 s8 s9 s10 wx => ∃ (vs : List Int) (ao : Option Addr) (G k : Nat), s7 = .slice ao k G ∧ Hid (k = vs.length) ∧ k ≤ 60001 ∧ Hid (readNums WS = some vs) ∧ wx.ownsRow w2.heap.size 3 1 (.slice ao k G) k (vs.map (Value.int .i64)) ∧ Below w2.heap.size w2 wx)
  case first =>
    go_wp2_with fail
    go_loopw [5, 6, 7] (fun s5 s6 s7 wr => ∃ (r : ByteArray) (m : Bool) (dn : List (List UInt8)) (vs : List Int) (ao : Option Addr) (G k : Nat), s5 = .string r ∧ s6 = .bool m ∧ s7 = .slice ao k G ∧ Hid (WS = dn ++ (if m = true then sp (bytes r) else [])) ∧ Hid (readNums dn = some vs) ∧ Hid (k = vs.length) ∧ k + leftOf (.string r) (.bool m) ≤ 60001 ∧ r.size ≤ 60000 ∧ wr.ownsRow w2.heap.size 3 1 (.slice ao k G) k (vs.map (Value.int .i64)) ∧ Below w2.heap.size w2 wr) (fun s5 s6 _ _ => leftOf s5 s6)
    case atStart => exact ⟨rs, mo, [], [], none, 0, 0, rfl, rfl, rfl, hWS, hide rfl, hide rfl, by cases mo <;> simp [leftOf] <;> omega, hrs, World.ownsRow_nil _ _ _ _, Below.refl _ _⟩
    case round =>
      obtain ⟨r, m, dn, vs, ao, G, k, rfl, rfl, rfl, hdn, hvs, hk, hlf, hr, own, bel⟩ := hrel
      cases m with
      | false =>
        go_wp2_with fail
        go_meet
        case rel => exact ⟨vs, ao, G, k, rfl, hk, by omega, by
          have := hdn.out
          rw [if_neg (by decide), List.append_nil] at this
          rw [this]
          exact hvs, own, bel⟩
      | true =>
        have hdn2 : Hid (WS = dn ++ sp (bytes r)) := hdn
        clear hdn
        have gr := gw.call bel
        have hlf2 : k + (r.size + 1) ≤ 60001 := hlf
        go_wp2_with fail
        go_at_call 124
        refine (cut_any r wr gr (by omega)).mono ?_
        rintro e w4 ⟨t, r', m', rfl, hsp, k1, k2, k3, b4⟩
        have bel4 := belowCall bel b4
        have own4 := ownCall own b4
        have g4 := gw.call bel4
        have hbadt : readNum (bytes t) = none → PR = rec0 ∧ PE = 1 := fun h => hbad (by
          rw [hdn2.out, hsp]
          exact readNums_bad _ _ _ h)
        have hgood : ∀ v, readNum (bytes t) = some v → Hid (readNums (dn ++ [bytes t]) = some (vs ++ [v])) := by
          intro v h
          rw [readNums_snoc _ _ _ hvs.out, h]
          exact hide rfl
        have hdn' : Hid (WS = (dn ++ [bytes t]) ++ (if m' = true then sp (bytes r') else [])) := by
          have := hdn2.out
          rw [hsp] at this
          rw [this]
          simp [Hid]
        have hlf3 : k + 1 + leftOf (.string r') (.bool m') ≤ 60001 := by
          cases m'
          · simp [leftOf]; omega
          · have := k3 rfl
            simp [leftOf]; omega
        have hmea : leftOf (.string r') (.bool m') < leftOf (.string r) (.bool true) := by
          cases m'
          · simp [leftOf]
          · have := k3 rfl
            simp [leftOf]; omega
        clear hsp k3 hlf hdn2 hbad
        cases hat : Lib.atoiAll t.data.toList with
        | «syntax» =>
          obtain ⟨te, pe, he⟩ := g4.syn
          have hRn := hide (hbadt (by unfold readNum bytes; rw [hat]))
          rw [← Lib.parseIntB_64] at hat
          replace hat := hide hat
          clear hbadt hgood
          go_wp2_with fail
          go_at_call 125
          refine (Tryz.strconv_ParseInt_10_at64_syntax t (by omega) hat.out _ _ he (.inr ⟨_, _, rfl⟩)).mono ?_
          rintro e w5 ⟨N, rfl, -, -, b5⟩
          have bel5 := belowCall bel4 b5
          have BB := BX2.keep (bel5) BX2.lt
          have belB : Below w.heap.size w w5 := bel2.trans ((bel5).mono bel2.size)
          obtain ⟨rfl, rfl⟩ := hRn.out
          have r0 := BB.cell 0
          have r1 := BB.cell 1
          have r2 := BB.cell 2
          have r3 := BB.cell 3
          have f0 := BB.free 0
          have f1 := BB.free 1
          have f2 := BB.free 2
          have f3 := BB.free 3
          have lR := BB.lt
          go_wp2_with fail
          have B9 := put4r BB (.int .i64 0) (.int .i64 0) (.int .i64 0) (.slice none 0 0)
          have bel9 := below4r belB (Nat.le_refl _) (.int .i64 0) (.int .i64 0) (.int .i64 0) (.slice none 0 0)
          have i0 := B9.cell 0
          have i1 := B9.cell 1
          have i2 := B9.cell 2
          have i3 := B9.cell 3
          exact bodyPost_ret (v := .tuple #[.agg #[.int .i64 0, .int .i64 0, .int .i64 0, .slice none 0 0], .int .i64 1]) (by simp [results, Tryz.results93, go_sem, i0, i1, i2, i3]) rfl ⟨none, 0, rfl, World.ownsRow_nil _ _ _ _, bel9⟩
        | range =>
          obtain ⟨te, pe, he⟩ := g4.rng
          have hRn := hide (hbadt (by unfold readNum bytes; rw [hat]))
          rw [← Lib.parseIntB_64] at hat
          replace hat := hide hat
          clear hbadt hgood
          go_wp2_with fail
          go_at_call 125
          refine (Tryz.strconv_ParseInt_10_at64_range t (by omega) hat.out _ _ he (.inr ⟨_, _, rfl⟩)).mono ?_
          rintro e w5 ⟨N, rfl, -, -, b5⟩
          have bel5 := belowCall bel4 b5
          have BB := BX2.keep (bel5) BX2.lt
          have belB : Below w.heap.size w w5 := bel2.trans ((bel5).mono bel2.size)
          obtain ⟨rfl, rfl⟩ := hRn.out
          have r0 := BB.cell 0
          have r1 := BB.cell 1
          have r2 := BB.cell 2
          have r3 := BB.cell 3
          have f0 := BB.free 0
          have f1 := BB.free 1
          have f2 := BB.free 2
          have f3 := BB.free 3
          have lR := BB.lt
          go_wp2_with fail
          have B9 := put4r BB (.int .i64 0) (.int .i64 0) (.int .i64 0) (.slice none 0 0)
          have bel9 := below4r belB (Nat.le_refl _) (.int .i64 0) (.int .i64 0) (.int .i64 0) (.slice none 0 0)
          have i0 := B9.cell 0
          have i1 := B9.cell 1
          have i2 := B9.cell 2
          have i3 := B9.cell 3
          exact bodyPost_ret (v := .tuple #[.agg #[.int .i64 0, .int .i64 0, .int .i64 0, .slice none 0 0], .int .i64 1]) (by simp [results, Tryz.results93, go_sem, i0, i1, i2, i3]) rfl ⟨none, 0, rfl, World.ownsRow_nil _ _ _ _, bel9⟩
        | ok v =>
          obtain ⟨v0, v1⟩ := Lib.atoiAll_bounds hat
          have hrd : readNum (bytes t) = if Lib.itoa v = bytes t then some v else none := by unfold readNum bytes; rw [hat]
          rw [← Lib.parseIntB_64] at hat
          replace hat := hide hat
          go_wp2_with fail
          go_at_call 125
          refine (Tryz.strconv_ParseInt_10_at64_ok t (by omega) v hat.out _).mono ?_
          rintro e w5 ⟨rfl, hw5⟩
          have b5 : Below w4.heap.size w4 w5 := by
            rcases hw5 with rfl | ⟨t, rfl⟩
            · exact Below.refl _ _
            · exact Lib.bytesWorld_below _ _ _
          have bel5 := belowCall bel4 b5
          have own5 := ownCall own4 b5
          have g5 := g4.call b5
          clear hw5 b5
          go_wp2_with fail
          go_at_call 126
          refine (Tryz.strconv_FormatInt_10 v v0 v1 _ g5.tab).mono ?_
          rintro e w6 ⟨rfl, q, os, hw6⟩
          have b6 : Below w5.heap.size w5 w6 := by rw [hw6]; exact Lib.below_grow _ _ (Nat.le_refl _) _ _
          have bel6 := belowCall bel5 b6
          have own6 := ownCall own5 b6
          clear hw6 b6 bel5 own5 g5 own4 bel4 g4
          by_cases heq : (⟨(Lib.itoa v).toArray⟩ : ByteArray) = t
          · have hgv := hgood v (by rw [hrd, if_pos (bytes_eq.1 heq)])
            clear hrd hbadt hgood
            go_wp2_with (at_builtin; refine wpList_append_new w6 rfl (.tmp 40) (.tmp 42) 28 rfl w2.heap.size 3 i0 _ 1 8 Tryz.underlying28 hi hz0 hz1 hz2 rfl (by decide) (.slice ao k G) k _ (by rfl) own6 1 #[.int .i64 v] 3 (by rfl) (by rfl) (by simp [Value.oneCell']) (by decide) (by unfold maxLen; omega) (by omega) bel6.size ?_)
            intro v7 w7 own7 grow7 went7
            have bel7 := belowGrown bel6 own6 grow7 (Nat.le_refl _) bel6.size
            have own8 : w7.ownsRow w2.heap.size 3 1 v7 (k + 1) ((vs ++ [v]).map (Value.int .i64)) := by rw [List.map_append]; exact own7
            obtain ⟨g7, G7, rfl⟩ : ∃ g7 G7, v7 = .slice (some ⟨g7, 0, none⟩) (k + 1) G7 := by
              rcases own8.2 with ⟨_, h⟩ | ⟨g, cap, cur, h, _⟩
              · omega
              · exact ⟨_, _, h⟩
            go_wp2_with fail
            go_roundw
            case rel => exact ⟨r', m', dn ++ [bytes t], vs ++ [v], some ⟨g7, 0, none⟩, G7, k + 1, rfl, rfl, rfl, hdn', hgv, by rw [hk.out, List.length_append]; exact hide rfl, hlf3, by omega, own8, bel7⟩
            case measure => exact hmea
          · have hRn := hide (hbadt (by rw [hrd, if_neg (fun h => heq (bytes_eq.2 h))]))
            have hne : (Lib.itoa v == t.toList) = false := by
              rw [beq_eq_false_iff_ne]
              intro h
              exact heq (bytes_eq.2 (by rw [h]; exact toList_bytes t))
            clear hrd hbadt hgood
            have BB := BX2.keep (bel6) BX2.lt
            have belB : Below w.heap.size w w6 := bel2.trans ((bel6).mono bel2.size)
            obtain ⟨rfl, rfl⟩ := hRn.out
            have r0 := BB.cell 0
            have r1 := BB.cell 1
            have r2 := BB.cell 2
            have r3 := BB.cell 3
            have f0 := BB.free 0
            have f1 := BB.free 1
            have f2 := BB.free 2
            have f3 := BB.free 3
            have lR := BB.lt
            go_wp2_with fail
            have B9 := put4r BB (.int .i64 0) (.int .i64 0) (.int .i64 0) (.slice none 0 0)
            have bel9 := below4r belB (Nat.le_refl _) (.int .i64 0) (.int .i64 0) (.int .i64 0) (.slice none 0 0)
            have i0 := B9.cell 0
            have i1 := B9.cell 1
            have i2 := B9.cell 2
            have i3 := B9.cell 3
            exact bodyPost_ret (v := .tuple #[.agg #[.int .i64 0, .int .i64 0, .int .i64 0, .slice none 0 0], .int .i64 1]) (by simp [results, Tryz.results93, go_sem, i0, i1, i2, i3]) rfl ⟨none, 0, rfl, World.ownsRow_nil _ _ _ _, bel9⟩
  case rest =>
    obtain ⟨vs, ao, G, k, rfl, hk, hk6, hvs, own, belC⟩ := hcut
    clear hWS hbad
    have hTR : readR (bytes wd :: WS) = (if bytes wd = wBatch ∧ vs.length % 3 = 0 then some ⟨1, 0, 0, chunkL vs⟩ else if bytes wd = wSeal ∧ vs.length = 2 then some ⟨2, vs.getD 0 0, vs.getD 1 0, []⟩ else if bytes wd = wMerge ∧ vs.length = 2 then some ⟨3, vs.getD 0 0, vs.getD 1 0, []⟩ else if bytes wd = wDrop ∧ vs.length = 1 then some ⟨4, 0, vs.getD 0 0, []⟩ else none) := by
      simp only [readR, hvs.out, Option.bind_some]
    rw [← hk.out] at hTR
    have BR := Blk.laid wc [.int .i64 0, .int .i64 0, .int .i64 0, .slice none 0 0] 93 _ rfl
    have bel3 := newB belC (.cells #[.int .i64 0, .int .i64 0, .int .i64 0, .slice none 0 0] 93)
    have own3 := own.alloc (.cells #[.int .i64 0, .int .i64 0, .int .i64 0, .slice none 0 0] 93)
    have lc : w2.heap.size ≤ wc.heap.size := belC.size
    go_upto_block 2 with fail
    clear own belC
    generalize wc.heap.size = R at *
    generalize wc.alloc _ = w3 at *
    have BB := BX2.keep bel3 BX2.lt
    have belB : Below w.heap.size w w3 := bel2.trans (bel3.mono bel2.size)
    have lX := BX2.lt
    go_cut [7] from 44 to 116 (fun s7 wx => ∃ (r : Rc) (a' : Option Addr) (G' ln : Nat), Hid (readR (bytes wd :: WS) = some r) ∧ ln = r.e.length ∧ Blk wx R [.int .i64 r.k, .int .i64 r.s, .int .i64 r.n, .slice a' ln G'] 93 ∧ wx.ownsRow w.heap.size 84 3 (.slice a' ln G') ln (r.e.flatMap ec) ∧ Blk wx w.heap.size [.int .i64 0, .int .i64 0, .int .i64 0, .slice none 0 0] 93 ∧ Below w.heap.size w wx)
    case first =>
      by_cases kB : bytes wd = wBatch
      · by_cases m3 : k % 3 = 0
        · rw [if_pos ⟨kB, m3⟩] at hTR
          have bB : (wd.toList == [98, 97, 116, 99, 104]) = true := by rw [toList_bytes, kB]; rfl
          have bS : (wd.toList == [115, 101, 97, 108]) = false := by rw [toList_bytes, kB]; rfl
          have bM : (wd.toList == [109, 101, 114, 103, 101]) = false := by rw [toList_bytes, kB]; rfl
          have bD : (wd.toList == [100, 114, 111, 112]) = false := by rw [toList_bytes, kB]; rfl
          have t3 : (k : Int).tmod 3 = 0 := by rw [Int.tmod_eq_emod_of_nonneg (by omega)]; omega
          obtain ⟨mm, hmm⟩ : ∃ mm, k = mm * 3 := ⟨k / 3, by omega⟩
          have hch := chunk_range mm vs (by rw [← hk.out]; exact hmm)
          replace hch := hide hch
          replace hTR := hide hTR
          clear hR hE
          have r0 := BR.cell 0
          have f0 := BR.free 0
          have lR := BR.lt
          have le0 : w.heap.size ≤ R := Nat.le_trans bel2.size lc
          have BR1 := BR.set 0 (.int .i64 1)
          have BB1 := BB.other (g' := R) 0 (.int .i64 1) (by omega)
          have own31 := ownsRow_setCell_other own3 (a := ⟨R, 0, none⟩) (ownNe own3 BR (by decide)) (.int .i64 1)
          have bel31 := belB.setCell (p := ⟨R, 0, none⟩) le0 (.int .i64 1)
          go_wp2_with fail
          clear BR BB own3 belB bel3 r0 f0 lR t3 m3 bB bS bM bD kB
          generalize w3.setCell _ _ = w4 at *
          obtain ⟨j0, hj0⟩ : ∃ i, Tryz.prog.info? 84 = some i ∧ i.zero = some (.agg #[.int .i64 0, .int .i64 0, .int .i64 0]) ∧ i.size = 3 ∧ i.bytes = 24 := by
            obtain ⟨i, h1, h2, h3, h4⟩ := info_parts infoE
            exact ⟨i, h1, h2, h3, h4⟩
          obtain ⟨hj1, hj2, hj3, hj4⟩ := hj0
          obtain ⟨g, hg⟩ : ∃ g, 0 < k → ao = some ⟨g, 0, none⟩ := by
            rcases own31.2 with ⟨_, h⟩ | ⟨g, cap, cur, h, _⟩
            · exact ⟨0, fun h' => by omega⟩
            · simp only [Value.slice.injEq, true_and] at h
              exact ⟨g, fun _ => h.1⟩
          have hGk : k ≤ G ∧ G ≤ 9223372036854775807 := by
            have h := ints_own own31
            have h1 := h.le
            have h2 := h.max
            rw [List.length_map, ← hk.out] at h1
            exact ⟨h1, h2⟩
          replace hmm := hide hmm
          go_loopw [7] (fun s7 wr => ∃ (j kj cj : Nat) (aj : Option Addr) (ae : Option Addr) (Ge : Nat), kj + j * 3 = k ∧ s7 = .slice aj kj cj ∧ (0 < kj → aj = some ⟨g, j * 3, none⟩) ∧ kj ≤ cj ∧ cj ≤ 9223372036854775807 ∧
              Blk wr R [.int .i64 1, .int .i64 0, .int .i64 0, .slice ae j Ge] 93 ∧ wr.ownsRow w.heap.size 84 3 (.slice ae j Ge) j (((List.range j).map (ent vs)).flatMap ec) ∧ wr.ownsRow w2.heap.size 3 1 (.slice ao k G) k (vs.map (Value.int .i64)) ∧
              Blk wr w.heap.size [.int .i64 0, .int .i64 0, .int .i64 0, .slice none 0 0] 93 ∧ Below w.heap.size w wr) (fun s7 _ => lenOf s7)
          case atStart => exact ⟨0, k, G, ao, none, 0, by omega, rfl, by rw [Nat.zero_mul]; exact hg, hGk.1, hGk.2, BR1, World.ownsRow_nil _ _ _ _, own31, BB1, bel31⟩
          case round =>
            clear BR1 BB1 own31 bel31
            obtain ⟨j, kj, cj, aj, ae, Ge, hkj, rfl, haj, hkc, hcm, BR, oE, oI, BB, bel⟩ := hrel
            by_cases hp : 0 < kj
            · obtain rfl := haj hp
              obtain rfl := hg (by omega)
              have h3k : 3 ≤ kj := by have := hmm.out; omega
              obtain ⟨b9, o9, e9, lg, hcell⟩ := (ints_own oI).row.at (by intro h; have := congrArg List.length h; rw [List.length_map, ← hk.out] at this; simp at this; omega)
              simp only [Option.some.injEq, Addr.mk.injEq, and_true] at e9
              obtain ⟨rfl, rfl⟩ := e9
              have hc : ∀ q, q < k → wr.cell? ⟨g, q, none⟩ = some (.int .i64 (vs.getD q 0)) := by
                intro q hq
                have hq' : q < vs.length := by rw [← hk.out]; exact hq
                have := hcell q (.int .i64 (vs.getD q 0)) (by rw [List.getElem?_map, List.getElem?_eq_getElem hq']; simp [List.getD, hq'])
                rw [Nat.zero_add] at this
                exact this
              have c0 := hc (j * 3) (by omega)
              have c1 := hc (j * 3 + 1) (by omega)
              have c2 := hc (j * 3 + 2) (by omega)
              have hent : ent vs j = (vs.getD (j * 3) 0, vs.getD (j * 3 + 1) 0, vs.getD (j * 3 + 2) 0) := rfl
              generalize vs.getD (j * 3) 0 = e0 at *
              generalize vs.getD (j * 3 + 1) 0 = e1 at *
              generalize vs.getD (j * 3 + 2) 0 = e2 at *
              have hT : ((List.range j).map (ent vs)).flatMap ec ++ [.int .i64 e0, .int .i64 e1, .int .i64 e2] = ((List.range (j + 1)).map (ent vs)).flatMap ec := by
                rw [List.range_succ, List.map_append, List.flatMap_append]
                simp [hent, ec]
              have lR := BR.lt
              have lZ := BB.lt
              have bD : Below wr.heap.size wr wr.drew := belowDrew (Below.refl _ _)
              have bA := newB bD (.cells #[.int .i64 e0, .int .i64 e1, .int .i64 e2] 84)
              have oA := (ownCall oE bD).alloc (.cells #[.int .i64 e0, .int .i64 e1, .int .i64 e2] 84)
              obtain ⟨g7, G7, w1', hrun, own1, grow1, -, lt1⟩ := run_append_lies (P := Tryz.prog) (wr.drew.alloc (.cells #[.int .i64 e0, .int .i64 e1, .int .i64 e2] 84)) 31 31 w.heap.size 84 j0 _ 3 24 Tryz.underlying31 hj1 hj2 hj3 hj4 rfl (by decide) (.slice ae j Ge) j _ oA ⟨wr.heap.size, 0, none⟩ 1 1 [.int .i64 e0, .int .i64 e1, .int .i64 e2] rfl (World.news_of_block (cs := #[.int .i64 e0, .int .i64 e1, .int .i64 e2]) (t := 84) (fr := (0, 0)) (heap_alloc_new wr.drew _)) (by simp [Value.oneCell']) (by decide) (by unfold maxLen; omega) (by omega) (Nat.le_trans bel.size bA.size) _ rfl
              have BR1 := (BR.keep bA lR).grown grow1 (fun q e h => ownNe oA (BR.keep bA lR) (by decide) (by rw [e, h]))
              have BB1 := (BB.keep bA lZ).grown grow1 (fun q e h => ownNe oA (BB.keep bA lZ) (by decide) (by rw [e, h]))
              have oI1 := ownApart (ownCall oI bA) grow1 (apartTy (ownCall oI bA) oA (by decide))
              have b1 := belowGrown (belowCall bel bA) oA grow1 (Nat.le_refl _) (Nat.le_trans bel.size bA.size)
              have BR2 := BR1.set 3 (.slice (some ⟨g7, 0, none⟩) (j + 1) G7)
              have BB2 := BB1.other (g' := R) 3 (.slice (some ⟨g7, 0, none⟩) (j + 1) G7) (by omega)
              have oI2 := ownsRow_setCell_other oI1 (a := ⟨R, 3, none⟩) (ownNe oI1 BR1 (by decide)) (.slice (some ⟨g7, 0, none⟩) (j + 1) G7)
              have oE2 := ownsRow_setCell_other own1 (a := ⟨R, 3, none⟩) (ownNe own1 BR1 (by decide)) (.slice (some ⟨g7, 0, none⟩) (j + 1) G7)
              rw [hT] at oE2
              have b2 := b1.setCell (p := ⟨R, 3, none⟩) le0 (.slice (some ⟨g7, 0, none⟩) (j + 1) G7)
              have rc := BR.cell 3
              have rcA := (BR.keep bA lR).cell 3
              have fz1 : w1'.frozen? ⟨R, 3, none⟩ = false := BR1.free 3
              have rc1 := BR1.cell 3
              have lR1 := BR1.lt
              generalize hwF : w1'.setCell ⟨R, 3, none⟩ (.slice (some ⟨g7, 0, none⟩) (j + 1) G7) = wF at *
              replace hwF := hide hwF
              replace hT := hide hT
              go_upto_region 15 with fail
              refine named (fun A0 hA0 => ?_)
              have a7 : A0.eval (.tmp 7) = .slice (some ⟨g, j * 3, none⟩) kj cj := by rw [hA0]; rfl
              have a11 : A0.eval (.tmp 11) = .pointer (some ⟨R, 0, none⟩) := by rw [hA0]; rfl
              have asz : 58 + 15 ≤ A0.tmps.size := by rw [hA0]; simp
              replace hA0 := hide hA0
              have i0' : (0 : Int) < kj := by omega
              have i1' : (1 : Int) < kj := by omega
              have i2' : (2 : Int) < kj := by omega
              have n1' : 1 < kj := by omega
              have n2' : 2 < kj := by omega
              refine wp_region_inv (by kernel_rfl) (by kernel_rfl) (fun d a' W' => ∃ V, a' = pV A0 58 15 V ∧ (∀ i, d i = true → valsR R g (j * 3) (.slice (some ⟨g, j * 3, none⟩) kj cj) (.slice ae j Ge) (.slice (some ⟨g7, 0, none⟩) (j + 1) G7) wr.heap.size e0 e1 e2 i (V i)) ∧ W' = stR wr.drew (wr.drew.alloc (.cells #[.int .i64 e0, .int .i64 e1, .int .i64 e2] 84)) w1' wF d) ?step ?fin ?start
              case start => exact ⟨fun i => A0.eval (.tmp (58 + i)), (pV_self _ _ _).symm, fun _ h => Bool.noConfusion h, rfl⟩
              case fin =>
                intro d a' W' hall inv
                obtain ⟨V, rfl, _, hW⟩ := inv
                have h15 : d 15 = true := hall 15 (by decide)
                unfold stR at hW
                rw [if_pos h15] at hW
                subst hW
                rw [← putsV_eq, hA0.out]
                simp only [putsV, Nat.reduceAdd]
                generalize V 0 = V0
                generalize V 1 = V1
                generalize V 2 = V2
                generalize V 3 = V3
                generalize V 4 = V4
                generalize V 5 = V5
                generalize V 6 = V6
                generalize V 7 = V7
                generalize V 8 = V8
                generalize V 9 = V9
                generalize V 10 = V10
                generalize V 11 = V11
                generalize V 12 = V12
                generalize V 13 = V13
                generalize V 14 = V14
                clear a7 a11 asz hc c0 c1 c2 hcell rc rcA fz1 rc1
                have h3k' : (3 : Int) ≤ kj := by omega
                go_wp2_with fail
                exact ⟨⟨j + 1, kj - 3, cj - 3, _, some ⟨g7, 0, none⟩, G7, by omega, rfl, fun h => by rw [if_neg (by omega), Nat.succ_mul], by omega, by omega, BR2, oE2, oI2, BB2, b2⟩, by simp only [lenOf]; omega⟩
              case step =>
                intro i o d a' W' hi' ho hd hall down inv K' hK
                obtain ⟨V, ha, hv, hW⟩ := inv
                have HW := hide hW
                clear hW
                have key : i = 0 ∨ i = 1 ∨ i = 2 ∨ i = 3 ∨ i = 4 ∨ i = 5 ∨ i = 6 ∨ i = 7 ∨ i = 8 ∨ i = 9 ∨ i = 10 ∨ i = 11 ∨ i = 12 ∨ i = 13 ∨ i = 14 ∨ i = 15 := by
                  have : i < 16 := hi'
                  omega
                clear hi'
                rcases key with rfl | rfl | rfl | rfl | rfl | rfl | rfl | rfl | rfl | rfl | rfl | rfl | rfl | rfl | rfl | rfl
                · obtain rfl := Option.some.inj ho
                  refine step_value (d := 58) (v := .pointer (some ⟨R, 3, none⟩)) (W' := W') rfl rfl (fun ρ hρ => ?_) (hK _ _ ⟨putV V 0 _, by rw [ha]; exact pV_put 0 58 rfl (by decide) _, valsE_put hv 0 _ rfl, by rw [HW.out, stR_same _ _ _ _ _ _ (by decide) (by decide) (by decide)]⟩)
                  have q11 : ρ (.tmp 11) = .pointer (some ⟨R, 0, none⟩) := by rw [hρ, ha]; exact (pV_out 11 (by decide)).trans a11
                  have qc : ∀ v, ρ (.const v) = v := fun v => by rw [hρ]; rfl
                  clear hρ
                  go_simp
                · obtain rfl := Option.some.inj ho
                  have h13 : d 13 = false := no down 13 _ rfl ⟨1, .data⟩ (by simp) rfl hd
                  have h15 : d 15 = false := no down 15 _ rfl ⟨13, .data⟩ (by simp) rfl h13
                  have ec' : W'.cell? ⟨R, 3, none⟩ = some (.slice ae j Ge) := by
                    rw [HW.out]
                    unfold stR
                    rw [h15, h13]
                    cases d 12
                    · exact rc
                    · exact rcA
                  have lB' := World.block_lt_of_cell? _ _ ec'
                  refine step_value (d := 59) (v := .slice ae j Ge) (W' := W') rfl rfl (fun ρ hρ => ?_) (hK _ _ ⟨putV V 1 _, by rw [ha]; exact pV_put 1 59 rfl (by decide) _, valsE_put hv 1 _ rfl, by rw [HW.out, stR_same _ _ _ _ _ _ (by decide) (by decide) (by decide)]⟩)
                  have q0 : ρ (.tmp 58) = .pointer (some ⟨R, 3, none⟩) := by rw [hρ, ha]; exact (pV_in 0 58 rfl (by decide) asz).trans (hv 0 (hall ⟨0, .data⟩ (by simp) rfl))
                  have qc : ∀ v, ρ (.const v) = v := fun v => by rw [hρ]; rfl
                  clear hρ
                  go_simp
                · obtain rfl := Option.some.inj ho
                  refine step_value (d := 60) (v := .slice (some ⟨g, j * 3, none⟩) kj cj) (W' := W') rfl rfl (fun ρ hρ => ?_) (hK _ _ ⟨putV V 2 _, by rw [ha]; exact pV_put 2 60 rfl (by decide) _, valsE_put hv 2 _ rfl, by rw [HW.out, stR_same _ _ _ _ _ _ (by decide) (by decide) (by decide)]⟩)
                  have q7 : ρ (.tmp 7) = .slice (some ⟨g, j * 3, none⟩) kj cj := by rw [hρ, ha]; exact (pV_out 7 (by decide)).trans a7
                  have qc : ∀ v, ρ (.const v) = v := fun v => by rw [hρ]; rfl
                  clear hρ
                  go_simp
                · obtain rfl := Option.some.inj ho
                  refine step_value (d := 61) (v := .pointer (some ⟨g, j * 3, none⟩)) (W' := W') rfl rfl (fun ρ hρ => ?_) (hK _ _ ⟨putV V 3 _, by rw [ha]; exact pV_put 3 61 rfl (by decide) _, valsE_put hv 3 _ rfl, by rw [HW.out, stR_same _ _ _ _ _ _ (by decide) (by decide) (by decide)]⟩)
                  have q2 : ρ (.tmp 60) = .slice (some ⟨g, j * 3, none⟩) kj cj := by rw [hρ, ha]; exact (pV_in 2 60 rfl (by decide) asz).trans (hv 2 (hall ⟨2, .data⟩ (by simp) rfl))
                  have qc : ∀ v, ρ (.const v) = v := fun v => by rw [hρ]; rfl
                  clear hρ
                  go_simp
                · obtain rfl := Option.some.inj ho
                  have h11 : d 11 = false := no down 11 _ rfl ⟨4, .data⟩ (by simp) rfl hd
                  have h12 : d 12 = false := no down 12 _ rfl ⟨11, .data⟩ (by simp) rfl h11
                  have h13 : d 13 = false := no down 13 _ rfl ⟨12, .data⟩ (by simp) rfl h12
                  have h15 : d 15 = false := no down 15 _ rfl ⟨13, .data⟩ (by simp) rfl h13
                  have ec' : W'.cell? ⟨g, j * 3, none⟩ = some (.int .i64 e0) := by
                    rw [HW.out]
                    unfold stR
                    rw [h15, h13, h12]
                    exact c0
                  have lB' := World.block_lt_of_cell? _ _ ec'
                  refine step_value (d := 62) (v := .int .i64 e0) (W' := W') rfl rfl (fun ρ hρ => ?_) (hK _ _ ⟨putV V 4 _, by rw [ha]; exact pV_put 4 62 rfl (by decide) _, valsE_put hv 4 _ rfl, by rw [HW.out, stR_same _ _ _ _ _ _ (by decide) (by decide) (by decide)]⟩)
                  have q3 : ρ (.tmp 61) = .pointer (some ⟨g, j * 3, none⟩) := by rw [hρ, ha]; exact (pV_in 3 61 rfl (by decide) asz).trans (hv 3 (hall ⟨3, .data⟩ (by simp) rfl))
                  have qc : ∀ v, ρ (.const v) = v := fun v => by rw [hρ]; rfl
                  clear hρ
                  go_simp
                · obtain rfl := Option.some.inj ho
                  refine step_value (d := 63) (v := .slice (some ⟨g, j * 3, none⟩) kj cj) (W' := W') rfl rfl (fun ρ hρ => ?_) (hK _ _ ⟨putV V 5 _, by rw [ha]; exact pV_put 5 63 rfl (by decide) _, valsE_put hv 5 _ rfl, by rw [HW.out, stR_same _ _ _ _ _ _ (by decide) (by decide) (by decide)]⟩)
                  have q7 : ρ (.tmp 7) = .slice (some ⟨g, j * 3, none⟩) kj cj := by rw [hρ, ha]; exact (pV_out 7 (by decide)).trans a7
                  have qc : ∀ v, ρ (.const v) = v := fun v => by rw [hρ]; rfl
                  clear hρ
                  go_simp
                · obtain rfl := Option.some.inj ho
                  refine step_value (d := 64) (v := .pointer (some ⟨g, j * 3 + 1, none⟩)) (W' := W') rfl rfl (fun ρ hρ => ?_) (hK _ _ ⟨putV V 6 _, by rw [ha]; exact pV_put 6 64 rfl (by decide) _, valsE_put hv 6 _ rfl, by rw [HW.out, stR_same _ _ _ _ _ _ (by decide) (by decide) (by decide)]⟩)
                  have q5 : ρ (.tmp 63) = .slice (some ⟨g, j * 3, none⟩) kj cj := by rw [hρ, ha]; exact (pV_in 5 63 rfl (by decide) asz).trans (hv 5 (hall ⟨5, .data⟩ (by simp) rfl))
                  have qc : ∀ v, ρ (.const v) = v := fun v => by rw [hρ]; rfl
                  clear hρ
                  go_simp
                · obtain rfl := Option.some.inj ho
                  have h11 : d 11 = false := no down 11 _ rfl ⟨7, .data⟩ (by simp) rfl hd
                  have h12 : d 12 = false := no down 12 _ rfl ⟨11, .data⟩ (by simp) rfl h11
                  have h13 : d 13 = false := no down 13 _ rfl ⟨12, .data⟩ (by simp) rfl h12
                  have h15 : d 15 = false := no down 15 _ rfl ⟨13, .data⟩ (by simp) rfl h13
                  have ec' : W'.cell? ⟨g, j * 3 + 1, none⟩ = some (.int .i64 e1) := by
                    rw [HW.out]
                    unfold stR
                    rw [h15, h13, h12]
                    exact c1
                  have lB' := World.block_lt_of_cell? _ _ ec'
                  refine step_value (d := 65) (v := .int .i64 e1) (W' := W') rfl rfl (fun ρ hρ => ?_) (hK _ _ ⟨putV V 7 _, by rw [ha]; exact pV_put 7 65 rfl (by decide) _, valsE_put hv 7 _ rfl, by rw [HW.out, stR_same _ _ _ _ _ _ (by decide) (by decide) (by decide)]⟩)
                  have q6 : ρ (.tmp 64) = .pointer (some ⟨g, j * 3 + 1, none⟩) := by rw [hρ, ha]; exact (pV_in 6 64 rfl (by decide) asz).trans (hv 6 (hall ⟨6, .data⟩ (by simp) rfl))
                  have qc : ∀ v, ρ (.const v) = v := fun v => by rw [hρ]; rfl
                  clear hρ
                  go_simp
                · obtain rfl := Option.some.inj ho
                  refine step_value (d := 66) (v := .slice (some ⟨g, j * 3, none⟩) kj cj) (W' := W') rfl rfl (fun ρ hρ => ?_) (hK _ _ ⟨putV V 8 _, by rw [ha]; exact pV_put 8 66 rfl (by decide) _, valsE_put hv 8 _ rfl, by rw [HW.out, stR_same _ _ _ _ _ _ (by decide) (by decide) (by decide)]⟩)
                  have q7 : ρ (.tmp 7) = .slice (some ⟨g, j * 3, none⟩) kj cj := by rw [hρ, ha]; exact (pV_out 7 (by decide)).trans a7
                  have qc : ∀ v, ρ (.const v) = v := fun v => by rw [hρ]; rfl
                  clear hρ
                  go_simp
                · obtain rfl := Option.some.inj ho
                  refine step_value (d := 67) (v := .pointer (some ⟨g, j * 3 + 2, none⟩)) (W' := W') rfl rfl (fun ρ hρ => ?_) (hK _ _ ⟨putV V 9 _, by rw [ha]; exact pV_put 9 67 rfl (by decide) _, valsE_put hv 9 _ rfl, by rw [HW.out, stR_same _ _ _ _ _ _ (by decide) (by decide) (by decide)]⟩)
                  have q8 : ρ (.tmp 66) = .slice (some ⟨g, j * 3, none⟩) kj cj := by rw [hρ, ha]; exact (pV_in 8 66 rfl (by decide) asz).trans (hv 8 (hall ⟨8, .data⟩ (by simp) rfl))
                  have qc : ∀ v, ρ (.const v) = v := fun v => by rw [hρ]; rfl
                  clear hρ
                  go_simp
                · obtain rfl := Option.some.inj ho
                  have h11 : d 11 = false := no down 11 _ rfl ⟨10, .data⟩ (by simp) rfl hd
                  have h12 : d 12 = false := no down 12 _ rfl ⟨11, .data⟩ (by simp) rfl h11
                  have h13 : d 13 = false := no down 13 _ rfl ⟨12, .data⟩ (by simp) rfl h12
                  have h15 : d 15 = false := no down 15 _ rfl ⟨13, .data⟩ (by simp) rfl h13
                  have ec' : W'.cell? ⟨g, j * 3 + 2, none⟩ = some (.int .i64 e2) := by
                    rw [HW.out]
                    unfold stR
                    rw [h15, h13, h12]
                    exact c2
                  have lB' := World.block_lt_of_cell? _ _ ec'
                  refine step_value (d := 68) (v := .int .i64 e2) (W' := W') rfl rfl (fun ρ hρ => ?_) (hK _ _ ⟨putV V 10 _, by rw [ha]; exact pV_put 10 68 rfl (by decide) _, valsE_put hv 10 _ rfl, by rw [HW.out, stR_same _ _ _ _ _ _ (by decide) (by decide) (by decide)]⟩)
                  have q9 : ρ (.tmp 67) = .pointer (some ⟨g, j * 3 + 2, none⟩) := by rw [hρ, ha]; exact (pV_in 9 67 rfl (by decide) asz).trans (hv 9 (hall ⟨9, .data⟩ (by simp) rfl))
                  have qc : ∀ v, ρ (.const v) = v := fun v => by rw [hρ]; rfl
                  clear hρ
                  go_simp
                · obtain rfl := Option.some.inj ho
                  refine step_value (d := 69) (v := .agg #[.int .i64 e0, .int .i64 e1, .int .i64 e2]) (W' := W') rfl rfl (fun ρ hρ => ?_) (hK _ _ ⟨putV V 11 _, by rw [ha]; exact pV_put 11 69 rfl (by decide) _, valsE_put hv 11 _ rfl, by rw [HW.out, stR_same _ _ _ _ _ _ (by decide) (by decide) (by decide)]⟩)
                  have q4 : ρ (.tmp 62) = .int .i64 e0 := by rw [hρ, ha]; exact (pV_in 4 62 rfl (by decide) asz).trans (hv 4 (hall ⟨4, .data⟩ (by simp) rfl))
                  have q7 : ρ (.tmp 65) = .int .i64 e1 := by rw [hρ, ha]; exact (pV_in 7 65 rfl (by decide) asz).trans (hv 7 (hall ⟨7, .data⟩ (by simp) rfl))
                  have q10 : ρ (.tmp 68) = .int .i64 e2 := by rw [hρ, ha]; exact (pV_in 10 68 rfl (by decide) asz).trans (hv 10 (hall ⟨10, .data⟩ (by simp) rfl))
                  have qc : ∀ v, ρ (.const v) = v := fun v => by rw [hρ]; rfl
                  clear hρ
                  go_simp
                · obtain rfl := Option.some.inj ho
                  have h13 : d 13 = false := no down 13 _ rfl ⟨12, .data⟩ (by simp) rfl hd
                  have h15 : d 15 = false := no down 15 _ rfl ⟨13, .data⟩ (by simp) rfl h13
                  obtain rfl : W' = wr.drew := by
                    rw [HW.out]
                    unfold stR
                    rw [h15, h13, hd]
                    rfl
                  refine step_value (d := 70) (v := .slice (some ⟨wr.heap.size, 0, none⟩) 1 1) (W' := wr.drew.alloc (.cells #[.int .i64 e0, .int .i64 e1, .int .i64 e2] 84)) rfl rfl (fun ρ hρ => ?_) (hK _ _ ⟨putV V 12 _, by rw [ha]; exact pV_put 12 70 rfl (by decide) _, valsE_put hv 12 _ rfl, by unfold stR; simp [h13, h15]⟩)
                  have q11 : ρ (.tmp 69) = .agg #[.int .i64 e0, .int .i64 e1, .int .i64 e2] := by rw [hρ, ha]; exact (pV_in 11 69 rfl (by decide) asz).trans (hv 11 (hall ⟨11, .data⟩ (by simp) rfl))
                  have qc : ∀ v, ρ (.const v) = v := fun v => by rw [hρ]; rfl
                  clear hρ
                  go_simp
                · obtain rfl := Option.some.inj ho
                  have h15 : d 15 = false := no down 15 _ rfl ⟨13, .data⟩ (by simp) rfl hd
                  have h12 : d 12 = true := hall ⟨12, .data⟩ (by simp) rfl
                  obtain rfl : W' = wr.drew.alloc (.cells #[.int .i64 e0, .int .i64 e1, .int .i64 e2] 84) := by
                    rw [HW.out]
                    unfold stR
                    rw [h15, hd, h12]
                    rfl
                  have q1 : a'.eval (.tmp 59) = .slice ae j Ge := by rw [ha]; exact (pV_in 1 59 rfl (by decide) asz).trans (hv 1 (hall ⟨1, .data⟩ (by simp) rfl))
                  have q12 : a'.eval (.tmp 70) = .slice (some ⟨wr.heap.size, 0, none⟩) 1 1 := by rw [ha]; exact (pV_in 12 70 rfl (by decide) asz).trans (hv 12 (hall ⟨12, .data⟩ (by simp) rfl))
                  rw [if_pos (by rfl)]
                  refine Lib.wp_append_run _ (.tmp 59) (.tmp 70) _ _ rfl (.slice ae j Ge) (.slice (some ⟨wr.heap.size, 0, none⟩) 1 1) q1 q12 _ _ hrun ?_
                  exact hK _ _ ⟨putV V 13 _, by rw [ha]; exact pV_put 13 71 rfl (by decide) _, valsE_put hv 13 _ rfl, by unfold stR; simp [h15]⟩
                · obtain rfl := Option.some.inj ho
                  refine step_value (d := 72) (v := .pointer (some ⟨R, 3, none⟩)) (W' := W') rfl rfl (fun ρ hρ => ?_) (hK _ _ ⟨putV V 14 _, by rw [ha]; exact pV_put 14 72 rfl (by decide) _, valsE_put hv 14 _ rfl, by rw [HW.out, stR_same _ _ _ _ _ _ (by decide) (by decide) (by decide)]⟩)
                  have q11 : ρ (.tmp 11) = .pointer (some ⟨R, 0, none⟩) := by rw [hρ, ha]; exact (pV_out 11 (by decide)).trans a11
                  have qc : ∀ v, ρ (.const v) = v := fun v => by rw [hρ]; rfl
                  clear hρ
                  go_simp
                · obtain rfl := Option.some.inj ho
                  have h13 : d 13 = true := hall ⟨13, .data⟩ (by simp) rfl
                  obtain rfl : W' = w1' := by
                    rw [HW.out]
                    unfold stR
                    rw [hd, h13]
                    rfl
                  refine step_skip (n := .skip) (W' := wF) rfl rfl (.inl rfl) (fun ρ hρ => ?_) (hK _ _ ⟨V, ha, fun k hk => by
                    by_cases e : k = 15
                    · subst e; trivial
                    · exact hv k (by simpa [e] using hk), by unfold stR; simp⟩)
                  have q13 : ρ (.tmp 71) = .slice (some ⟨g7, 0, none⟩) (j + 1) G7 := by rw [hρ, ha]; exact (pV_in 13 71 rfl (by decide) asz).trans (hv 13 (hall ⟨13, .data⟩ (by simp) rfl))
                  have q14 : ρ (.tmp 72) = .pointer (some ⟨R, 3, none⟩) := by rw [hρ, ha]; exact (pV_in 14 72 rfl (by decide) asz).trans (hv 14 (hall ⟨14, .data⟩ (by simp) rfl))
                  clear hρ
                  rw [← hwF.out]
                  go_simp
            · obtain rfl : kj = 0 := by omega
              have hjm : j = mm := by have := hmm.out; omega
              subst hjm
              rw [hch.out] at oE
              have hln : j = (chunkL vs).length := by rw [← hch.out]; simp
              go_wp2_with fail
              go_meet
              case rel => exact ⟨⟨1, 0, 0, chunkL vs⟩, ae, Ge, j, hTR, hln, BR, oE, BB, bel⟩
        · rw [if_neg (fun h => m3 h.2), if_neg (fun h => by rw [kB] at h; exact absurd h.1 (by decide)), if_neg (fun h => by rw [kB] at h; exact absurd h.1 (by decide)), if_neg (fun h => by rw [kB] at h; exact absurd h.1 (by decide))] at hTR
          have m3' : ¬ (k : Int).tmod 3 = 0 := by rw [Int.tmod_eq_emod_of_nonneg (by omega)]; omega
          have bB : (wd.toList == [98, 97, 116, 99, 104]) = true := by rw [toList_bytes, kB]; rfl
          have bS : (wd.toList == [115, 101, 97, 108]) = false := by rw [toList_bytes, kB]; rfl
          have bM : (wd.toList == [109, 101, 114, 103, 101]) = false := by rw [toList_bytes, kB]; rfl
          have bD : (wd.toList == [100, 114, 111, 112]) = false := by rw [toList_bytes, kB]; rfl
          obtain ⟨rfl, rfl⟩ : PR = rec0 ∧ PE = 1 := by rw [hR.out, hE.out, hTR]; exact ⟨rfl, rfl⟩
          clear hTR hR hE
          have r0 := BB.cell 0
          have r1 := BB.cell 1
          have r2 := BB.cell 2
          have r3 := BB.cell 3
          have f0 := BB.free 0
          have f1 := BB.free 1
          have f2 := BB.free 2
          have f3 := BB.free 3
          have lR := BB.lt
          go_wp2_with fail
          have B9 := put4r BB (.int .i64 0) (.int .i64 0) (.int .i64 0) (.slice none 0 0)
          have bel9 := below4r belB (Nat.le_refl _) (.int .i64 0) (.int .i64 0) (.int .i64 0) (.slice none 0 0)
          have i0 := B9.cell 0
          have i1 := B9.cell 1
          have i2 := B9.cell 2
          have i3 := B9.cell 3
          exact bodyPost_ret (v := .tuple #[.agg #[.int .i64 0, .int .i64 0, .int .i64 0, .slice none 0 0], .int .i64 1]) (by simp [results, Tryz.results93, go_sem, i0, i1, i2, i3]) rfl ⟨none, 0, rfl, World.ownsRow_nil _ _ _ _, bel9⟩
      rw [if_neg (fun h => kB h.1)] at hTR
      by_cases kS : bytes wd = wSeal
      · by_cases hc2 : k = 2
        · subst hc2
          rw [if_pos ⟨kS, rfl⟩] at hTR
          obtain ⟨v0, v1, rfl⟩ : ∃ v0 v1, vs = [v0, v1] := by
            match vs, hk.out with
            | [a, b], _ => exact ⟨a, b, rfl⟩
          have bB : (wd.toList == [98, 97, 116, 99, 104]) = false := by rw [toList_bytes, kS]; rfl
          have bS : (wd.toList == [115, 101, 97, 108]) = true := by rw [toList_bytes, kS]; rfl
          have bM : (wd.toList == [109, 101, 114, 103, 101]) = false := by rw [toList_bytes, kS]; rfl
          have bD : (wd.toList == [100, 114, 111, 112]) = false := by rw [toList_bytes, kS]; rfl
          replace hTR := hide hTR
          obtain ⟨gv, ov, rfl, lgv, hc0⟩ := (ints_own own3).row.at (by simp)
          have n0 := hc0 0 _ rfl
          have n1 := hc0 1 _ rfl
          simp only [Nat.add_zero] at n0
          have r0 := BR.cell 0
          have r1 := BR.cell 1
          have r2 := BR.cell 2
          have r3 := BR.cell 3
          have f0 := BR.free 0
          have f1 := BR.free 1
          have f2 := BR.free 2
          have f3 := BR.free 3
          have lR := BR.lt
          clear hc0
          have ngR : ¬ gv = R := fun h => ownNe own3 BR (by decide) (by rw [h]; rfl)
          have ngR' : ¬ R = gv := fun h => ngR h.symm
          go_upto_region 18 with fail
          go_region_held3 (fun w' => w'.cell? ⟨gv, ov, none⟩ = some (.int .i64 v0) ∧ w'.cell? ⟨gv, ov + 1, none⟩ = some (.int .i64 v1)) (go_keep) (fail)
          all_goals go_wp2_with fail
          all_goals go_meet
          case rel =>
            exact ⟨⟨2, v0, v1, []⟩, none, 0, 0, hTR, rfl, put4r BR (.int .i64 2) (.int .i64 v0) (.int .i64 v1) (.slice none 0 0), World.ownsRow_nil _ _ _ _, (((BB.other 0 _ (by omega)).other 1 _ (by omega)).other 2 _ (by omega)).other 3 _ (by omega), below4r (belowDrew belB) (Nat.le_trans bel2.size lc) (.int .i64 2) (.int .i64 v0) (.int .i64 v1) (.slice none 0 0)⟩
        · rw [if_neg (fun h => hc2 h.2), if_neg (fun h => by rw [kS] at h; exact absurd h.1 (by decide)), if_neg (fun h => by rw [kS] at h; exact absurd h.1 (by decide))] at hTR
          have hc2' : ¬ (k : Int) = 2 := by omega
          have bB : (wd.toList == [98, 97, 116, 99, 104]) = false := by rw [toList_bytes, kS]; rfl
          have bS : (wd.toList == [115, 101, 97, 108]) = true := by rw [toList_bytes, kS]; rfl
          have bM : (wd.toList == [109, 101, 114, 103, 101]) = false := by rw [toList_bytes, kS]; rfl
          have bD : (wd.toList == [100, 114, 111, 112]) = false := by rw [toList_bytes, kS]; rfl
          obtain ⟨rfl, rfl⟩ : PR = rec0 ∧ PE = 1 := by rw [hR.out, hE.out, hTR]; exact ⟨rfl, rfl⟩
          clear hTR hR hE
          have r0 := BB.cell 0
          have r1 := BB.cell 1
          have r2 := BB.cell 2
          have r3 := BB.cell 3
          have f0 := BB.free 0
          have f1 := BB.free 1
          have f2 := BB.free 2
          have f3 := BB.free 3
          have lR := BB.lt
          go_wp2_with fail
          have B9 := put4r BB (.int .i64 0) (.int .i64 0) (.int .i64 0) (.slice none 0 0)
          have bel9 := below4r belB (Nat.le_refl _) (.int .i64 0) (.int .i64 0) (.int .i64 0) (.slice none 0 0)
          have i0 := B9.cell 0
          have i1 := B9.cell 1
          have i2 := B9.cell 2
          have i3 := B9.cell 3
          exact bodyPost_ret (v := .tuple #[.agg #[.int .i64 0, .int .i64 0, .int .i64 0, .slice none 0 0], .int .i64 1]) (by simp [results, Tryz.results93, go_sem, i0, i1, i2, i3]) rfl ⟨none, 0, rfl, World.ownsRow_nil _ _ _ _, bel9⟩
      rw [if_neg (fun h => kS h.1)] at hTR
      by_cases kM : bytes wd = wMerge
      · by_cases hc2 : k = 2
        · subst hc2
          rw [if_pos ⟨kM, rfl⟩] at hTR
          obtain ⟨v0, v1, rfl⟩ : ∃ v0 v1, vs = [v0, v1] := by
            match vs, hk.out with
            | [a, b], _ => exact ⟨a, b, rfl⟩
          have bB : (wd.toList == [98, 97, 116, 99, 104]) = false := by rw [toList_bytes, kM]; rfl
          have bS : (wd.toList == [115, 101, 97, 108]) = false := by rw [toList_bytes, kM]; rfl
          have bM : (wd.toList == [109, 101, 114, 103, 101]) = true := by rw [toList_bytes, kM]; rfl
          have bD : (wd.toList == [100, 114, 111, 112]) = false := by rw [toList_bytes, kM]; rfl
          replace hTR := hide hTR
          obtain ⟨gv, ov, rfl, lgv, hc0⟩ := (ints_own own3).row.at (by simp)
          have n0 := hc0 0 _ rfl
          have n1 := hc0 1 _ rfl
          simp only [Nat.add_zero] at n0
          have r0 := BR.cell 0
          have r1 := BR.cell 1
          have r2 := BR.cell 2
          have r3 := BR.cell 3
          have f0 := BR.free 0
          have f1 := BR.free 1
          have f2 := BR.free 2
          have f3 := BR.free 3
          have lR := BR.lt
          clear hc0
          have ngR : ¬ gv = R := fun h => ownNe own3 BR (by decide) (by rw [h]; rfl)
          have ngR' : ¬ R = gv := fun h => ngR h.symm
          go_upto_region 20 with fail
          go_region_held3 (fun w' => w'.cell? ⟨gv, ov, none⟩ = some (.int .i64 v0) ∧ w'.cell? ⟨gv, ov + 1, none⟩ = some (.int .i64 v1)) (go_keep) (fail)
          all_goals go_wp2_with fail
          all_goals go_meet
          case rel =>
            exact ⟨⟨3, v0, v1, []⟩, none, 0, 0, hTR, rfl, put4r BR (.int .i64 3) (.int .i64 v0) (.int .i64 v1) (.slice none 0 0), World.ownsRow_nil _ _ _ _, (((BB.other 0 _ (by omega)).other 1 _ (by omega)).other 2 _ (by omega)).other 3 _ (by omega), below4r (belowDrew belB) (Nat.le_trans bel2.size lc) (.int .i64 3) (.int .i64 v0) (.int .i64 v1) (.slice none 0 0)⟩
        · rw [if_neg (fun h => hc2 h.2), if_neg (fun h => by rw [kM] at h; exact absurd h.1 (by decide))] at hTR
          have hc2' : ¬ (k : Int) = 2 := by omega
          have bB : (wd.toList == [98, 97, 116, 99, 104]) = false := by rw [toList_bytes, kM]; rfl
          have bS : (wd.toList == [115, 101, 97, 108]) = false := by rw [toList_bytes, kM]; rfl
          have bM : (wd.toList == [109, 101, 114, 103, 101]) = true := by rw [toList_bytes, kM]; rfl
          have bD : (wd.toList == [100, 114, 111, 112]) = false := by rw [toList_bytes, kM]; rfl
          obtain ⟨rfl, rfl⟩ : PR = rec0 ∧ PE = 1 := by rw [hR.out, hE.out, hTR]; exact ⟨rfl, rfl⟩
          clear hTR hR hE
          have r0 := BB.cell 0
          have r1 := BB.cell 1
          have r2 := BB.cell 2
          have r3 := BB.cell 3
          have f0 := BB.free 0
          have f1 := BB.free 1
          have f2 := BB.free 2
          have f3 := BB.free 3
          have lR := BB.lt
          go_wp2_with fail
          have B9 := put4r BB (.int .i64 0) (.int .i64 0) (.int .i64 0) (.slice none 0 0)
          have bel9 := below4r belB (Nat.le_refl _) (.int .i64 0) (.int .i64 0) (.int .i64 0) (.slice none 0 0)
          have i0 := B9.cell 0
          have i1 := B9.cell 1
          have i2 := B9.cell 2
          have i3 := B9.cell 3
          exact bodyPost_ret (v := .tuple #[.agg #[.int .i64 0, .int .i64 0, .int .i64 0, .slice none 0 0], .int .i64 1]) (by simp [results, Tryz.results93, go_sem, i0, i1, i2, i3]) rfl ⟨none, 0, rfl, World.ownsRow_nil _ _ _ _, bel9⟩
      rw [if_neg (fun h => kM h.1)] at hTR
      by_cases kD : bytes wd = wDrop
      · by_cases hc1 : k = 1
        · subst hc1
          rw [if_pos ⟨kD, rfl⟩] at hTR
          obtain ⟨v0, rfl⟩ : ∃ v0, vs = [v0] := by
            match vs, hk.out with
            | [a], _ => exact ⟨a, rfl⟩
          have bB : (wd.toList == [98, 97, 116, 99, 104]) = false := by rw [toList_bytes, kD]; rfl
          have bS : (wd.toList == [115, 101, 97, 108]) = false := by rw [toList_bytes, kD]; rfl
          have bM : (wd.toList == [109, 101, 114, 103, 101]) = false := by rw [toList_bytes, kD]; rfl
          have bD : (wd.toList == [100, 114, 111, 112]) = true := by rw [toList_bytes, kD]; rfl
          replace hTR := hide hTR
          obtain ⟨gv, ov, rfl, lgv, hc0⟩ := (ints_own own3).row.at (by simp)
          have n0 := hc0 0 _ rfl
          simp only [Nat.add_zero] at n0
          have r0 := BR.cell 0
          have r1 := BR.cell 1
          have r2 := BR.cell 2
          have r3 := BR.cell 3
          have f0 := BR.free 0
          have f1 := BR.free 1
          have f2 := BR.free 2
          have f3 := BR.free 3
          have lR := BR.lt
          clear hc0
          go_wp2_with fail
          go_meet
          case rel =>
            exact ⟨⟨4, 0, v0, []⟩, none, 0, 0, hTR, rfl, put4r BR (.int .i64 4) (.int .i64 0) (.int .i64 v0) (.slice none 0 0), World.ownsRow_nil _ _ _ _, (((BB.other 0 _ (by omega)).other 1 _ (by omega)).other 2 _ (by omega)).other 3 _ (by omega), below4r belB (Nat.le_trans bel2.size lc) (.int .i64 4) (.int .i64 0) (.int .i64 v0) (.slice none 0 0)⟩
        · rw [if_neg (fun h => hc1 h.2)] at hTR
          have hc1' : ¬ (k : Int) = 1 := by omega
          have bB : (wd.toList == [98, 97, 116, 99, 104]) = false := by rw [toList_bytes, kD]; rfl
          have bS : (wd.toList == [115, 101, 97, 108]) = false := by rw [toList_bytes, kD]; rfl
          have bM : (wd.toList == [109, 101, 114, 103, 101]) = false := by rw [toList_bytes, kD]; rfl
          have bD : (wd.toList == [100, 114, 111, 112]) = true := by rw [toList_bytes, kD]; rfl
          obtain ⟨rfl, rfl⟩ : PR = rec0 ∧ PE = 1 := by rw [hR.out, hE.out, hTR]; exact ⟨rfl, rfl⟩
          clear hTR hR hE
          have r0 := BB.cell 0
          have r1 := BB.cell 1
          have r2 := BB.cell 2
          have r3 := BB.cell 3
          have f0 := BB.free 0
          have f1 := BB.free 1
          have f2 := BB.free 2
          have f3 := BB.free 3
          have lR := BB.lt
          go_wp2_with fail
          have B9 := put4r BB (.int .i64 0) (.int .i64 0) (.int .i64 0) (.slice none 0 0)
          have bel9 := below4r belB (Nat.le_refl _) (.int .i64 0) (.int .i64 0) (.int .i64 0) (.slice none 0 0)
          have i0 := B9.cell 0
          have i1 := B9.cell 1
          have i2 := B9.cell 2
          have i3 := B9.cell 3
          exact bodyPost_ret (v := .tuple #[.agg #[.int .i64 0, .int .i64 0, .int .i64 0, .slice none 0 0], .int .i64 1]) (by simp [results, Tryz.results93, go_sem, i0, i1, i2, i3]) rfl ⟨none, 0, rfl, World.ownsRow_nil _ _ _ _, bel9⟩
      rw [if_neg (fun h => kD h.1)] at hTR
      have bB : (wd.toList == [98, 97, 116, 99, 104]) = false := by rw [toList_bytes]; exact beq_eq_false_iff_ne.2 kB
      have bS : (wd.toList == [115, 101, 97, 108]) = false := by rw [toList_bytes]; exact beq_eq_false_iff_ne.2 kS
      have bM : (wd.toList == [109, 101, 114, 103, 101]) = false := by rw [toList_bytes]; exact beq_eq_false_iff_ne.2 kM
      have bD : (wd.toList == [100, 114, 111, 112]) = false := by rw [toList_bytes]; exact beq_eq_false_iff_ne.2 kD
      obtain ⟨rfl, rfl⟩ : PR = rec0 ∧ PE = 1 := by rw [hR.out, hE.out, hTR]; exact ⟨rfl, rfl⟩
      clear hTR hR hE
      have r0 := BB.cell 0
      have r1 := BB.cell 1
      have r2 := BB.cell 2
      have r3 := BB.cell 3
      have f0 := BB.free 0
      have f1 := BB.free 1
      have f2 := BB.free 2
      have f3 := BB.free 3
      have lR := BB.lt
      go_wp2_with fail
      have B9 := put4r BB (.int .i64 0) (.int .i64 0) (.int .i64 0) (.slice none 0 0)
      have bel9 := below4r belB (Nat.le_refl _) (.int .i64 0) (.int .i64 0) (.int .i64 0) (.slice none 0 0)
      have i0 := B9.cell 0
      have i1 := B9.cell 1
      have i2 := B9.cell 2
      have i3 := B9.cell 3
      exact bodyPost_ret (v := .tuple #[.agg #[.int .i64 0, .int .i64 0, .int .i64 0, .slice none 0 0], .int .i64 1]) (by simp [results, Tryz.results93, go_sem, i0, i1, i2, i3]) rfl ⟨none, 0, rfl, World.ownsRow_nil _ _ _ _, bel9⟩
    case rest =>
      obtain ⟨r, a', G', ln, hr, hln, B3, o3, B0, belW⟩ := hcut
      have hPR : PR = outRd (some r) := by rw [hR.out, hr.out]
      have hPE : PE = recE r := by rw [hE.out, hr.out]; rfl
      clear hTR hR hE hr own3 BR BB belB bel3 hvs hk
      obtain ⟨a5, G5, e5, S3, _, _⟩ := SlW.ofOwn ec_three (by decide) o3
      simp only [Value.slice.injEq, true_and] at e5
      obtain ⟨rfl, rfl⟩ := e5
      have c := rcheck_is r a' G' ln wc S3 hln
      have x0 := B3.cell 0
      have x1 := B3.cell 1
      have x2 := B3.cell 2
      have x3 := B3.cell 3
      have lR := B3.lt
      have le0 : w.heap.size ≤ R := Nat.le_trans bel2.size lc
      by_cases h0 : recE r = 0
      · obtain rfl : PR = r := by rw [hPR]; exact if_pos h0
        obtain rfl : PE = 0 := by rw [hPE, h0]
        rw [h0] at c
        clear hPR hPE
        obtain ⟨K, s', m', l⟩ := PR
        simp only at *
        replace hln := hide hln
        clear h0
        go_wp2_with fail
        go_at_call 59
        refine c.mono ?_
        rintro e w8 ⟨rfl, b8⟩
        have B8 := B3.keep b8 B3.lt
        have BB := B0.keep b8 B0.lt
        have o8 := ownCall o3 b8
        have belB := belowCall belW b8
        have y0 := B8.cell 0
        have y1 := B8.cell 1
        have y2 := B8.cell 2
        have y3 := B8.cell 3
        have lR8 := B8.lt
        have r0 := BB.cell 0
        have r1 := BB.cell 1
        have r2 := BB.cell 2
        have r3 := BB.cell 3
        have f0 := BB.free 0
        have f1 := BB.free 1
        have f2 := BB.free 2
        have f3 := BB.free 3
        have lW := BB.lt
        clear x0 x1 x2 x3 lR
        go_wp2_with fail
        have B9 := put4r BB (.int .i64 K) (.int .i64 s') (.int .i64 m') (.slice a' ln G')
        have bel9 := below4r belB (Nat.le_refl _) (.int .i64 K) (.int .i64 s') (.int .i64 m') (.slice a' ln G')
        have o9 := own4r o8 BB (by decide) (.int .i64 K) (.int .i64 s') (.int .i64 m') (.slice a' ln G')
        have i0 := B9.cell 0
        have i1 := B9.cell 1
        have i2 := B9.cell 2
        have i3 := B9.cell 3
        exact bodyPost_ret (v := .tuple #[.agg #[.int .i64 K, .int .i64 s', .int .i64 m', .slice a' ln G'], .int .i64 0]) (by simp [results, Tryz.results93, go_sem, i0, i1, i2, i3]) rfl ⟨a', G', by first | rfl | rw [← hln.out], by first | exact o9 | (rw [← hln.out]; exact o9), bel9⟩
      · obtain rfl : PR = rec0 := by rw [hPR]; exact if_neg h0
        rw [← hPE] at c h0
        have hd : decide (PE = 0) = false := decide_eq_false h0
        clear hPR hPE
        obtain ⟨K, s', m', l⟩ := r
        simp only at *
        replace hln := hide hln
        go_wp2_with fail
        go_at_call 59
        refine c.mono ?_
        rintro e w8 ⟨rfl, b8⟩
        have BB := B0.keep b8 B0.lt
        have belB := belowCall belW b8
        have r0 := BB.cell 0
        have r1 := BB.cell 1
        have r2 := BB.cell 2
        have r3 := BB.cell 3
        have f0 := BB.free 0
        have f1 := BB.free 1
        have f2 := BB.free 2
        have f3 := BB.free 3
        have lW := BB.lt
        clear x0 x1 x2 x3 lR
        go_wp2_with fail
        have B9 := put4r BB (.int .i64 0) (.int .i64 0) (.int .i64 0) (.slice none 0 0)
        have bel9 := below4r belB (Nat.le_refl _) (.int .i64 0) (.int .i64 0) (.int .i64 0) (.slice none 0 0)
        have i0 := B9.cell 0
        have i1 := B9.cell 1
        have i2 := B9.cell 2
        have i3 := B9.cell 3
        exact bodyPost_ret (v := .tuple #[.agg #[.int .i64 0, .int .i64 0, .int .i64 0, .slice none 0 0], .int .i64 PE]) (by simp [results, Tryz.results93, go_sem, i0, i1, i2, i3]) rfl ⟨none, 0, rfl, World.ownsRow_nil _ _ _ _, bel9⟩

end Go.Proofs.YtjjfgmcgonkicaaGreatDoor
