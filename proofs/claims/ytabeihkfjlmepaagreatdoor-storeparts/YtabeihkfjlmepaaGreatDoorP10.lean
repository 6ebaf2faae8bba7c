/-
  The closed fact 'filed': one record is safe, another one half there.
-/
import Derived.Lib.Split
import Derived.Lib.IndexMore
import Derived.Test.YtabeihkfjlmepaaGreatDoorP08
import Derived.Test.YtabeihkfjlmepaaGreatDoorP09
import Derived.Test.YtabeihkfjlmepaaGreatDoorP06
import Derived.Test.YtabeihkfjlmepaaGreatDoorP07
import Derived.Test.YtabeihkfjlmepaaGreatDoorP01
import Derived.Test.YtabeihkfjlmepaaGreatDoorP02
import Derived.Test.YtabeihkfjlmepaaGreatDoorP05
namespace Go.Proofs.YtabeihkfjlmepaaGreatDoor
open Go.RowKit
open Go.Lib (byteCells)

def rD2 : Rc := ⟨4, 0, 2, []⟩
def rD3 : Rc := ⟨4, 0, 3, []⟩
def tD2 : List UInt8 := [100, 114, 111, 112, 32, 50, 10]
def tD3 : List UInt8 := [100, 114, 111, 112, 32, 51, 10]

theorem d2_text : recE rD2 = 0 ∧ recT rD2 ++ [10] = tD2 := by decide +kernel
theorem d3_text : recE rD3 = 0 ∧ recT rD3 ++ [10] = tD3 := by decide +kernel
theorem d2_len : (recT rD2).length = 6 ∧ (recT rD3).length = 6 := by decide +kernel

theorem log2 : logT [rD2] = tD2 := by rw [logT_one]; exact d2_text.2
theorem scan2 : scan 0 tD2 = ([rD2], 0) := by
  rw [← log2]
  refine scan_log0 _ (fun r hr => ?_) (by decide)
  simp only [List.mem_cons, List.not_mem_nil, or_false] at hr
  subst hr
  exact d2_text.1

theorem e0 : dkE dk0 = 0 := rfl
theorem e1 : dkE ⟨[], tD2⟩ = 0 := by unfold dkE; rw [if_neg (by decide)]; rfl
theorem e2 (l : List UInt8) (h : l.length ≤ 10) : dkE ⟨tD2, l⟩ = 0 := by
  unfold dkE
  rw [if_neg (by simp [tD2]; omega), scan2]

theorem f1 : dputE dk0 rD2 = 0 ∧ dputD dk0 rD2 = ⟨[], tD2⟩ := by
  have h : dputE dk0 rD2 = 0 := by
    unfold dputE
    rw [if_neg (by simp [e0]), if_neg (by simp [d2_text.1]), if_neg (by rw [d2_len.1]; decide)]
  refine ⟨h, ?_⟩
  unfold dputD
  rw [if_pos h, d2_text.2]
  rfl

theorem f2 : syncE ⟨[], tD2⟩ = 0 ∧ syncD ⟨[], tD2⟩ = ⟨tD2, []⟩ := by
  have h : syncE ⟨[], tD2⟩ = 0 := by
    unfold syncE
    rw [if_neg (by simp [e1])]
    exact e2 [] (by decide)
  refine ⟨h, ?_⟩
  unfold syncD
  rw [if_pos h]
  rfl

theorem f3 : dputE ⟨tD2, []⟩ rD3 = 0 ∧ dputD ⟨tD2, []⟩ rD3 = ⟨tD2, tD3⟩ := by
  have h : dputE ⟨tD2, []⟩ rD3 = 0 := by
    unfold dputE
    rw [if_neg (by simp [e2]), if_neg (by simp [d3_text.1]), if_neg (by rw [d2_len.2]; decide)]
  refine ⟨h, ?_⟩
  unfold dputD
  rw [if_pos h, d3_text.2]
  rfl

theorem f4 : crashE ⟨tD2, tD3⟩ 4 = 0 ∧ crashD ⟨tD2, tD3⟩ 4 = ⟨tD2, [100, 114, 111, 112]⟩ := by
  have h : crashE ⟨tD2, tD3⟩ 4 = 0 := by
    unfold crashE
    rw [if_neg (by simp [e2, tD3]), if_neg (by decide)]
  refine ⟨h, ?_⟩
  unfold crashD
  rw [if_pos h]
  rfl

theorem f5 : dkE ⟨tD2, [100, 114, 111, 112]⟩ = 0 ∧ recD ⟨tD2, [100, 114, 111, 112]⟩ = ⟨tD2, []⟩ ∧ recL ⟨tD2, [100, 114, 111, 112]⟩ = [rD2] := by
  have h := e2 [100, 114, 111, 112] (by decide)
  have hL : dkL ⟨tD2, [100, 114, 111, 112]⟩ = [rD2] := by
    unfold dkL
    rw [if_pos h, scan2]
  have hl : lnE [100, 114, 111, 112] = 8 := by
    unfold lnE
    rw [show lfY [100, 114, 111, 112] = false by decide +kernel]
    rfl
  have ht : tail 1 [100, 114, 111, 112] = ([], [100, 114, 111, 112]) := tail_stop (by rw [hl]; simp)
  refine ⟨h, ?_, ?_⟩
  · unfold recD kept
    rw [if_pos h, hL]
    simp only [List.length_cons, List.length_nil, Nat.zero_add, ht]
    rfl
  · unfold recL
    rw [if_pos h, hL]
    simp only [List.length_cons, List.length_nil, Nat.zero_add, ht]
    rfl

set_option maxHeartbeats 2000000 in
set_option maxRecDepth 100000 in
theorem filed_any (w : World) (hg : Gl w) : Calls Tryz.prog 10 #[] w fun e w' => e = .returned (.bool true) ∧ Below w.heap.size w w' := by
  have c1 := fun W g => dput_any dk0 rD2 none none none 0 0 0 0 0 0 W g (Sl.ofNil _) (Sl.ofNil _) (SlW.ofNil ec W) rfl rfl rfl (by decide)
  rw [f1.1, f1.2] at c1
  have c2 := fun a1 a2 k1 k2 W g s t => sync_any ⟨[], tD2⟩ a1 a2 k1 k2 0 7 W g s t rfl rfl (by decide)
  rw [f2.1, f2.2] at c2
  have c3 := fun a1 a2 k1 k2 W g s t => dput_any ⟨tD2, []⟩ rD3 a1 a2 none k1 k2 0 7 0 0 W g s t (SlW.ofNil ec W) rfl rfl rfl (by decide)
  rw [f3.1, f3.2] at c3
  have c4 := fun a1 a2 k1 k2 W g s t => crash_any ⟨tD2, tD3⟩ 4 a1 a2 k1 k2 7 7 W g s t rfl rfl (by decide)
  rw [f4.1, f4.2] at c4
  have c5 := fun a1 a2 k1 k2 W g s t => recover_any ⟨tD2, [100, 114, 111, 112]⟩ a1 a2 k1 k2 7 4 W g s t rfl rfl (by decide)
  rw [f5.1, f5.2.1, f5.2.2] at c5
  simp only [rD2, rD3] at c1 c3
  go_enter Tryz.func10, Tryz.ntmps10
  go_wp2_with fail
  go_at_call 5
  refine (c1 _ hg).mono ?_
  rintro e w1 ⟨a1, a2, n1, n2, k1, k2, rfl, hn1, hn2, s1, s2, b1⟩
  obtain rfl : n1 = 0 := hn1
  obtain rfl : n2 = 7 := hn2
  clear c1
  have B := Blk.laid w1 [.slice a1 0 k1, .slice a2 7 k2] 24 _ rfl
  have bel := newB b1 (.cells #[.slice a1 0 k1, .slice a2 7 k2] 24)
  replace s1 := s1.alloc (.cells #[.slice a1 0 k1, .slice a2 7 k2] 24)
  replace s2 := s2.alloc (.cells #[.slice a1 0 k1, .slice a2 7 k2] 24)
  have g := hg.call bel
  have lw : w.heap.size ≤ w1.heap.size := b1.size
  clear b1
  go_upto_region 2 with fail
  generalize w1.heap.size = gD at *
  generalize w1.alloc _ = w2 at *
  have x0 := B.cell 0
  have x1 := B.cell 1
  have lB := B.lt
  go_wp2_with fail
  go_at_call 6
  refine (c2 _ _ _ _ _ g s1 s2).mono ?_
  rintro e w3 ⟨a3, b3, n1, n2, k3, m3, rfl, hn1, hn2, t1, t2, bb⟩
  obtain rfl : n1 = 7 := hn1
  obtain rfl : n2 = 0 := hn2
  clear x0 x1 lB c2
  replace B := B.keep bb B.lt
  replace g := g.call bb
  replace bel := belowCall bel bb
  have x0 := B.cell 0
  have x1 := B.cell 1
  have y0 := B.free 0
  have y1 := B.free 1
  have lB := B.lt
  have B' := put2 B (.slice a3 7 k3) (.slice b3 0 m3)
  have bel' := below2s bel lw (.slice a3 7 k3) (.slice b3 0 m3)
  have s1' := slU_set (i := 1) (slU_set (i := 0) t1 B (slices_plain _ _ _ _ _ _) (.slice a3 7 k3)) (B.set 0 (.slice a3 7 k3)) (slices_plain _ _ _ _ _ _) (.slice b3 0 m3)
  have s2' := slU_set (i := 1) (slU_set (i := 0) t2 B (slices_plain _ _ _ _ _ _) (.slice a3 7 k3)) (B.set 0 (.slice a3 7 k3)) (slices_plain _ _ _ _ _ _) (.slice b3 0 m3)
  clear t1 t2 s1 s2
  go_upto_region 3 with fail
  clear x0 x1 y0 y1 lB B bel bb
  have g' := hg.call bel'
  clear g
  generalize World.setCell (World.setCell w3 _ _) _ _ = v3 at *
  have B := B'
  have bel := bel'
  have s1 := s1'
  have s2 := s2'
  have g := g'
  clear B' bel' s1' s2' g'
  have x0 := B.cell 0
  have x1 := B.cell 1
  have lB := B.lt
  go_wp2_with fail
  go_at_call 5
  refine (c3 _ _ _ _ _ g s1 s2).mono ?_
  rintro e w4 ⟨a4, b4, n1, n2, k4, m4, rfl, hn1, hn2, t1, t2, bb⟩
  obtain rfl : n1 = 7 := hn1
  obtain rfl : n2 = 7 := hn2
  clear x0 x1 lB c3
  replace B := B.keep bb B.lt
  replace g := g.call bb
  replace bel := belowCall bel bb
  have x0 := B.cell 0
  have x1 := B.cell 1
  have y0 := B.free 0
  have y1 := B.free 1
  have lB := B.lt
  have B' := put2 B (.slice a4 7 k4) (.slice b4 7 m4)
  have bel' := below2s bel lw (.slice a4 7 k4) (.slice b4 7 m4)
  have s1' := slU_set (i := 1) (slU_set (i := 0) t1 B (slices_plain _ _ _ _ _ _) (.slice a4 7 k4)) (B.set 0 (.slice a4 7 k4)) (slices_plain _ _ _ _ _ _) (.slice b4 7 m4)
  have s2' := slU_set (i := 1) (slU_set (i := 0) t2 B (slices_plain _ _ _ _ _ _) (.slice a4 7 k4)) (B.set 0 (.slice a4 7 k4)) (slices_plain _ _ _ _ _ _) (.slice b4 7 m4)
  clear t1 t2 s1 s2
  go_upto_region 4 with fail
  clear x0 x1 y0 y1 lB B bel bb
  have g' := hg.call bel'
  clear g
  generalize World.setCell (World.setCell w4 _ _) _ _ = v4 at *
  have B := B'
  have bel := bel'
  have s1 := s1'
  have s2 := s2'
  have g := g'
  clear B' bel' s1' s2' g'
  have x0 := B.cell 0
  have x1 := B.cell 1
  have lB := B.lt
  go_wp2_with fail
  go_at_call 7
  refine (c4 _ _ _ _ _ g s1 s2).mono ?_
  rintro e w5 ⟨a5, b5, n1, n2, k5, m5, rfl, hn1, hn2, t1, t2, bb⟩
  obtain rfl : n1 = 7 := hn1
  obtain rfl : n2 = 4 := hn2
  clear x0 x1 lB c4
  replace B := B.keep bb B.lt
  replace g := g.call bb
  replace bel := belowCall bel bb
  have x0 := B.cell 0
  have x1 := B.cell 1
  have y0 := B.free 0
  have y1 := B.free 1
  have lB := B.lt
  have B' := put2 B (.slice a5 7 k5) (.slice b5 4 m5)
  have bel' := below2s bel lw (.slice a5 7 k5) (.slice b5 4 m5)
  have s1' := slU_set (i := 1) (slU_set (i := 0) t1 B (slices_plain _ _ _ _ _ _) (.slice a5 7 k5)) (B.set 0 (.slice a5 7 k5)) (slices_plain _ _ _ _ _ _) (.slice b5 4 m5)
  have s2' := slU_set (i := 1) (slU_set (i := 0) t2 B (slices_plain _ _ _ _ _ _) (.slice a5 7 k5)) (B.set 0 (.slice a5 7 k5)) (slices_plain _ _ _ _ _ _) (.slice b5 4 m5)
  clear t1 t2 s1 s2
  go_upto_region 5 with fail
  clear x0 x1 y0 y1 lB B bel bb
  have g' := hg.call bel'
  clear g
  generalize World.setCell (World.setCell w5 _ _) _ _ = v5 at *
  have B := B'
  have bel := bel'
  have s1 := s1'
  have s2 := s2'
  have g := g'
  clear B' bel' s1' s2' g'
  have x0 := B.cell 0
  have x1 := B.cell 1
  have lB := B.lt
  go_wp2_with fail
  go_at_call 8
  refine (c5 _ _ _ _ _ g s1 s2).mono ?_
  rintro e w6 ⟨a6, b6, d6, n1, n2, k6, m6, n3, G6, l6, rfl, hn1, hn2, t1, t2, R, hl6, bb⟩
  obtain rfl : n1 = 7 := hn1
  obtain rfl : n2 = 0 := hn2
  obtain ⟨x, rfl, hx⟩ := List.map_eq_singleton_iff.1 hl6
  obtain rfl : n3 = 1 := R.len
  clear x0 x1 lB c5 s1 s2
  replace B := B.keep bb B.lt
  replace bel := belowCall bel bb
  have x0 := B.cell 0
  have x1 := B.cell 1
  have y0 := B.free 0
  have y1 := B.free 1
  have lB := B.lt
  have B' := put2 B (.slice a6 7 k6) (.slice b6 0 m6)
  have bel' := below2s bel lw (.slice a6 7 k6) (.slice b6 0 m6)
  have s1' := slU_set (i := 1) (slU_set (i := 0) t1 B (slices_plain _ _ _ _ _ _) (.slice a6 7 k6)) (B.set 0 (.slice a6 7 k6)) (slices_plain _ _ _ _ _ _) (.slice b6 0 m6)
  have R' := R.set2 B (.slice a6 7 k6) (.slice b6 0 m6)
  clear t1 t2
  go_upto_region 6 with fail
  clear x0 x1 y0 y1 lB B bel bb R
  generalize World.setCell (World.setCell w6 _ _) _ _ = v6 at *
  obtain ⟨a9, G9, e9, S9, _, _⟩ := SlW.ofOwn Lrc.four (by decide) R'.row
  simp only [Value.slice.injEq, true_and] at e9
  obtain ⟨rfl, rfl⟩ := e9
  obtain ⟨bl, ol, rfl, hbl⟩ := S9.where Lrc.four (by decide) (by simp)
  have z2 := S9.cell Lrc.four 0 2 x _ rfl rfl
  rw [hx] at z2
  simp only [Nat.zero_mul, Nat.add_zero, rD2] at z2
  have hcv := run_str s1' (show 7 = _ from rfl)
  have x0 := B'.cell 0
  have x1 := B'.cell 1
  have lB := B'.lt
  go_wp2_with fail
  go_ret
  exact ⟨rfl, bel'⟩

end Go.Proofs.YtabeihkfjlmepaaGreatDoor

/-
  Texts cut behind line feeds, as plain lists: strings.SplitAfter at one line feed, line by line. No program is named.
-/
namespace Go.Proofs.YtabeihkfjlmepaaGreatDoor
open Go.Lib (index splitK count)

/-- The pieces, each with its line feed; the last one without. -/
def pcs : List UInt8 → List (List UInt8)
  | [] => [[]]
  | c :: r => if c = 10 then [10] :: pcs r else (c :: (pcs r).headD []) :: (pcs r).tail

theorem pcs_ne (l : List UInt8) : pcs l ≠ [] := by
  cases l with
  | nil => simp [pcs]
  | cons c r => unfold pcs; split <;> simp

theorem pcs_none : ∀ l : List UInt8, (∀ c ∈ l, c ≠ 10) → pcs l = [l]
  | [], _ => rfl
  | c :: r, h => by
    rw [pcs, if_neg (h c List.mem_cons_self), pcs_none r (fun x hx => h x (List.mem_cons_of_mem _ hx))]
    rfl

theorem pcs_some : ∀ (p q : List UInt8), (∀ c ∈ p, c ≠ 10) → pcs (p ++ 10 :: q) = (p ++ [10]) :: pcs q
  | [], q, _ => by rw [List.nil_append, pcs, if_pos rfl]; rfl
  | c :: r, q, h => by
    rw [List.cons_append, pcs, if_neg (h c List.mem_cons_self), pcs_some r q (fun x hx => h x (List.mem_cons_of_mem _ hx))]
    rfl

theorem split_pcs : ∀ (n : Nat) (l : List UInt8), l.length ≤ n → splitK [10] 1 (count l [10]) l = pcs l := by
  intro n
  induction n with
  | zero =>
    intro l h
    obtain rfl := List.length_eq_zero_iff.1 (Nat.le_zero.1 h)
    rw [Lib.count_miss rfl]
    rfl
  | succ n ih =>
    intro l h
    rcases index_byte 10 l with ⟨h1, h2⟩ | ⟨p, q, rfl, h2, h3⟩
    · rw [Lib.count_miss h1, pcs_none l h2]
      rfl
    · have hd : (p ++ 10 :: q).drop (p.length + 1) = q := by
        rw [show p.length + 1 = (p ++ [10]).length by simp, show p ++ 10 :: q = (p ++ [10]) ++ q by simp, List.drop_left]
      have ht : (p ++ 10 :: q).take (p.length + 1) = p ++ [10] := by
        rw [show p.length + 1 = (p ++ [10]).length by simp, show p ++ 10 :: q = (p ++ [10]) ++ q by simp, List.take_left]
      rw [Lib.count_hit (by simp) h3, Nat.add_comm 1, splitK, h3, pcs_some p q h2]
      have hne : ((p.length : Int) == -1) = false := by simp
      rw [hne]
      simp only [Bool.false_eq_true, if_false, Int.toNat_natCast, List.length_cons, List.length_nil, Nat.zero_add]
      rw [hd, ht, ih q (by simp at h; omega)]

theorem split_pcsB (s : ByteArray) : (Lib.splitB ⟨#[10]⟩ 1 (Lib.countB s ⟨#[10]⟩) s).map bytes = pcs (bytes s) := by
  have h := Lib.splitB_data ⟨#[10]⟩ 1 (Lib.countB s ⟨#[10]⟩) s
  exact h.trans (split_pcs _ (bytes s) (Nat.le_refl _))

/-- The first piece and the rest. -/
theorem pcs_line (l : List UInt8) : pcs l = if lfY l = true then (lfT l ++ [10]) :: pcs (lfB l) else [l] := by
  rcases lf_cases l with ⟨h1, h2, h3, h4⟩ | ⟨h1, h2, h3⟩
  · rw [h1, if_neg (by decide), pcs_none l h4]
  · rw [h1, if_pos rfl]
    conv => lhs; rw [h2]
    exact pcs_some _ _ h3

/-- What is scanned is what the beginning's lines tell. -/
theorem scan_tail : ∀ (n k : Nat) (l : List UInt8), l.length ≤ n → k ≤ 60 → (scan k l).1 = (tail k l).1
  | 0, k, l, h, hk => by
    obtain rfl := List.length_eq_zero_iff.1 (Nat.le_zero.1 h)
    rw [scan_nil, tail_stop (by rw [lnE_nil]; simp)]
  | n + 1, k, l, h, hk => by
    by_cases h0 : l = []
    · subst h0
      rw [scan_nil, tail_stop (by rw [lnE_nil]; simp)]
    by_cases h1 : lnE l = 0
    · by_cases h2 : k = 60
      · subst h2
        rw [scan_many h0 h1, tail_stop (by simp)]
      · have := lnB_less h1
        rw [scan_step h0 h1 h2, tail_step ⟨by omega, h1⟩]
        simp only
        rw [scan_tail n (k + 1) (lnB l) (by omega) (by omega)]
    · rw [scan_bad h0 h1, tail_stop (fun h => h1 h.2)]

end Go.Proofs.YtabeihkfjlmepaaGreatDoor

/-
  strings.Cut at one blank, as plain lists: the first word, and the rest. No program is named.
-/
namespace Go.Proofs.YtabeihkfjlmepaaGreatDoor
open Go.Lib (index cut)

theorem cut_sp (l : List UInt8) : sp l = (cut l [32]).1 :: (if (cut l [32]).2.2 = true then sp (cut l [32]).2.1 else []) := by
  unfold cut
  rcases index_blank l with ⟨h1, h2⟩ | ⟨p, q, rfl, h2, h3⟩
  · rw [h1, if_neg (by decide)]
    simp [sp_none l h2]
  · rw [h3, if_pos (by omega)]
    have hd : (p ++ 32 :: q).drop (p.length + 1) = q := by
      rw [show p.length + 1 = (p ++ [32]).length by simp, show p ++ 32 :: q = (p ++ [32]) ++ q by simp, List.drop_left]
    simp only [Int.toNat_natCast, List.length_cons, List.length_nil, Nat.zero_add, List.take_left, hd, if_true]
    exact sp_some p q h2

theorem cut_less (l : List UInt8) : (cut l [32]).1.length ≤ l.length ∧ (cut l [32]).2.1.length ≤ l.length ∧ ((cut l [32]).2.2 = true → (cut l [32]).2.1.length < l.length) := by
  unfold cut
  rcases index_blank l with ⟨h1, h2⟩ | ⟨p, q, rfl, h2, h3⟩
  · rw [h1, if_neg (by decide)]
    simp
  · rw [h3, if_pos (by omega)]
    simp only [Int.toNat_natCast, List.length_cons, List.length_nil, Nat.zero_add, List.length_take, List.length_drop, List.length_append]
    omega

end Go.Proofs.YtabeihkfjlmepaaGreatDoor

/-
  'in' of the reference: is a number from one to another one; it touches no memory.
-/
namespace Go.Proofs.YtabeihkfjlmepaaGreatDoor
open Go.RowKit

theorem in_any (n a b : Int) (w : World) :
    Calls Tryz.prog 90 #[.int .i64 n, .int .i64 a, .int .i64 b] w fun e w' => e = .returned (.bool (decide (a ≤ n ∧ n ≤ b))) ∧ w = w' := by
  by_cases h1 : a ≤ n
  · by_cases h2 : n ≤ b
    · have e : decide (a ≤ n ∧ n ≤ b) = true := by simp [h1, h2]
      rw [e]
      clear e
      go_enter Tryz.func90, Tryz.ntmps90
      go_wp2
      go_ret
      exact ⟨rfl, rfl⟩
    · have e : decide (a ≤ n ∧ n ≤ b) = false := by simp [h2]
      rw [e]
      clear e
      go_enter Tryz.func90, Tryz.ntmps90
      go_wp2
      go_ret
      exact ⟨rfl, rfl⟩
  · have e : decide (a ≤ n ∧ n ≤ b) = false := by simp [h1]
    rw [e]
    clear e
    go_enter Tryz.func90, Tryz.ntmps90
    go_wp2
    go_ret
    exact ⟨rfl, rfl⟩

end Go.Proofs.YtabeihkfjlmepaaGreatDoor

/-
  The reference's CheckPoint: whether a point is in range.
-/
namespace Go.Proofs.YtabeihkfjlmepaaGreatDoor
open Go.RowKit

theorem refPoint_any (x y : Int) (w : World) :
    Calls Tryz.prog 91 #[.agg #[.int .i64 x, .int .i64 y]] w fun e w' => e = .returned (.int .i64 (if ptOk (x, y) = false then 3 else 0)) ∧ Below w.heap.size w w' := by
  by_cases h1 : 0 ≤ x ∧ x ≤ 100000
  · have i1 := fun W => in_any x 0 100000 W
    rw [decide_eq_true h1] at i1
    by_cases h2 : -1000000 ≤ y ∧ y ≤ 1000000
    · have i2 := fun W => in_any y (-1000000) 1000000 W
      rw [decide_eq_true h2] at i2
      have e : ptOk (x, y) = true := decide_eq_true ⟨h1.1, h1.2, h2⟩
      rw [e, if_neg (by decide)]
      clear e h1 h2
      go_enter Tryz.func91, Tryz.ntmps91
      go_wp2_with fail
      go_at_call 90
      refine (i1 _).mono ?_
      rintro e w1 ⟨rfl, rfl⟩
      go_wp2_with fail
      go_at_call 90
      refine (i2 _).mono ?_
      rintro e w2 ⟨rfl, rfl⟩
      go_wp2_with fail
      go_ret
      exact ⟨rfl, (Below.refl _ _).alloc (Nat.le_refl _) _⟩
    · have i2 := fun W => in_any y (-1000000) 1000000 W
      rw [decide_eq_false h2] at i2
      have e : ptOk (x, y) = false := decide_eq_false (fun h => h2 h.2.2)
      rw [e, if_pos rfl]
      clear e h1 h2
      go_enter Tryz.func91, Tryz.ntmps91
      go_wp2_with fail
      go_at_call 90
      refine (i1 _).mono ?_
      rintro e w1 ⟨rfl, rfl⟩
      go_wp2_with fail
      go_at_call 90
      refine (i2 _).mono ?_
      rintro e w2 ⟨rfl, rfl⟩
      go_wp2_with fail
      go_ret
      exact ⟨rfl, (Below.refl _ _).alloc (Nat.le_refl _) _⟩
  · have i1 := fun W => in_any x 0 100000 W
    rw [decide_eq_false h1] at i1
    have e : ptOk (x, y) = false := decide_eq_false (fun h => h1 ⟨h.1, h.2.1⟩)
    rw [e, if_pos rfl]
    clear e h1
    go_enter Tryz.func91, Tryz.ntmps91
    go_wp2_with fail
    go_at_call 90
    refine (i1 _).mono ?_
    rintro e w1 ⟨rfl, rfl⟩
    go_wp2_with fail
    go_ret
    exact ⟨rfl, (Below.refl _ _).alloc (Nat.le_refl _) _⟩

end Go.Proofs.YtabeihkfjlmepaaGreatDoor

/-
  The reference's CheckRec: what is wrong with a record.
-/
namespace Go.Proofs.YtabeihkfjlmepaaGreatDoor
open Go.RowKit

theorem ntOk_split (x : Nt) : ntOk x = (decide (0 ≤ x.1 ∧ x.1 ≤ 3) && ptOk (x.2.1, x.2.2)) := by
  unfold ntOk ptOk
  rw [Bool.eq_iff_iff]
  simp only [decide_eq_true_eq, Bool.and_eq_true]
  omega

set_option maxHeartbeats 1000000 in
set_option maxRecDepth 100000 in
theorem rcheck_loop (l : List Nt) (a : Option Addr) (cap n : Nat) (w : World) (S : SlW ec w a cap l) (hn : n = l.length) (few : n ≤ 10) :
    Calls Tryz.prog 55 #[.agg #[.int .i64 1, .int .i64 0, .int .i64 0, .slice a n cap]] w fun e w' => e = .returned (.int .i64 (if l.all ntOk then 0 else 3)) ∧ Below w.heap.size w w' := by
  obtain ⟨E, hE⟩ : ∃ E : Int, E = if l.all ntOk then 0 else 3 := ⟨_, rfl⟩
  rw [← hE]
  replace hE := hide hE
  replace hn := hide hn
  have bel : Below w.heap.size w (w.alloc (.cells #[.int .i64 1, .int .i64 0, .int .i64 0, .slice a n cap] 27)) := (Below.refl _ _).alloc (Nat.le_refl _) _
  have few' : ¬ (10 : Int) < n := by omega
  have c1 := fun W => in_any 1 1 4 W
  have c2 := fun W => in_any 0 0 3 W
  have c3 := fun W => in_any 0 0 100001 W
  rw [decide_eq_true (by omega)] at c1 c2 c3
  go_enter Tryz.func55, Tryz.ntmps55
  go_wp2_with fail
  go_at_call 90
  refine (c1 _).mono ?_
  rintro e w2 ⟨rfl, rfl⟩
  go_wp2_with fail
  go_at_call 90
  refine (c2 _).mono ?_
  rintro e w2 ⟨rfl, rfl⟩
  go_wp2_with fail
  go_at_call 90
  refine (c3 _).mono ?_
  rintro e w2 ⟨rfl, rfl⟩
  go_wp2_with fail
  generalize w.alloc _ = w1 at *
  go_loopw [59] (fun i wr => ∃ (k : Nat), k ≤ n ∧ i = .int .i64 k ∧ Hid ((l.take k).all ntOk = true) ∧ Below w.heap.size w wr) (fun i _ => n - (intOf i).toNat)
  case atStart => exact ⟨0, Nat.zero_le _, rfl, hide (by simp), bel⟩
  case round =>
    clear bel
    obtain ⟨k, hk, rfl, hA, bel⟩ := hrel
    by_cases hlt : k < n
    · have hkl : k < l.length := by rw [← hn.out]; exact hlt
      obtain ⟨b1, o1, rfl, hb1l⟩ := S.where ec_three (by decide) (by intro h; subst h; simp at hkl)
      obtain ⟨x, hx⟩ : ∃ x, l[k]? = some x := ⟨_, List.getElem?_eq_getElem hkl⟩
      have s1 := S.keep bel (Nat.le_refl _)
      have d0 := s1.cell ec_three k 0 x _ hx rfl
      have d1 := s1.cell ec_three k 1 x _ hx rfl
      have d2 := s1.cell ec_three k 2 x _ hx rfl
      simp only [Nat.add_zero] at d0
      have hno : ntOk x = false → E = 3 := by
        intro h
        rw [hE.out, if_neg]
        intro hall
        have := List.all_eq_true.1 hall x (List.mem_of_getElem? hx)
        rw [h] at this
        cases this
      have hyes : ntOk x = true → Hid ((l.take (k + 1)).all ntOk = true) := by
        intro h
        rw [List.take_add_one, hx, List.all_append, hA.out]
        simpa [Hid] using h
      have hsp := ntOk_split x
      obtain ⟨xs, xt, xv⟩ := x
      simp only at *
      replace hx := hide hx
      clear s1 hkl c1 c2 c3
      have BX := Blk.laid wr [.int .i64 xs, .int .i64 xt, .int .i64 xv] 68 _ rfl
      have bX := newB bel (.cells #[.int .i64 xs, .int .i64 xt, .int .i64 xv] 68)
      have c1 := fun W => in_any xs 0 3 W
      have c2 := fun W => refPoint_any xt xv W
      by_cases hs : 0 ≤ xs ∧ xs ≤ 3
      · rw [decide_eq_true hs] at c1 hsp
        rw [Bool.true_and] at hsp
        rw [← hsp] at c2
        by_cases hok : ntOk (xs, xt, xv) = true
        · rw [hok, if_neg (by decide)] at c2
          have hY := hyes hok
          clear hno hyes hok hs hsp
          go_wp2_with fail
          go_at_call 90
          refine (c1 _).mono ?_
          rintro e w2 ⟨rfl, rfl⟩
          generalize wr.alloc _ = w2 at *
          have z1 : w2.cell? ⟨wr.heap.size, 1, none⟩ = some (.int .i64 xt) := BX.cell 1
          have z2 : w2.cell? ⟨wr.heap.size, 2, none⟩ = some (.int .i64 xv) := BX.cell 2
          have lX := BX.lt
          clear c1
          go_wp2_with fail
          go_at_call 91
          refine (c2 _).mono ?_
          rintro e w3 ⟨rfl, b3⟩
          have bel3 := belowCall bX b3
          go_wp2_with fail
          go_roundw
          case rel => exact ⟨k + 1, by omega, by go_num, hY, bel3⟩
          case measure => simp [intOf]; omega
        · have hok' : ntOk (xs, xt, xv) = false := by simpa using hok
          rw [hok', if_pos rfl] at c2
          obtain rfl := hno hok'
          clear hno hyes hok hs hsp hok'
          go_wp2_with fail
          go_at_call 90
          refine (c1 _).mono ?_
          rintro e w2 ⟨rfl, rfl⟩
          generalize wr.alloc _ = w2 at *
          have z1 : w2.cell? ⟨wr.heap.size, 1, none⟩ = some (.int .i64 xt) := BX.cell 1
          have z2 : w2.cell? ⟨wr.heap.size, 2, none⟩ = some (.int .i64 xv) := BX.cell 2
          have lX := BX.lt
          clear c1
          go_wp2_with fail
          go_at_call 91
          refine (c2 _).mono ?_
          rintro e w3 ⟨rfl, b3⟩
          have bel3 := belowCall bX b3
          go_wp2_with fail
          go_ret
          exact ⟨rfl, bel3⟩
      · rw [decide_eq_false hs] at c1 hsp
        rw [Bool.false_and] at hsp
        obtain rfl := hno hsp
        clear hno hyes hs hsp c2
        go_wp2_with fail
        go_at_call 90
        refine (c1 _).mono ?_
        rintro e w2 ⟨rfl, rfl⟩
        go_wp2_with fail
        go_ret
        exact ⟨rfl, bX⟩
    · obtain rfl : n = k := by omega
      obtain rfl : E = 0 := by
        have := hA.out
        rw [List.take_of_length_le (by rw [← hn.out]; exact Nat.le_refl _)] at this
        rw [hE.out, if_pos this]
      go_wp2_with fail
      go_ret
      exact ⟨rfl, bel⟩

set_option maxHeartbeats 1000000 in
set_option maxRecDepth 100000 in
theorem rcheck_one (s m : Int) (l : List Nt) (a : Option Addr) (cap n : Nat) (w : World) (S : SlW ec w a cap l) (hn : n = l.length) :
    Calls Tryz.prog 55 #[.agg #[.int .i64 1, .int .i64 s, .int .i64 m, .slice a n cap]] w fun e w' => e = .returned (.int .i64 (if s ≠ 0 ∨ m ≠ 0 then 4 else if 10 < l.length then 2 else if l.all ntOk then 0 else 3)) ∧ Below w.heap.size w w' := by
  have c1 := fun W => in_any 1 1 4 W
  rw [decide_eq_true (by omega)] at c1
  have bel := newB (Below.refl w.heap.size w) (.cells #[.int .i64 1, .int .i64 s, .int .i64 m, .slice a n cap] 27)
  by_cases hs : s = 0
  · subst hs
    by_cases hm : m = 0
    · subst hm
      rw [if_neg (by simp)]
      by_cases h10 : 10 < n
      · rw [if_pos (by rw [← hn]; exact h10)]
        have h10' : (10 : Int) < n := by omega
        replace hn := hide hn
        go_enter Tryz.func55, Tryz.ntmps55
        go_wp2_with fail
        go_at_call 90
        refine (c1 _).mono ?_
        rintro e w2 ⟨rfl, rfl⟩
        go_wp2_with fail
        go_ret
        exact ⟨rfl, bel⟩
      · rw [if_neg (by rw [← hn]; exact h10)]
        exact rcheck_loop l a cap n w S hn (by omega)
    · rw [if_pos (.inr hm)]
      replace hn := hide hn
      have hm' : decide (m = 0) = false := decide_eq_false hm
      go_enter Tryz.func55, Tryz.ntmps55
      go_wp2_with fail
      go_at_call 90
      refine (c1 _).mono ?_
      rintro e w2 ⟨rfl, rfl⟩
      go_wp2_with fail
      go_ret
      exact ⟨rfl, bel⟩
  · rw [if_pos (.inl hs)]
    replace hn := hide hn
    have hs' : decide (s = 0) = false := decide_eq_false hs
    go_enter Tryz.func55, Tryz.ntmps55
    go_wp2_with fail
    go_at_call 90
    refine (c1 _).mono ?_
    rintro e w2 ⟨rfl, rfl⟩
    go_wp2_with fail
    go_ret
    exact ⟨rfl, bel⟩

set_option maxHeartbeats 1000000 in
set_option maxRecDepth 100000 in
theorem rcheck_2 (s m : Int) (l : List Nt) (a : Option Addr) (cap n : Nat) (w : World) (hn : n = l.length) :
    Calls Tryz.prog 55 #[.agg #[.int .i64 2, .int .i64 s, .int .i64 m, .slice a n cap]] w fun e w' => e = .returned (.int .i64 (plainE 2 s m l)) ∧ Below w.heap.size w w' := by
  have c1 := fun W => in_any 2 1 4 W
  rw [decide_eq_true (by omega)] at c1
  have c2 := fun W => in_any s 0 3 W
  have c3 := fun W => in_any m 0 100001 W
  have bel := newB (Below.refl w.heap.size w) (.cells #[.int .i64 2, .int .i64 s, .int .i64 m, .slice a n cap] 27)
  obtain ⟨E, hE⟩ : ∃ E, E = plainE 2 s m l := ⟨_, rfl⟩
  rw [← hE]
  unfold plainE at hE
  by_cases h0 : n = 0
  · subst h0
    obtain rfl := List.length_eq_zero_iff.1 hn.symm
    clear hn
    rw [if_neg (by simp)] at hE
    by_cases hs : 0 ≤ s ∧ s ≤ 3
    · rw [decide_eq_true hs] at c2
      by_cases hm : 0 ≤ m ∧ m ≤ 100001
      · rw [decide_eq_true hm] at c3
        obtain rfl : E = 0 := by rw [hE, if_pos (by omega)]
        clear hE hm hs
        go_enter Tryz.func55, Tryz.ntmps55
        go_wp2_with fail
        go_at_call 90
        refine (c1 _).mono ?_
        rintro e w2 ⟨rfl, rfl⟩
        go_wp2_with fail
        go_at_call 90
        refine (c2 _).mono ?_
        rintro e w3 ⟨rfl, rfl⟩
        go_wp2_with fail
        go_at_call 90
        refine (c3 _).mono ?_
        rintro e w4 ⟨rfl, rfl⟩
        go_wp2_with fail
        generalize w.alloc _ = w1 at *
        go_loopw [59] (fun i wr => i = .int .i64 0 ∧ wr = w1) (fun _ _ => 0)
        case atStart => exact ⟨rfl, rfl⟩
        case round =>
          obtain ⟨rfl, rfl⟩ := hrel
          go_wp2_with fail
          go_ret
          exact ⟨rfl, bel⟩
      · rw [decide_eq_false hm] at c3
        obtain rfl : E = 3 := by rw [hE, if_neg (by omega)]
        clear hE hm hs
        go_enter Tryz.func55, Tryz.ntmps55
        go_wp2_with fail
        go_at_call 90
        refine (c1 _).mono ?_
        rintro e w2 ⟨rfl, rfl⟩
        go_wp2_with fail
        go_at_call 90
        refine (c2 _).mono ?_
        rintro e w3 ⟨rfl, rfl⟩
        go_wp2_with fail
        go_at_call 90
        refine (c3 _).mono ?_
        rintro e w4 ⟨rfl, rfl⟩
        go_wp2_with fail
        go_ret
        exact ⟨rfl, bel⟩
    · rw [decide_eq_false hs] at c2
      obtain rfl : E = 3 := by rw [hE, if_neg (by omega)]
      clear hE hs
      go_enter Tryz.func55, Tryz.ntmps55
      go_wp2_with fail
      go_at_call 90
      refine (c1 _).mono ?_
      rintro e w2 ⟨rfl, rfl⟩
      go_wp2_with fail
      go_at_call 90
      refine (c2 _).mono ?_
      rintro e w3 ⟨rfl, rfl⟩
      go_wp2_with fail
      go_ret
      exact ⟨rfl, bel⟩
  · obtain rfl : E = 4 := by rw [hE, if_pos (.inl (by intro h; subst h; exact h0 hn))]
    clear hE
    have hp : (0 : Int) < n := by omega
    have hd : decide (0 < n) = true := decide_eq_true (by omega)
    replace hn := hide hn
    go_enter Tryz.func55, Tryz.ntmps55
    go_wp2_with fail
    go_at_call 90
    refine (c1 _).mono ?_
    rintro e w2 ⟨rfl, rfl⟩
    go_wp2_with fail
    go_ret
    exact ⟨rfl, bel⟩

set_option maxHeartbeats 1000000 in
set_option maxRecDepth 100000 in
theorem rcheck_3 (s m : Int) (l : List Nt) (a : Option Addr) (cap n : Nat) (w : World) (hn : n = l.length) :
    Calls Tryz.prog 55 #[.agg #[.int .i64 3, .int .i64 s, .int .i64 m, .slice a n cap]] w fun e w' => e = .returned (.int .i64 (plainE 3 s m l)) ∧ Below w.heap.size w w' := by
  have c1 := fun W => in_any 3 1 4 W
  rw [decide_eq_true (by omega)] at c1
  have c2 := fun W => in_any s 0 3 W
  have c3 := fun W => in_any m 0 100001 W
  have bel := newB (Below.refl w.heap.size w) (.cells #[.int .i64 3, .int .i64 s, .int .i64 m, .slice a n cap] 27)
  obtain ⟨E, hE⟩ : ∃ E, E = plainE 3 s m l := ⟨_, rfl⟩
  rw [← hE]
  unfold plainE at hE
  by_cases h0 : n = 0
  · subst h0
    obtain rfl := List.length_eq_zero_iff.1 hn.symm
    clear hn
    rw [if_neg (by simp)] at hE
    by_cases hs : 0 ≤ s ∧ s ≤ 3
    · rw [decide_eq_true hs] at c2
      by_cases hm : 0 ≤ m ∧ m ≤ 100001
      · rw [decide_eq_true hm] at c3
        obtain rfl : E = 0 := by rw [hE, if_pos (by omega)]
        clear hE hm hs
        go_enter Tryz.func55, Tryz.ntmps55
        go_wp2_with fail
        go_at_call 90
        refine (c1 _).mono ?_
        rintro e w2 ⟨rfl, rfl⟩
        go_wp2_with fail
        go_at_call 90
        refine (c2 _).mono ?_
        rintro e w3 ⟨rfl, rfl⟩
        go_wp2_with fail
        go_at_call 90
        refine (c3 _).mono ?_
        rintro e w4 ⟨rfl, rfl⟩
        go_wp2_with fail
        generalize w.alloc _ = w1 at *
        go_loopw [59] (fun i wr => i = .int .i64 0 ∧ wr = w1) (fun _ _ => 0)
        case atStart => exact ⟨rfl, rfl⟩
        case round =>
          obtain ⟨rfl, rfl⟩ := hrel
          go_wp2_with fail
          go_ret
          exact ⟨rfl, bel⟩
      · rw [decide_eq_false hm] at c3
        obtain rfl : E = 3 := by rw [hE, if_neg (by omega)]
        clear hE hm hs
        go_enter Tryz.func55, Tryz.ntmps55
        go_wp2_with fail
        go_at_call 90
        refine (c1 _).mono ?_
        rintro e w2 ⟨rfl, rfl⟩
        go_wp2_with fail
        go_at_call 90
        refine (c2 _).mono ?_
        rintro e w3 ⟨rfl, rfl⟩
        go_wp2_with fail
        go_at_call 90
        refine (c3 _).mono ?_
        rintro e w4 ⟨rfl, rfl⟩
        go_wp2_with fail
        go_ret
        exact ⟨rfl, bel⟩
    · rw [decide_eq_false hs] at c2
      obtain rfl : E = 3 := by rw [hE, if_neg (by omega)]
      clear hE hs
      go_enter Tryz.func55, Tryz.ntmps55
      go_wp2_with fail
      go_at_call 90
      refine (c1 _).mono ?_
      rintro e w2 ⟨rfl, rfl⟩
      go_wp2_with fail
      go_at_call 90
      refine (c2 _).mono ?_
      rintro e w3 ⟨rfl, rfl⟩
      go_wp2_with fail
      go_ret
      exact ⟨rfl, bel⟩
  · obtain rfl : E = 4 := by rw [hE, if_pos (.inl (by intro h; subst h; exact h0 hn))]
    clear hE
    have hp : (0 : Int) < n := by omega
    have hd : decide (0 < n) = true := decide_eq_true (by omega)
    replace hn := hide hn
    go_enter Tryz.func55, Tryz.ntmps55
    go_wp2_with fail
    go_at_call 90
    refine (c1 _).mono ?_
    rintro e w2 ⟨rfl, rfl⟩
    go_wp2_with fail
    go_ret
    exact ⟨rfl, bel⟩

set_option maxHeartbeats 1000000 in
set_option maxRecDepth 100000 in
theorem rcheck_4 (s m : Int) (l : List Nt) (a : Option Addr) (cap n : Nat) (w : World) (hn : n = l.length) :
    Calls Tryz.prog 55 #[.agg #[.int .i64 4, .int .i64 s, .int .i64 m, .slice a n cap]] w fun e w' => e = .returned (.int .i64 (plainE 4 s m l)) ∧ Below w.heap.size w w' := by
  have c1 := fun W => in_any 4 1 4 W
  rw [decide_eq_true (by omega)] at c1
  have c2 := fun W => in_any s 0 3 W
  have c3 := fun W => in_any m 0 100001 W
  have bel := newB (Below.refl w.heap.size w) (.cells #[.int .i64 4, .int .i64 s, .int .i64 m, .slice a n cap] 27)
  obtain ⟨E, hE⟩ : ∃ E, E = plainE 4 s m l := ⟨_, rfl⟩
  rw [← hE]
  unfold plainE at hE
  by_cases h0 : n = 0
  · subst h0
    obtain rfl := List.length_eq_zero_iff.1 hn.symm
    clear hn
    by_cases hs : s = 0
    · subst hs
      rw [decide_eq_true (by omega)] at c2
      rw [if_neg (by simp)] at hE
      by_cases hm : 0 ≤ m ∧ m ≤ 100001
      · rw [decide_eq_true hm] at c3
        obtain rfl : E = 0 := by rw [hE, if_pos (by omega)]
        clear hE hm
        go_enter Tryz.func55, Tryz.ntmps55
        go_wp2_with fail
        go_at_call 90
        refine (c1 _).mono ?_
        rintro e w2 ⟨rfl, rfl⟩
        go_wp2_with fail
        go_at_call 90
        refine (c2 _).mono ?_
        rintro e w3 ⟨rfl, rfl⟩
        go_wp2_with fail
        go_at_call 90
        refine (c3 _).mono ?_
        rintro e w4 ⟨rfl, rfl⟩
        go_wp2_with fail
        generalize w.alloc _ = w1 at *
        go_loopw [59] (fun i wr => i = .int .i64 0 ∧ wr = w1) (fun _ _ => 0)
        case atStart => exact ⟨rfl, rfl⟩
        case round =>
          obtain ⟨rfl, rfl⟩ := hrel
          go_wp2_with fail
          go_ret
          exact ⟨rfl, bel⟩
      · rw [decide_eq_false hm] at c3
        obtain rfl : E = 3 := by rw [hE, if_neg (by omega)]
        clear hE hm
        go_enter Tryz.func55, Tryz.ntmps55
        go_wp2_with fail
        go_at_call 90
        refine (c1 _).mono ?_
        rintro e w2 ⟨rfl, rfl⟩
        go_wp2_with fail
        go_at_call 90
        refine (c2 _).mono ?_
        rintro e w3 ⟨rfl, rfl⟩
        go_wp2_with fail
        go_at_call 90
        refine (c3 _).mono ?_
        rintro e w4 ⟨rfl, rfl⟩
        go_wp2_with fail
        go_ret
        exact ⟨rfl, bel⟩
    · obtain rfl : E = 4 := by rw [hE, if_pos (.inr ⟨rfl, hs⟩)]
      have hs' : decide (s = 0) = false := decide_eq_false hs
      clear hE
      go_enter Tryz.func55, Tryz.ntmps55
      go_wp2_with fail
      go_at_call 90
      refine (c1 _).mono ?_
      rintro e w2 ⟨rfl, rfl⟩
      go_wp2_with fail
      go_ret
      exact ⟨rfl, bel⟩
  · obtain rfl : E = 4 := by rw [hE, if_pos (.inl (by intro h; subst h; exact h0 hn))]
    clear hE
    have hp : (0 : Int) < n := by omega
    have hd : decide (0 < n) = true := decide_eq_true (by omega)
    replace hn := hide hn
    go_enter Tryz.func55, Tryz.ntmps55
    go_wp2_with fail
    go_at_call 90
    refine (c1 _).mono ?_
    rintro e w2 ⟨rfl, rfl⟩
    go_wp2_with fail
    go_ret
    exact ⟨rfl, bel⟩

set_option maxHeartbeats 1000000 in
set_option maxRecDepth 100000 in
theorem rcheck_is (r : Rc) (a : Option Addr) (cap n : Nat) (w : World) (S : SlW ec w a cap r.e) (hn : n = r.e.length) :
    Calls Tryz.prog 55 #[.agg #[.int .i64 r.k, .int .i64 r.s, .int .i64 r.n, .slice a n cap]] w fun e w' => e = .returned (.int .i64 (recE r)) ∧ Below w.heap.size w w' := by
  obtain ⟨k, s, m, l⟩ := r
  simp only at *
  by_cases h1 : k = 1
  · subst h1
    exact rcheck_one s m l a cap n w S hn
  by_cases h2 : k = 2 ∨ k = 3 ∨ k = 4
  · rw [show recE ⟨k, s, m, l⟩ = plainE k s m l by unfold recE plainE; rw [if_neg h1, if_pos h2]]
    rcases h2 with rfl | rfl | rfl
    · exact rcheck_2 s m l a cap n w hn
    · exact rcheck_3 s m l a cap n w hn
    · exact rcheck_4 s m l a cap n w hn
  · rw [show recE ⟨k, s, m, l⟩ = 4 by unfold recE; rw [if_neg h1, if_neg h2]]
    have c1 := fun W => in_any k 1 4 W
    rw [decide_eq_false (by omega)] at c1
    have bel := newB (Below.refl w.heap.size w) (.cells #[.int .i64 k, .int .i64 s, .int .i64 m, .slice a n cap] 27)
    clear h1 h2
    replace hn := hide hn
    go_enter Tryz.func55, Tryz.ntmps55
    go_wp2_with fail
    go_at_call 90
    refine (c1 _).mono ?_
    rintro e w2 ⟨rfl, rfl⟩
    go_wp2_with fail
    go_ret
    exact ⟨rfl, bel⟩

end Go.Proofs.YtabeihkfjlmepaaGreatDoor
