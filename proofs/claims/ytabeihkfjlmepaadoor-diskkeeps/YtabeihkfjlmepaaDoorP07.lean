/-
  Slices of bytes: bytes.Equal, the conversion to a string, disk.join, disk.size.
-/
import Derived.Laws.CopyOwn
import Derived.Shelf.Bytes.SlEqualAll
import Derived.Lib.Split
import Derived.Test.YtabeihkfjlmepaaDoorP04
import Derived.Test.YtabeihkfjlmepaaDoorP06
import Derived.Test.YtabeihkfjlmepaaDoorP03
import Derived.Test.YtabeihkfjlmepaaDoorP05
namespace Go.Proofs.YtabeihkfjlmepaaDoor
open Go.RowKit
open Go.Lib (byteCells)

theorem bytesIn {w : World} {a : Option Addr} {cap : Nat} {l : List UInt8} (S : Sl w a cap (byteCells l)) : Lib.BytesIn w a l.length (l.map fun b => (b.toNat : Int)) := by
  intro hn
  obtain ⟨b, o, e, _, hc⟩ := S.row.at (by intro h; have := congrArg List.length h; simp [byteCells] at this; subst this; simp at hn)
  refine ⟨b, o, e, fun i hi => ?_⟩
  have := hc i (.int .u8 (l[i].toNat)) (by simp [byteCells, hi])
  rw [this]
  simp [List.getD, hi]

theorem bytesOf_back (l : List UInt8) : Lib.bytesOf (l.map fun b => (b.toNat : Int)) = l := by
  unfold Lib.bytesOf
  rw [List.map_map]
  conv => rhs; rw [← List.map_id l]
  refine List.map_congr_left (fun b _ => ?_)
  simp

theorem bequal_any (a1 a2 : Option Addr) (c1 c2 n1 n2 : Nat) (l m : List UInt8) (w : World) (s1 : Sl w a1 c1 (byteCells l)) (s2 : Sl w a2 c2 (byteCells m)) (h1 : n1 = l.length) (h2 : n2 = m.length) :
    Calls Tryd.prog 44 #[.slice a1 n1 c1, .slice a2 n2 c2] w fun e w' => e = .returned (.bool (decide (l = m))) ∧ w' = w := by
  subst h1 h2
  refine (Tryd.bytes_Equal_all a1 a2 l.length c1 m.length c2 _ _ w (by simp) (by simp) (bytesIn s1) (bytesIn s2)).mono ?_
  rintro e w' ⟨rfl, rfl⟩
  rw [bytesOf_back, bytesOf_back]
  refine ⟨?_, rfl⟩
  congr 2
  rw [Bool.eq_iff_iff]
  simp

theorem strOf_back (l : List UInt8) : strOfNums (l.map fun b => (b.toNat : Int)) = ⟨l.toArray⟩ := by
  have h := Lib.strOfNums_toList (l.map fun b => (b.toNat : Int))
  rw [bytesOf_back, toList_bytes] at h
  exact (bytes_eq.2 h.symm).symm

theorem run_str {w : World} {a : Option Addr} {cap n : Nat} {l : List UInt8} (S : Sl w a cap (byteCells l)) (hn : n = l.length) :
    (convert 35 9 (.slice a n cap)).run Tryd.prog w = .ok (.string ⟨l.toArray⟩) w := by
  subst hn
  rw [Lib.BytesIn.convert (bytesIn S) (by simp) cap 35 5 9 Tryd.underlying35 Tryd.underlying5 Tryd.underlying9, strOf_back]

theorem infoU : (Tryd.prog.info? 5).map (fun i => (i.zero, i.size, i.bytes)) = some (some (.int .u8 0), 1, 1) := by kernel_rfl

theorem byteCells_one (l : List UInt8) : ∀ v ∈ byteCells l, v.oneCell' = true := by
  intro v hv
  obtain ⟨b, _, rfl⟩ := List.mem_map.1 hv
  rfl

theorem madeU {w' : World} {g n : Nat} {cs : List Value} {t : TypeId} (h : w'.ownsRow g t 1 (.slice (some ⟨g, 0, none⟩) n n) n cs) : ∃ L : List Value, L.length = n ∧ Blk w' g L t := by
  rcases h.2 with ⟨h', _⟩ | ⟨g', cap', cur, h', _, hg, _, _, hs, htake⟩
  · simp at h'
  · simp only [Value.slice.injEq, Option.some.injEq, Addr.mk.injEq, and_true, true_and] at h'
    obtain ⟨rfl, rfl⟩ := h'
    exact ⟨cur.toList, by simp [hs], by unfold Blk; simpa using hg⟩

theorem splice_two {α : Type} (Z X Y : List α) (k : Nat) (hk : X.length = k) (hZ : Z.length = k + Y.length) : splice (splice Z 0 X) k Y = X ++ Y := by
  subst hk
  have e1 : splice Z 0 X = X ++ Z.drop X.length := by simp [splice]
  rw [e1]
  unfold splice
  rw [List.take_left' rfl, List.drop_eq_nil_of_le (by simp; omega), List.append_nil]

theorem Sl.srcU {w : World} {ao : Option Addr} {cap : Nat} {cs : List Value} (h : Sl w ao cap cs) : 0 < cs.length → ∃ ad, ao = some ad ∧ ∀ j v, cs[j]? = some v → w.cell? (ad.add j) = some v := by
  intro hp
  obtain ⟨b, off, e, _, hc⟩ := h.row.at (by intro e; rw [e] at hp; simp at hp)
  exact ⟨_, e, fun j v hv => by rw [Addr.add_lit]; exact hc j v hv⟩

set_option maxHeartbeats 1000000 in
set_option maxRecDepth 100000 in
theorem join_any (a1 a2 : Option Addr) (c1 c2 n1 n2 : Nat) (l m : List UInt8) (w : World) (s1 : Sl w a1 c1 (byteCells l)) (s2 : Sl w a2 c2 (byteCells m)) (h1 : n1 = l.length) (h2 : n2 = m.length) (few : n1 + n2 ≤ 1000000) :
    Calls Tryd.prog 40 #[.slice a1 n1 c1, .slice a2 n2 c2] w fun e w' => e = .returned (.slice (some ⟨w.heap.size, 0, none⟩) (n1 + n2) (n1 + n2)) ∧ Blk w' w.heap.size (byteCells (l ++ m)) 5 ∧ Below w.heap.size w w' := by
  obtain ⟨i0, hi, hz0, hz1, hz2⟩ := info_parts infoU
  obtain ⟨N, hN⟩ : ∃ N, N = n1 + n2 := ⟨_, rfl⟩
  have hNi : IntKind.i64.wrap ((n1 : Int) + (n2 : Int)) = (N : Int) := by rw [IntKind.wrap_i64]; omega
  have hNi' : (n1 : Int) + (n2 : Int) = (N : Int) := by omega
  obtain ⟨w1, hr, own, gr⟩ := run_make_full (P := Tryd.prog) (w := w) w.heap.size 35 5 i0 (.int .u8 0) 1 Tryd.underlying35 hi hz0 hz1 .i64 .i64 N (by rw [hz2]; omega) (by unfold maxLen; omega) (Nat.le_refl _)
  obtain ⟨L, hL, B0⟩ := madeU own
  have bel : Below w.heap.size w w1 := (Below.refl _ _).grown gr (Nat.le_refl _) (fun k h => by cases h)
  have t1 := s1.keep bel (Nat.le_refl _)
  obtain ⟨X, hX⟩ : ∃ X, X = byteCells l := ⟨_, rfl⟩
  obtain ⟨Y, hY⟩ : ∃ Y, Y = byteCells m := ⟨_, rfl⟩
  have lX : X.length = n1 := by rw [hX, h1]; simp [byteCells]
  have lY : Y.length = n2 := by rw [hY, h2]; simp [byteCells]
  have oX := byteCells_one l
  have oY := byteCells_one m
  have hXY : byteCells (l ++ m) = X ++ Y := by rw [hX, hY]; simp [byteCells]
  rw [hXY]
  rw [← hX] at t1 oX s1
  rw [← hY] at s2 oY
  have hsz : (Tryd.prog.info? 5).map (·.size) = some 1 := by rw [hi]; simp [hz1]
  have p1 : 0 < X.length → some (⟨w.heap.size, 0, none⟩ : Addr) = some ⟨w.heap.size, 0, none⟩ ∧ ∃ ad, a1 = some ad ∧ ∀ j v, X[j]? = some v → w1.cell? (ad.add j) = some v := fun h => ⟨rfl, t1.srcU h⟩
  have m1 : X.length = Nat.min n1 N := by rw [lX]; exact (Nat.min_eq_left (by omega)).symm
  have f1 : 0 + X.length ≤ L.length := by rw [lX, hL]; omega
  have hsp : splice (splice L 0 X) n1 Y = X ++ Y := splice_two L X Y n1 lX (by rw [hL, lY]; exact hN)
  have f2 : n1 + Y.length ≤ (splice L 0 X).length := by rw [length_splice _ _ _ f1, hL, lY]; omega
  have m2 : Y.length = Nat.min n2 (N - n1) := by rw [lY]; exact (Nat.min_eq_left (by omega)).symm
  replace p1 := hide p1
  replace hsp := hide hsp
  replace m1 := hide m1
  replace m2 := hide m2
  replace f1 := hide f1
  replace f2 := hide f2
  replace lX := hide lX
  replace lY := hide lY
  replace h1 := hide h1
  replace h2 := hide h2
  replace hL := hide hL
  rw [← hN]
  replace hN := hide hN
  clear hX hY hXY own gr
  go_enter Tryd.func40, Tryd.ntmps40
  go_upto_region 2 with fail
  go_wp2_with (refine wpList_copy_splice rfl (.tmp 12) (.tmp 13) 35 35 rfl 5 Tryd.underlying35 hsz _ _ _ _ _ _ rfl rfl w.heap.size 0 L 5 B0 X m1.out p1.out f1.out oX w.heap.size w bel (Nat.le_refl _) ?_)
  intro w2 HG bel2
  have t2 := s2.keep bel2 (Nat.le_refl _)
  clear B0 bel t1 p1 hr
  go_upto_region 3 with fail
  have hle : (n1 : Int) ≤ N := by omega
  have hleN : n1 ≤ N := by omega
  by_cases hz : N = n1
  · subst hz
    obtain rfl : n2 = 0 := by have := hN.out; omega
    have hY0 : ¬ 0 < Y.length := by rw [lY.out]; omega
    have m2' : Y.length = Nat.min 0 0 := lY.out
    go_wp2_with (refine wpList_copy_splice rfl (.tmp 18) (.tmp 19) 35 35 rfl 5 Tryd.underlying35 hsz _ _ _ _ _ _ rfl rfl w.heap.size N (splice L 0 X) 5 HG.out Y m2' (fun h => absurd h hY0) f2.out oY w.heap.size w bel2 (Nat.le_refl _) ?_)
    intro w3 HG3 bel3
    have B3 : Blk w3 w.heap.size (X ++ Y) 5 := by
      have := HG3.out
      rw [hsp.out] at this
      exact this
    clear HG HG3
    go_wp2_with fail
    go_ret
    exact ⟨rfl, B3, bel3⟩
  · have hz' : ¬ N - n1 = 0 := by omega
    go_wp2_with (refine wpList_copy_splice rfl (.tmp 18) (.tmp 19) 35 35 rfl 5 Tryd.underlying35 hsz _ _ _ _ _ _ rfl rfl w.heap.size n1 (splice L 0 X) 5 HG.out Y m2.out (fun h => ⟨rfl, t2.srcU h⟩) f2.out oY w.heap.size w bel2 (Nat.le_refl _) ?_)
    intro w3 HG3 bel3
    have B3 : Blk w3 w.heap.size (X ++ Y) 5 := by
      have := HG3.out
      rw [hsp.out] at this
      exact this
    clear HG HG3
    go_wp2_with fail
    go_ret
    exact ⟨rfl, B3, bel3⟩

theorem ownBlkU {w : World} {g n : Nat} {l : List UInt8} (B : Blk w g (byteCells l) 5) (hn : n = l.length) (few : n ≤ 1000000) : Sl w (some ⟨g, 0, none⟩) n (byteCells l) := by
  refine ⟨.inr ⟨g, 0, rfl, B.lt, fun i v hv => ?_⟩, by rw [hn]; simp [byteCells], by omega, fun h => by cases h⟩
  rw [Nat.zero_add]
  exact (B.cell i).trans hv

set_option maxRecDepth 100000 in
theorem size_any (a1 a2 : Option Addr) (c1 c2 n1 n2 : Nat) (w : World) (few : n1 + n2 ≤ 9223372036854775807) :
    Calls Tryd.prog 39 #[.agg #[.slice a1 n1 c1, .slice a2 n2 c2]] w fun e w' => e = .returned (.int .i64 ((n1 + n2 : Nat) : Int)) ∧ Below w.heap.size w w' := by
  have B0 := Blk.laid w [.slice a1 n1 c1, .slice a2 n2 c2] 37 _ rfl
  have bel := newB (Below.refl w.heap.size w) (.cells #[.slice a1 n1 c1, .slice a2 n2 c2] 37)
  obtain ⟨N, hN⟩ : ∃ N, N = n1 + n2 := ⟨_, rfl⟩
  have hNi : IntKind.i64.wrap ((n1 : Int) + (n2 : Int)) = (N : Int) := by rw [IntKind.wrap_i64]; omega
  have hNi' : (n1 : Int) + (n2 : Int) = (N : Int) := by omega
  rw [← hN]
  clear hN
  go_enter Tryd.func39, Tryd.ntmps39
  go_wp2_with fail
  go_ret
  exact ⟨rfl, bel⟩

end Go.Proofs.YtabeihkfjlmepaaDoor

/-
  disk.firstRecord: the record of the first line, and what is behind it.
-/
namespace Go.Proofs.YtabeihkfjlmepaaDoor
open Go.RowKit

theorem lfcut_any (s : ByteArray) (w : World) (hg : Gl w) (hs : s.size ≤ 100000) :
    Calls Tryd.prog 35 #[.string s, .string ⟨#[10]⟩] w fun e w' => e = .returned (.tuple #[.string (ofB (lfT (bytes s))), .string (ofB (lfB (bytes s))), .bool (lfY (bytes s))]) ∧ Below w.heap.size w w' := by
  obtain ⟨mx, hmx⟩ := hg.max
  refine (Tryd.strings_Cut s ⟨#[10]⟩ mx w (by omega) hmx).mono ?_
  rintro e w' ⟨rfl, q, rfl⟩
  exact ⟨rfl, belowDrewN (Below.refl _ _) q⟩

set_option maxHeartbeats 1000000 in
set_option maxRecDepth 100000 in
theorem first_any (s : ByteArray) (w : World) (hg : Gl w) (hs : s.size ≤ 60000) :
    Calls Tryd.prog 42 #[.string s] w fun e w' => ∃ a' G, e = .returned (.tuple #[.agg #[.int .i64 (lnR (bytes s)).k, .int .i64 (lnR (bytes s)).s, .int .i64 (lnR (bytes s)).n, .slice a' (lnR (bytes s)).e.length G], .string (ofB (lnB (bytes s))), .int .i64 (lnE (bytes s))]) ∧
      w'.ownsRow w.heap.size 59 3 (.slice a' (lnR (bytes s)).e.length G) (lnR (bytes s)).e.length ((lnR (bytes s)).e.flatMap ec) ∧ Below w.heap.size w w' := by
  have BX := Blk.laid w [.int .i64 0, .int .i64 0, .int .i64 0, .slice none 0 0] 24 _ rfl
  have belX : Below w.heap.size w (w.alloc (.cells #[.int .i64 0, .int .i64 0, .int .i64 0, .slice none 0 0] 24)) := (Below.refl _ _).alloc (Nat.le_refl _) _
  have g1 := hg.alloc (.cells #[.int .i64 0, .int .i64 0, .int .i64 0, .slice none 0 0] 24)
  have cC := fun W g => lfcut_any s W g (by omega)
  have htl : (lfT (bytes s)).length ≤ 60000 := by
    have hb := bytes_len s
    rcases lf_cases (bytes s) with ⟨_, h2, _⟩ | ⟨_, h2, _⟩
    · rw [h2, hb]; exact hs
    · have := congrArg List.length h2
      simp at this
      omega
  have cP := fun W g => parse_is (ofB (lfT (bytes s))) W g (by rw [ofB_size]; omega)
  unfold lnR lnB lnE
  cases hy : lfY (bytes s) with
  | false =>
    rw [hy] at cC
    simp only [Bool.false_eq_true, if_false]
    generalize ofB (lfT (bytes s)) = T at *
    generalize ofB (lfB (bytes s)) = B at *
    go_enter Tryd.func42, Tryd.ntmps42
    go_wp2_with fail
    generalize w.alloc _ = w1 at *
    go_at_call 35
    refine (cC _ g1).mono ?_
    rintro e w2 ⟨rfl, b2⟩
    have BB := BX.keep b2 BX.lt
    have belB := belowCall belX b2
    have r0 := BB.cell 0
    have r1 := BB.cell 1
    have r2 := BB.cell 2
    have r3 := BB.cell 3
    have f0 := BB.free 0
    have f1 := BB.free 1
    have f2 := BB.free 2
    have f3 := BB.free 3
    have lR := BB.lt
    go_wp2_with fail
    have B9 := put4r BB (.int .i64 0) (.int .i64 0) (.int .i64 0) (.slice none 0 0)
    have bel9 := below4r belB (Nat.le_refl _) (.int .i64 0) (.int .i64 0) (.int .i64 0) (.slice none 0 0)
    have i0 := B9.cell 0
    have i1 := B9.cell 1
    have i2 := B9.cell 2
    have i3 := B9.cell 3
    exact bodyPost_ret (v := .tuple #[.agg #[.int .i64 0, .int .i64 0, .int .i64 0, .slice none 0 0], .string ⟨#[]⟩, .int .i64 8]) (by simp [results, Tryd.results42, go_sem, i0, i1, i2, i3]) rfl ⟨none, 0, rfl, World.ownsRow_nil _ _ _ _, bel9⟩
  | true =>
    rw [hy] at cC
    simp only [if_true]
    generalize ofB (lfT (bytes s)) = T at *
    generalize ofB (lfB (bytes s)) = B at *
    generalize parseR T = PR at *
    generalize parseE T = PE at *
    obtain ⟨K, s', m', l⟩ := PR
    simp only at *
    obtain ⟨ln, hln⟩ : ∃ ln, ln = l.length := ⟨_, rfl⟩
    rw [← hln] at cP ⊢
    replace hln := hide hln
    go_enter Tryd.func42, Tryd.ntmps42
    go_wp2_with fail
    generalize w.alloc _ = w1 at *
    go_at_call 35
    refine (cC _ g1).mono ?_
    rintro e w2 ⟨rfl, b2⟩
    have g2 := g1.call b2
    have B2 := BX.keep b2 BX.lt
    have bel2 := belowCall belX b2
    go_wp2_with fail
    go_at_call 7
    refine (cP _ g2).mono ?_
    rintro e w3 ⟨a3, G3, rfl, o3, b3⟩
    have B3 := B2.keep b3 B2.lt
    have bel3 := belowCall bel2 b3
    have B4 := Blk.laid w3 [.int .i64 K, .int .i64 s', .int .i64 m', .slice a3 ln G3] 24 _ rfl
    have bq := newB (Below.refl w3.heap.size w3) (.cells #[.int .i64 K, .int .i64 s', .int .i64 m', .slice a3 ln G3] 24)
    have BB := B3.keep bq B3.lt
    have o4 := o3.alloc (.cells #[.int .i64 K, .int .i64 s', .int .i64 m', .slice a3 ln G3] 24)
    have belB := belowCall bel3 bq
    have o5 := owndown o4 (Nat.le_trans belX.size (Nat.le_trans b2.size (Nat.le_refl _)))
    go_upto_region 5 with fail
    generalize w3.heap.size = g4 at *
    generalize w3.alloc _ = w4 at *
    have y0 := B4.cell 0
    have y1 := B4.cell 1
    have y2 := B4.cell 2
    have y3 := B4.cell 3
    have lY := B4.lt
    have r0 := BB.cell 0
    have r1 := BB.cell 1
    have r2 := BB.cell 2
    have r3 := BB.cell 3
    have f0 := BB.free 0
    have f1 := BB.free 1
    have f2 := BB.free 2
    have f3 := BB.free 3
    have lR := BB.lt
    clear cC cP
    go_wp2_with fail
    have B9 := put4r BB (.int .i64 K) (.int .i64 s') (.int .i64 m') (.slice a3 ln G3)
    have bel9 := below4r belB (Nat.le_refl _) (.int .i64 K) (.int .i64 s') (.int .i64 m') (.slice a3 ln G3)
    have o9 := own4r o5 BB (by decide) (.int .i64 K) (.int .i64 s') (.int .i64 m') (.slice a3 ln G3)
    have i0 := B9.cell 0
    have i1 := B9.cell 1
    have i2 := B9.cell 2
    have i3 := B9.cell 3
    exact bodyPost_ret (v := .tuple #[.agg #[.int .i64 K, .int .i64 s', .int .i64 m', .slice a3 ln G3], .string B, .int .i64 PE]) (by simp [results, Tryd.results42, go_sem, i0, i1, i2, i3]) rfl ⟨a3, G3, rfl, o9, bel9⟩

end Go.Proofs.YtabeihkfjlmepaaDoor

/-
  Lists of records of the call's own; disk.safeRecords, disk.Check.
-/
namespace Go.Proofs.YtabeihkfjlmepaaDoor
open Go.RowKit
open Go.Lib (byteCells)

def strLen : Value → Nat
  | .string b => b.size
  | _ => 0

set_option maxHeartbeats 2000000 in
set_option maxRecDepth 100000 in
theorem safe_any (d : Dk) (a1 a2 : Option Addr) (c1 c2 n1 n2 : Nat) (w : World) (hg : Gl w) (s1 : Sl w a1 c1 (byteCells d.safe)) (h1 : n1 = d.safe.length) (h2 : n2 = d.wait.length) (few : n1 + n2 ≤ 9223372036854775807) :
    Calls Tryd.prog 41 #[.agg #[.slice a1 n1 c1, .slice a2 n2 c2]] w fun e w' => ∃ (a : Option Addr) (n G : Nat) (l : List Lrc), e = .returned (.tuple #[.slice a n G, .int .i64 (dkE d)]) ∧ Recs w.heap.size w' a n G l ∧ l.map (·.r) = dkL d ∧ Below w.heap.size w w' := by
  have B0 := Blk.laid w [.slice a1 n1 c1, .slice a2 n2 c2] 37 _ rfl
  have bel := newB (Below.refl w.heap.size w) (.cells #[.slice a1 n1 c1, .slice a2 n2 c2] 37)
  have cs := fun W => size_any a1 a2 c1 c2 n1 n2 W few
  have hE : dkE d = if 60000 < n1 + n2 then 2 else (scan 0 d.safe).2 := by unfold dkE; rw [h1, h2]
  have hL : dkE d ≠ 0 → dkL d = [] := fun h => if_neg h
  obtain ⟨N, hN⟩ : ∃ N, N = n1 + n2 := ⟨_, rfl⟩
  rw [← hN] at cs hE
  by_cases hb : 60000 < N
  · rw [if_pos hb] at hE
    rw [hL (by rw [hE]; decide), hE]
    have hb' : (60000 : Int) < N := by omega
    replace h1 := hide h1
    replace h2 := hide h2
    replace hN := hide hN
    clear hE hL
    go_enter Tryd.func41, Tryd.ntmps41
    go_wp2_with fail
    generalize w.alloc _ = w1 at *
    go_at_call 39
    refine (cs _).mono ?_
    rintro e w2 ⟨rfl, b2⟩
    go_wp2_with fail
    go_ret2
    exact ⟨none, 0, 0, [], rfl, Recs.nil _ _, rfl, belowCall bel b2⟩
  · rw [if_neg hb] at hE
    have hb' : ¬ (60000 : Int) < N := by omega
    have hL0 : dkE d = 0 → dkL d = (scan 0 d.safe).1 := fun h => if_pos h
    have hsl : d.safe.length ≤ 60000 := by omega
    have hcv := fun (W : World) (S : Sl W a1 c1 (byteCells d.safe)) => run_str S h1
    obtain ⟨i0, hi, hz0, hz1, hz2⟩ := info_parts infoRec
    generalize dkE d = E at *
    generalize dkL d = DL at *
    generalize hSC : scan 0 d.safe = SC at *
    replace hE := hide hE
    replace hSC := hide hSC
    replace h1 := hide h1
    replace h2 := hide h2
    replace hN := hide hN
    go_enter Tryd.func41, Tryd.ntmps41
    go_wp2_with fail
    generalize w.alloc _ = w1 at *
    go_at_call 39
    refine (cs _).mono ?_
    rintro e w2 ⟨rfl, b2⟩
    have bel2 := belowCall bel b2
    have B2 := B0.keep b2 B0.lt
    have q0 : w2.cell? ⟨w.heap.size, 0, none⟩ = some (.slice a1 n1 c1) := B2.cell 0
    have l2 := B2.lt
    have g2 := hg.call bel2
    have hcv2 := hcv w2 (s1.keep bel2 (Nat.le_refl _))
    go_wp2_with fail
    go_loopw [4, 5] (fun s4 s5 wr => ∃ (rest : ByteArray) (k G : Nat) (ao : Option Addr) (l : List Lrc), s4 = .slice ao k G ∧ s5 = .string rest ∧ Recs w.heap.size wr ao k G l ∧ k ≤ 60 ∧ rest.size ≤ 60000 ∧ Hid (SC = (l.map (·.r) ++ (scan k (bytes rest)).1, (scan k (bytes rest)).2)) ∧ Below w.heap.size w wr) (fun _ s5 _ => strLen s5)
    case atStart => exact ⟨_, 0, 0, none, [], rfl, rfl, Recs.nil _ _, by omega, by show (ofB d.safe).size ≤ _; rw [ofB_size]; exact hsl, by show SC = _; rw [show bytes ⟨d.safe.toArray⟩ = d.safe from bytes_ofB _]; exact hSC.out.symm, bel2⟩
    case round =>
      obtain ⟨rest, k, G, ao, l, rfl, rfl, R, hk, hr, hsc, belr⟩ := hrel
      by_cases hne : rest = ⟨#[]⟩
      · subst hne
        have hs : SC = (l.map (·.r), 0) := by
          rw [hsc.out]
          show ((l.map (·.r)) ++ (scan k []).1, (scan k []).2) = _
          rw [scan_nil, List.append_nil]
        obtain rfl : E = 0 := by rw [hE.out, hs]
        have hDL : l.map (·.r) = DL := by rw [hL0 rfl, hs]
        go_wp2_with fail
        go_ret2
        exact ⟨_, _, _, l, rfl, R, hDL, belr⟩
      · have hne2 : bytes rest ≠ [] := fun h => hne (by rw [← ofB_bytes rest, h]; rfl)
        have hne3 : (rest.toList == []) = false := by rw [toList_bytes]; exact beq_eq_false_iff_ne.2 hne2
        have hne4 : ¬ rest.toList = [] := by rw [toList_bytes]; exact hne2
        have cF := fun W g => first_any rest W g hr
        have gr := hg.call belr
        have hbadE : lnE (bytes rest) ≠ 0 → E = lnE (bytes rest) := by
          intro h
          rw [hE.out, hsc.out, scan_bad hne2 h]
        have hmany : lnE (bytes rest) = 0 → k = 60 → E = 2 := by
          rintro h rfl
          rw [hE.out, hsc.out, scan_many hne2 h]
        have hstep : lnE (bytes rest) = 0 → k ≠ 60 → SC = (l.map (·.r) ++ [lnR (bytes rest)] ++ (scan (k + 1) (lnB (bytes rest))).1, (scan (k + 1) (lnB (bytes rest))).2) := by
          intro h h'
          rw [hsc.out, scan_step hne2 h h']
          simp
        have hlt : lnE (bytes rest) = 0 → (ofB (lnB (bytes rest))).size < rest.size := by
          intro h
          rw [ofB_size, ← bytes_len rest]
          exact lnB_less h
        have hbB : bytes (ofB (lnB (bytes rest))) = lnB (bytes rest) := bytes_ofB _
        obtain ⟨PB, hPB⟩ : ∃ PB, PB = ofB (lnB (bytes rest)) := ⟨_, rfl⟩
        rw [← hbB] at hstep
        rw [← hPB] at hstep hlt
        simp only [← hPB] at cF
        clear hPB hbB
        generalize lnR (bytes rest) = PR at *
        generalize lnE (bytes rest) = PE at *
        obtain ⟨K, s', m', es⟩ := PR
        simp only at *
        obtain ⟨ln, hln⟩ : ∃ ln, ln = es.length := ⟨_, rfl⟩
        rw [← hln] at cF
        replace hln := hide hln
        replace hne2 := hide hne2
        go_wp2_with fail
        go_at_call 42
        refine (cF _ gr).mono ?_
        rintro e w4 ⟨a4, G4, rfl, o4, b4⟩
        have bel4 := belowCall belr b4
        have R4 := R.call b4
        by_cases h0 : PE = 0
        · subst h0
          have BX := Blk.laid w4 [.int .i64 K, .int .i64 s', .int .i64 m', .slice a4 ln G4] 24 _ rfl
          have bq := newB (Below.refl w4.heap.size w4) (.cells #[.int .i64 K, .int .i64 s', .int .i64 m', .slice a4 ln G4] 24)
          have bel5 := belowCall bel4 bq
          have R5 := R4.call bq
          have o5 := owndown (o4.alloc (.cells #[.int .i64 K, .int .i64 s', .int .i64 m', .slice a4 ln G4] 24)) belr.size
          by_cases h6 : k = 60
          · subst h6
            obtain rfl := hmany rfl rfl
            have hDL := hL (by decide)
            go_upto_region 9 with fail
            generalize w4.alloc _ = w5 at *
            go_wp2_with fail
            go_ret2
            exact ⟨none, 0, 0, [], rfl, Recs.nil _ _, hDL.symm, bel5⟩
          · have h6' : ¬ (k : Int) = 60 := by omega
            have hst := hide (hstep rfl h6)
            have hlt' := hlt rfl
            clear hstep hmany hbadE hlt
            go_upto_region 11 with fail
            generalize w4.heap.size = gX at *
            generalize w4.alloc _ = w5 at *
            have x0 := BX.cell 0
            have x1 := BX.cell 1
            have x2 := BX.cell 2
            have x3 := BX.cell 3
            have lX := BX.lt
            go_wp2_with (at_builtin; refine wpList_append_new w5 rfl (.tmp 29) (.tmp 31) 34 rfl w.heap.size 24 i0 _ 4 48 Tryd.underlying34 hi hz0 hz1 hz2 rfl (by decide) (.slice ao k G) k _ (by rfl) R5.row 1 #[.int .i64 K, .int .i64 s', .int .i64 m', .slice a4 ln G4] 24 (by rfl) (by rfl) (by simp [Value.oneCell']) (by decide) (by unfold maxLen; omega) (by omega) bel5.size ?_)
            intro v7 w7 own7 grow7 went7
            have bel7 := belowGrown bel5 R5.row grow7 (Nat.le_refl _) bel5.size
            obtain ⟨a8, G8, rfl, R8⟩ := R5.snoc (x := ⟨⟨K, s', m', es⟩, a4, G4⟩) (by show World.ownsRow _ _ _ _ (.slice a4 es.length G4) es.length _; rw [← hln.out]; exact o5) (by unfold Lrc.cells; simp only; rw [← hln.out]; exact own7) grow7
            go_wp2_with fail
            go_roundw
            case rel => exact ⟨PB, k + 1, G8, a8, l ++ [⟨⟨K, s', m', es⟩, a4, G4⟩], rfl, rfl, R8, by omega, by omega, by rw [List.map_append]; exact hst, bel7⟩
            case measure => exact hlt'
        · obtain rfl := hbadE h0
          have hDL := hL h0
          have hd : decide (E = 0) = false := decide_eq_false h0
          have bq := newB (Below.refl w4.heap.size w4) (.cells #[.int .i64 K, .int .i64 s', .int .i64 m', .slice a4 ln G4] 24)
          have bel5 := belowCall bel4 bq
          go_upto_region 7 with fail
          generalize w4.alloc _ = w5 at *
          go_wp2_with fail
          go_ret2
          exact ⟨none, 0, 0, [], rfl, Recs.nil _ _, hDL.symm, bel5⟩

set_option maxRecDepth 100000 in
theorem dcheck_any (d : Dk) (a1 a2 : Option Addr) (c1 c2 n1 n2 : Nat) (w : World) (hg : Gl w) (s1 : Sl w a1 c1 (byteCells d.safe)) (h1 : n1 = d.safe.length) (h2 : n2 = d.wait.length) (few : n1 + n2 ≤ 9223372036854775807) :
    Calls Tryd.prog 38 #[.agg #[.slice a1 n1 c1, .slice a2 n2 c2]] w fun e w' => e = .returned (.int .i64 (dkE d)) ∧ Below w.heap.size w w' := by
  have bel := newB (Below.refl w.heap.size w) (.cells #[.slice a1 n1 c1, .slice a2 n2 c2] 37)
  have c := fun W g s => safe_any d a1 a2 c1 c2 n1 n2 W g s h1 h2 few
  have g1 := hg.call bel
  have t1 := s1.keep bel (Nat.le_refl _)
  generalize dkE d = E at *
  replace h1 := hide h1
  replace h2 := hide h2
  go_enter Tryd.func38, Tryd.ntmps38
  go_wp2_with fail
  generalize w.alloc _ = w1 at *
  go_at_call 41
  refine (c _ g1 t1).mono ?_
  rintro e w2 ⟨a, n, G, l, rfl, -, -, b2⟩
  go_wp2_with fail
  go_ret
  exact ⟨rfl, belowCall bel b2⟩

end Go.Proofs.YtabeihkfjlmepaaDoor

/-
  Slices of records, with their entries (RecLs holds them; package disk's list is one).
-/
namespace Go.Proofs.YtabeihkfjlmepaaDoor
end Go.Proofs.YtabeihkfjlmepaaDoor

/-
  A list of records of the call's own whose entries lie where they came in.
-/
namespace Go.Proofs.YtabeihkfjlmepaaDoor
open Go.RowKit

structure Outs (W0 : World) (base : Nat) (w : World) (a : Option Addr) (n G : Nat) (l : List Lrc) : Prop where
  len : n = l.length
  row : w.ownsRow base 24 4 (.slice a n G) n (l.flatMap Lrc.cells)
  ent : ∀ x ∈ l, SlW ec W0 x.a x.c x.r.e

theorem Outs.nil (W0 : World) (base : Nat) (w : World) : Outs W0 base w none 0 0 [] := ⟨rfl, World.ownsRow_nil _ _ _ _, fun x h => by simp at h⟩

theorem Outs.call {W0 : World} {base : Nat} {w w' : World} {a : Option Addr} {n G : Nat} {l : List Lrc} (h : Outs W0 base w a n G l) (hb : Below w.heap.size w w') : Outs W0 base w' a n G l :=
  ⟨h.len, ownCall h.row hb, h.ent⟩

theorem Outs.down {W0 : World} {base base' : Nat} {w : World} {a : Option Addr} {n G : Nat} {l : List Lrc} (h : Outs W0 base w a n G l) (hb : base' ≤ base) : Outs W0 base' w a n G l :=
  ⟨h.len, owndown h.row hb, h.ent⟩

/-- One more record. -/
theorem Outs.snoc {W0 : World} {base : Nat} {w w' : World} {a : Option Addr} {n G : Nat} {l : List Lrc} {v : Value} (h : Outs W0 base w a n G l) (x : Lrc) (hx : SlW ec W0 x.a x.c x.r.e) (o : w'.ownsRow base 24 4 v (n + 1) (l.flatMap Lrc.cells ++ x.cells)) :
    ∃ a' G', v = .slice a' (n + 1) G' ∧ Outs W0 base w' a' (n + 1) G' (l ++ [x]) := by
  obtain ⟨g7, G7, rfl⟩ : ∃ g7 G7, v = .slice (some ⟨g7, 0, none⟩) (n + 1) G7 := by
    rcases o.2 with ⟨_, h⟩ | ⟨g, cap, cur, h, _⟩
    · omega
    · exact ⟨_, _, h⟩
  refine ⟨_, _, rfl, by rw [List.length_append, h.len]; rfl, by rw [List.flatMap_append]; simpa using o, fun y hy => ?_⟩
  rcases List.mem_append.1 hy with hy | hy
  · exact h.ent y hy
  · simp only [List.mem_cons, List.not_mem_nil, or_false] at hy
    subst hy
    exact hx

theorem Outs.sl {W0 : World} {base : Nat} {w : World} {a : Option Addr} {n G : Nat} {l : List Lrc} (h : Outs W0 base w a n G l) (hb : Below W0.heap.size W0 w) : SlRec w a G l := by
  obtain ⟨a9, G9, e9, S9, _, _⟩ := SlW.ofOwn Lrc.four (by decide) h.row
  simp only [Value.slice.injEq, true_and] at e9
  obtain ⟨rfl, rfl⟩ := e9
  exact ⟨S9, fun x hx => (h.ent x hx).keep hb (Nat.le_refl _)⟩

end Go.Proofs.YtabeihkfjlmepaaDoor

/-
  Texts cut at blanks, as plain lists: strings.Split and strings.Cut at one blank; what is cut and what is laid together. No program is named.
-/
namespace Go.Proofs.YtabeihkfjlmepaaDoor
open Go.Lib (index splitK count)

/-- The words between blanks. -/
def sp : List UInt8 → List (List UInt8)
  | [] => [[]]
  | c :: r => if c = 32 then [] :: sp r else (c :: (sp r).headD []) :: (sp r).tail

theorem sp_ne (l : List UInt8) : sp l ≠ [] := by
  cases l with
  | nil => simp [sp]
  | cons c r => unfold sp; split <;> simp

theorem sp_none : ∀ l : List UInt8, (∀ c ∈ l, c ≠ 32) → sp l = [l]
  | [], _ => rfl
  | c :: r, h => by
    rw [sp, if_neg (h c List.mem_cons_self), sp_none r (fun x hx => h x (List.mem_cons_of_mem _ hx))]
    rfl

theorem sp_some : ∀ (p q : List UInt8), (∀ c ∈ p, c ≠ 32) → sp (p ++ 32 :: q) = p :: sp q
  | [], q, _ => by rw [List.nil_append, sp, if_pos rfl]
  | c :: r, q, h => by
    rw [List.cons_append, sp, if_neg (h c List.mem_cons_self), sp_some r q (fun x hx => h x (List.mem_cons_of_mem _ hx))]
    rfl

/-- Where the first blank is. -/
theorem index_blank : ∀ l : List UInt8, (index l [32] = -1 ∧ ∀ c ∈ l, c ≠ 32) ∨ (∃ p q, l = p ++ 32 :: q ∧ (∀ c ∈ p, c ≠ 32) ∧ index l [32] = p.length)
  | [] => .inl ⟨rfl, fun c h => by simp at h⟩
  | c :: r => by
    by_cases hc : c = 32
    · subst hc
      exact .inr ⟨[], r, rfl, fun c h => by simp at h, by simp [index]⟩
    · have hp : ([32] : List UInt8).isPrefixOf (c :: r) = false := by simp [List.isPrefixOf, Ne.symm hc]
      rcases index_blank r with ⟨h1, h2⟩ | ⟨p, q, rfl, h2, h3⟩
      · left
        refine ⟨by rw [index, hp, h1]; rfl, fun x hx => ?_⟩
        rcases List.mem_cons.1 hx with rfl | hx
        · exact hc
        · exact h2 x hx
      · right
        refine ⟨c :: p, q, rfl, fun x hx => ?_, ?_⟩
        · rcases List.mem_cons.1 hx with rfl | hx
          · exact hc
          · exact h2 x hx
        · rw [index, hp, h3]
          have : ((p.length : Int) == -1) = false := by simp
          simp [this]

theorem split_sp : ∀ (n : Nat) (l : List UInt8), l.length ≤ n → splitK [32] 0 (count l [32]) l = sp l := by
  intro n
  induction n with
  | zero =>
    intro l h
    obtain rfl := List.length_eq_zero_iff.1 (Nat.le_zero.1 h)
    rw [Lib.count_miss rfl]
    rfl
  | succ n ih =>
    intro l h
    rcases index_blank l with ⟨h1, h2⟩ | ⟨p, q, rfl, h2, h3⟩
    · rw [Lib.count_miss h1, sp_none l h2]
      rfl
    · have hd : (p ++ 32 :: q).drop (p.length + 1) = q := by
        rw [show p.length + 1 = (p ++ [32]).length by simp, show p ++ 32 :: q = (p ++ [32]) ++ q by simp, List.drop_left]
      rw [Lib.count_hit (by simp) h3, Nat.add_comm 1, splitK, h3, sp_some p q h2]
      have hne : ((p.length : Int) == -1) = false := by simp
      rw [hne]
      simp only [Bool.false_eq_true, if_false, Int.toNat_natCast, List.length_cons, List.length_nil, Nat.zero_add, Nat.add_zero]
      rw [hd, ih q (by simp at h; omega), List.take_left]

theorem words_sp (s : ByteArray) : (wordsB s).map bytes = sp (bytes s) := by
  unfold wordsB
  have h := Lib.splitB_data blank 0 (Lib.countB s blank) s
  exact h.trans (split_sp _ (bytes s) (Nat.le_refl _))

theorem textR_sp (s : ByteArray) : textR s = readR (sp (bytes s)) := by
  unfold textR
  rw [words_sp]

/-- Words laid together, a blank between them. -/
def jn32 : List (List UInt8) → List UInt8
  | [] => []
  | w :: r => w ++ r.flatMap (fun x => 32 :: x)

theorem jn_sp : ∀ l : List UInt8, jn32 (sp l) = l
  | [] => rfl
  | c :: r => by
    have ih := jn_sp r
    obtain ⟨w, ws, hw⟩ := List.exists_cons_of_ne_nil (sp_ne r)
    rw [hw] at ih
    unfold sp
    split
    · rename_i h
      subst h
      rw [hw, jn32, List.nil_append, List.flatMap_cons, ← ih]
      simp [jn32]
    · rw [hw, ← ih]
      simp [jn32]

theorem sp_jn : ∀ (ws : List (List UInt8)) (w : List UInt8), (∀ x ∈ w :: ws, ∀ c ∈ x, c ≠ 32) → sp (jn32 (w :: ws)) = w :: ws
  | [], w, h => by
    rw [jn32, List.flatMap_nil, List.append_nil]
    exact sp_none w (h w List.mem_cons_self)
  | x :: r, w, h => by
    have ih := sp_jn r x (fun y hy => h y (List.mem_cons_of_mem _ hy))
    rw [jn32] at ih
    rw [jn32, List.flatMap_cons, List.cons_append, sp_some w _ (h w List.mem_cons_self), ih]

end Go.Proofs.YtabeihkfjlmepaaDoor
