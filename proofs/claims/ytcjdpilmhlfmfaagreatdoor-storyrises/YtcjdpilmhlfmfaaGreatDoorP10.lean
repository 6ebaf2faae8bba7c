/-
  Lines of a log as plain lists: what package disk reckons. No program is named.
-/
import Derived.Lib.IndexMore
import Derived.Laws.CopyOwn
import Derived.Shelf.Bytes.SlEqualAll
import Derived.Lib.SmallJoins
import Derived.Test.YtcjdpilmhlfmfaaGreatDoorP09
import Derived.Test.YtcjdpilmhlfmfaaGreatDoorP07
import Derived.Test.YtcjdpilmhlfmfaaGreatDoorP05
import Derived.Test.YtcjdpilmhlfmfaaGreatDoorP06
import Derived.Test.YtcjdpilmhlfmfaaGreatDoorP08
namespace Go.Proofs.YtcjdpilmhlfmfaaGreatDoor
open Go.Lib (index cut)

theorem index_byte (b : UInt8) : ∀ l : List UInt8, (index l [b] = -1 ∧ ∀ c ∈ l, c ≠ b) ∨ (∃ p q, l = p ++ b :: q ∧ (∀ c ∈ p, c ≠ b) ∧ index l [b] = p.length)
  | [] => .inl ⟨rfl, fun c h => by simp at h⟩
  | c :: r => by
    by_cases hc : c = b
    · subst hc
      exact .inr ⟨[], r, rfl, fun c h => by simp at h, by simp [index]⟩
    · have hp : ([b] : List UInt8).isPrefixOf (c :: r) = false := by simp [List.isPrefixOf, Ne.symm hc]
      rcases index_byte b r with ⟨h1, h2⟩ | ⟨p, q, rfl, h2, h3⟩
      · left
        refine ⟨by rw [index, hp, h1]; rfl, fun x hx => ?_⟩
        rcases List.mem_cons.1 hx with rfl | hx
        · exact hc
        · exact h2 x hx
      · right
        refine ⟨c :: p, q, rfl, fun x hx => ?_, ?_⟩
        · rcases List.mem_cons.1 hx with rfl | hx
          · exact hc
          · exact h2 x hx
        · rw [index, hp, h3]
          have : ((p.length : Int) == -1) = false := by simp
          simp [this]

/-- The first line, as strings.Cut tells it: the line, what is behind it, and whether it has an end. -/
def lfT (l : List UInt8) : List UInt8 := (cut l [10]).1
def lfB (l : List UInt8) : List UInt8 := (cut l [10]).2.1
def lfY (l : List UInt8) : Bool := (cut l [10]).2.2

theorem lf_cases (l : List UInt8) : (lfY l = false ∧ lfT l = l ∧ lfB l = [] ∧ ∀ c ∈ l, c ≠ 10) ∨ (lfY l = true ∧ l = lfT l ++ 10 :: lfB l ∧ ∀ c ∈ lfT l, c ≠ 10) := by
  unfold lfY lfT lfB cut
  rcases index_byte 10 l with ⟨h1, h2⟩ | ⟨p, q, rfl, h2, h3⟩
  · left
    rw [h1, if_neg (by decide)]
    exact ⟨rfl, rfl, rfl, h2⟩
  · right
    rw [h3, if_pos (by omega)]
    have hd : (p ++ 10 :: q).drop (p.length + 1) = q := by
      rw [show p.length + 1 = (p ++ [10]).length by simp, show p ++ 10 :: q = (p ++ [10]) ++ q by simp, List.drop_left]
    simp only [Int.toNat_natCast, List.length_cons, List.length_nil, Nat.zero_add, List.take_left, hd]
    exact ⟨trivial, trivial, h2⟩

theorem lf_of {p q : List UInt8} (h : ∀ c ∈ p, c ≠ 10) : lfY (p ++ 10 :: q) = true ∧ lfT (p ++ 10 :: q) = p ∧ lfB (p ++ 10 :: q) = q := by
  have : index (p ++ 10 :: q) [10] = p.length := by
    induction p with
    | nil => simp [index]
    | cons c r ih =>
      have hc : c ≠ 10 := h c List.mem_cons_self
      have hp : ([10] : List UInt8).isPrefixOf (c :: (r ++ 10 :: q)) = false := by simp [List.isPrefixOf, Ne.symm hc]
      rw [List.cons_append, index, hp, ih (fun x hx => h x (List.mem_cons_of_mem _ hx))]
      have : ((r.length : Int) == -1) = false := by simp
      simp [this]
  unfold lfY lfT lfB cut
  rw [this, if_pos (by omega)]
  have hd : (p ++ 10 :: q).drop (p.length + 1) = q := by
    rw [show p.length + 1 = (p ++ [10]).length by simp, show p ++ 10 :: q = (p ++ [10]) ++ q by simp, List.drop_left]
  simp only [Int.toNat_natCast, List.length_cons, List.length_nil, Nat.zero_add, List.take_left, hd]
  exact ⟨trivial, trivial, trivial⟩

def ofB (l : List UInt8) : ByteArray := ⟨l.toArray⟩

theorem bytes_ofB (l : List UInt8) : bytes (ofB l) = l := by simp [bytes, ofB]

theorem ofB_bytes (b : ByteArray) : ofB (bytes b) = b := by simp [bytes, ofB]

theorem ofB_size (l : List UInt8) : (ofB l).size = l.length := by simp [ofB, ByteArray.size]

theorem bytes_len (b : ByteArray) : (bytes b).length = b.size := Array.length_toList

/-- What is wrong with the first line; its record; what is behind it. -/
def lnE (l : List UInt8) : Int := if lfY l = true then parseE (ofB (lfT l)) else 8
def lnR (l : List UInt8) : Rc := if lfY l = true then parseR (ofB (lfT l)) else rec0
def lnB (l : List UInt8) : List UInt8 := if lfY l = true then lfB l else []

theorem lnE_ok {l : List UInt8} (h : lnE l = 0) : lfY l = true := by
  unfold lnE at h
  split at h
  · assumption
  · cases h

theorem lnB_less {l : List UInt8} (h : lnE l = 0) : (lnB l).length < l.length := by
  have hy := lnE_ok h
  unfold lnB
  rw [if_pos hy]
  rcases lf_cases l with ⟨h1, _⟩ | ⟨_, h2, _⟩
  · rw [hy] at h1; cases h1
  · have := congrArg List.length h2
    simp at this
    omega

theorem lnE_nil : lnE [] = 8 := by
  have : lfY [] = false := rfl
  unfold lnE
  rw [this]
  rfl

/-- Line by line: the records, and what is wrong. -/
def scanF : Nat → Nat → List UInt8 → List Rc × Int
  | 0, _, _ => ([], 0)
  | f + 1, k, l => if l = [] then ([], 0) else if lnE l ≠ 0 then ([], lnE l) else if k = 60 then ([], 2) else (lnR l :: (scanF f (k + 1) (lnB l)).1, (scanF f (k + 1) (lnB l)).2)

theorem scanF_more : ∀ (f : Nat) (k : Nat) (l : List UInt8), l.length < f → scanF f k l = scanF (l.length + 1) k l
  | 0, _, _, h => by omega
  | f + 1, k, l, h => by
    rw [scanF]
    conv => rhs; rw [scanF]
    by_cases h0 : l = []
    · rw [if_pos h0, if_pos h0]
    rw [if_neg h0, if_neg h0]
    by_cases h1 : lnE l ≠ 0
    · rw [if_pos h1, if_pos h1]
    rw [if_neg h1, if_neg h1]
    have hl := lnB_less (Decidable.of_not_not h1)
    by_cases h2 : k = 60
    · rw [if_pos h2, if_pos h2]
    rw [if_neg h2, if_neg h2, scanF_more f (k + 1) (lnB l) (by omega), scanF_more l.length (k + 1) (lnB l) hl]

def scan (k : Nat) (l : List UInt8) : List Rc × Int := scanF (l.length + 1) k l

theorem scan_nil (k : Nat) : scan k [] = ([], 0) := rfl

theorem scan_bad {k : Nat} {l : List UInt8} (h0 : l ≠ []) (h1 : lnE l ≠ 0) : scan k l = ([], lnE l) := by
  unfold scan
  rw [scanF, if_neg h0, if_pos h1]

theorem scan_many {l : List UInt8} (h0 : l ≠ []) (h1 : lnE l = 0) : scan 60 l = ([], 2) := by
  unfold scan
  rw [scanF, if_neg h0, if_neg (by simp [h1]), if_pos rfl]

theorem scan_step {k : Nat} {l : List UInt8} (h0 : l ≠ []) (h1 : lnE l = 0) (h2 : k ≠ 60) : scan k l = (lnR l :: (scan (k + 1) (lnB l)).1, (scan (k + 1) (lnB l)).2) := by
  have hl := lnB_less h1
  unfold scan
  rw [scanF, if_neg h0, if_neg (by simp [h1]), if_neg h2, scanF_more l.length (k + 1) (lnB l) hl]

/-- Whole lines at the begin: the records, and what is left. -/
def tailF : Nat → Nat → List UInt8 → List Rc × List UInt8
  | 0, _, l => ([], l)
  | f + 1, k, l => if k < 60 ∧ lnE l = 0 then (lnR l :: (tailF f (k + 1) (lnB l)).1, (tailF f (k + 1) (lnB l)).2) else ([], l)

theorem tailF_more : ∀ (f : Nat) (k : Nat) (l : List UInt8), l.length < f → tailF f k l = tailF (l.length + 1) k l
  | 0, _, _, h => by omega
  | f + 1, k, l, h => by
    rw [tailF]
    conv => rhs; rw [tailF]
    by_cases h1 : k < 60 ∧ lnE l = 0
    · have hl := lnB_less h1.2
      rw [if_pos h1, if_pos h1, tailF_more f (k + 1) (lnB l) (by omega), tailF_more l.length (k + 1) (lnB l) hl]
    · rw [if_neg h1, if_neg h1]

def tail (k : Nat) (l : List UInt8) : List Rc × List UInt8 := tailF (l.length + 1) k l

theorem tail_stop {k : Nat} {l : List UInt8} (h : ¬ (k < 60 ∧ lnE l = 0)) : tail k l = ([], l) := by
  unfold tail
  rw [tailF, if_neg h]

theorem tail_step {k : Nat} {l : List UInt8} (h : k < 60 ∧ lnE l = 0) : tail k l = (lnR l :: (tail (k + 1) (lnB l)).1, (tail (k + 1) (lnB l)).2) := by
  unfold tail
  rw [tailF, if_pos h, tailF_more l.length (k + 1) (lnB l) (lnB_less h.2)]

/-- A disk. -/
structure Dk where
  safe : List UInt8
  wait : List UInt8

def dk0 : Dk := ⟨[], []⟩

def dkE (d : Dk) : Int := if 60000 < d.safe.length + d.wait.length then 2 else (scan 0 d.safe).2

def dkL (d : Dk) : List Rc := if dkE d = 0 then (scan 0 d.safe).1 else []

def dputE (d : Dk) (r : Rc) : Int := if dkE d ≠ 0 then dkE d else if recE r ≠ 0 then recE r else if 60000 < d.safe.length + d.wait.length + ((recT r).length + 1) then 2 else 0
def dputD (d : Dk) (r : Rc) : Dk := if dputE d r = 0 then ⟨d.safe, d.wait ++ (recT r ++ [10])⟩ else dk0

def syncE (d : Dk) : Int := if dkE d ≠ 0 then dkE d else dkE ⟨d.safe ++ d.wait, []⟩
def syncD (d : Dk) : Dk := if syncE d = 0 then ⟨d.safe ++ d.wait, []⟩ else dk0

def crashE (d : Dk) (n : Int) : Int := if dkE d ≠ 0 then dkE d else if n < 0 ∨ (d.wait.length : Int) < n then 3 else 0
def crashD (d : Dk) (n : Int) : Dk := if crashE d n = 0 then ⟨d.safe, d.wait.take n.toNat⟩ else dk0

/-- What Recover makes safe of what waits. -/
def kept (d : Dk) : List UInt8 := d.wait.take (d.wait.length - (tail (dkL d).length d.wait).2.length)

def recD (d : Dk) : Dk := if dkE d = 0 then ⟨d.safe ++ kept d, []⟩ else dk0
def recL (d : Dk) : List Rc := if dkE d = 0 then dkL d ++ (tail (dkL d).length d.wait).1 else []

theorem scan_le : ∀ (n k : Nat) (l : List UInt8), l.length ≤ n → k ≤ 60 → (scan k l).1.length + k ≤ 60
  | 0, k, l, h, hk => by
    obtain rfl := List.length_eq_zero_iff.1 (Nat.le_zero.1 h)
    rw [scan_nil]
    simpa using hk
  | n + 1, k, l, h, hk => by
    by_cases h0 : l = []
    · subst h0
      rw [scan_nil]
      simpa using hk
    by_cases h1 : lnE l = 0
    · by_cases h2 : k = 60
      · subst h2
        rw [scan_many h0 h1]
        simp
      · rw [scan_step h0 h1 h2]
        have := lnB_less h1
        have := scan_le n (k + 1) (lnB l) (by omega) (by omega)
        simp only [List.length_cons]
        omega
    · rw [scan_bad h0 h1]
      simpa using hk

theorem dkL_le (d : Dk) : (dkL d).length ≤ 60 := by
  unfold dkL
  split
  · have := scan_le d.safe.length 0 d.safe (Nat.le_refl _) (by omega)
    omega
  · simp

end Go.Proofs.YtcjdpilmhlfmfaaGreatDoor

/-
  Slices of bytes: bytes.Equal, the conversion to a string, disk.join, disk.size.
-/
namespace Go.Proofs.YtcjdpilmhlfmfaaGreatDoor
open Go.RowKit
open Go.Lib (byteCells)

theorem bytesIn {w : World} {a : Option Addr} {cap : Nat} {l : List UInt8} (S : Sl w a cap (byteCells l)) : Lib.BytesIn w a l.length (l.map fun b => (b.toNat : Int)) := by
  intro hn
  obtain ⟨b, o, e, _, hc⟩ := S.row.at (by intro h; have := congrArg List.length h; simp [byteCells] at this; subst this; simp at hn)
  refine ⟨b, o, e, fun i hi => ?_⟩
  have := hc i (.int .u8 (l[i].toNat)) (by simp [byteCells, hi])
  rw [this]
  simp [List.getD, hi]

theorem bytesOf_back (l : List UInt8) : Lib.bytesOf (l.map fun b => (b.toNat : Int)) = l := by
  unfold Lib.bytesOf
  rw [List.map_map]
  conv => rhs; rw [← List.map_id l]
  refine List.map_congr_left (fun b _ => ?_)
  simp

theorem strOf_back (l : List UInt8) : strOfNums (l.map fun b => (b.toNat : Int)) = ⟨l.toArray⟩ := by
  have h := Lib.strOfNums_toList (l.map fun b => (b.toNat : Int))
  rw [bytesOf_back, toList_bytes] at h
  exact (bytes_eq.2 h.symm).symm

theorem run_str {w : World} {a : Option Addr} {cap n : Nat} {l : List UInt8} (S : Sl w a cap (byteCells l)) (hn : n = l.length) :
    (convert 25 9 (.slice a n cap)).run Tryz.prog w = .ok (.string ⟨l.toArray⟩) w := by
  subst hn
  rw [Lib.BytesIn.convert (bytesIn S) (by simp) cap 25 5 9 Tryz.underlying25 Tryz.underlying5 Tryz.underlying9, strOf_back]

theorem infoU : (Tryz.prog.info? 5).map (fun i => (i.zero, i.size, i.bytes)) = some (some (.int .u8 0), 1, 1) := by kernel_rfl

theorem byteCells_one (l : List UInt8) : ∀ v ∈ byteCells l, v.oneCell' = true := by
  intro v hv
  obtain ⟨b, _, rfl⟩ := List.mem_map.1 hv
  rfl

theorem madeU {w' : World} {g n : Nat} {cs : List Value} {t : TypeId} (h : w'.ownsRow g t 1 (.slice (some ⟨g, 0, none⟩) n n) n cs) : ∃ L : List Value, L.length = n ∧ Blk w' g L t := by
  rcases h.2 with ⟨h', _⟩ | ⟨g', cap', cur, h', _, hg, _, _, hs, htake⟩
  · simp at h'
  · simp only [Value.slice.injEq, Option.some.injEq, Addr.mk.injEq, and_true, true_and] at h'
    obtain ⟨rfl, rfl⟩ := h'
    exact ⟨cur.toList, by simp [hs], by unfold Blk; simpa using hg⟩

theorem splice_two {α : Type} (Z X Y : List α) (k : Nat) (hk : X.length = k) (hZ : Z.length = k + Y.length) : splice (splice Z 0 X) k Y = X ++ Y := by
  subst hk
  have e1 : splice Z 0 X = X ++ Z.drop X.length := by simp [splice]
  rw [e1]
  unfold splice
  rw [List.take_left' rfl, List.drop_eq_nil_of_le (by simp; omega), List.append_nil]

theorem Sl.srcU {w : World} {ao : Option Addr} {cap : Nat} {cs : List Value} (h : Sl w ao cap cs) : 0 < cs.length → ∃ ad, ao = some ad ∧ ∀ j v, cs[j]? = some v → w.cell? (ad.add j) = some v := by
  intro hp
  obtain ⟨b, off, e, _, hc⟩ := h.row.at (by intro e; rw [e] at hp; simp at hp)
  exact ⟨_, e, fun j v hv => by rw [Addr.add_lit]; exact hc j v hv⟩

set_option maxHeartbeats 1000000 in
set_option maxRecDepth 100000 in
theorem join_any (a1 a2 : Option Addr) (c1 c2 n1 n2 : Nat) (l m : List UInt8) (w : World) (s1 : Sl w a1 c1 (byteCells l)) (s2 : Sl w a2 c2 (byteCells m)) (h1 : n1 = l.length) (h2 : n2 = m.length) (few : n1 + n2 ≤ 1000000) :
    Calls Tryz.prog 59 #[.slice a1 n1 c1, .slice a2 n2 c2] w fun e w' => e = .returned (.slice (some ⟨w.heap.size, 0, none⟩) (n1 + n2) (n1 + n2)) ∧ Blk w' w.heap.size (byteCells (l ++ m)) 5 ∧ Below w.heap.size w w' := by
  obtain ⟨i0, hi, hz0, hz1, hz2⟩ := info_parts infoU
  obtain ⟨N, hN⟩ : ∃ N, N = n1 + n2 := ⟨_, rfl⟩
  have hNi : IntKind.i64.wrap ((n1 : Int) + (n2 : Int)) = (N : Int) := by rw [IntKind.wrap_i64]; omega
  have hNi' : (n1 : Int) + (n2 : Int) = (N : Int) := by omega
  obtain ⟨w1, hr, own, gr⟩ := run_make_full (P := Tryz.prog) (w := w) w.heap.size 25 5 i0 (.int .u8 0) 1 Tryz.underlying25 hi hz0 hz1 .i64 .i64 N (by rw [hz2]; omega) (by unfold maxLen; omega) (Nat.le_refl _)
  obtain ⟨L, hL, B0⟩ := madeU own
  have bel : Below w.heap.size w w1 := (Below.refl _ _).grown gr (Nat.le_refl _) (fun k h => by cases h)
  have t1 := s1.keep bel (Nat.le_refl _)
  obtain ⟨X, hX⟩ : ∃ X, X = byteCells l := ⟨_, rfl⟩
  obtain ⟨Y, hY⟩ : ∃ Y, Y = byteCells m := ⟨_, rfl⟩
  have lX : X.length = n1 := by rw [hX, h1]; simp [byteCells]
  have lY : Y.length = n2 := by rw [hY, h2]; simp [byteCells]
  have oX := byteCells_one l
  have oY := byteCells_one m
  have hXY : byteCells (l ++ m) = X ++ Y := by rw [hX, hY]; simp [byteCells]
  rw [hXY]
  rw [← hX] at t1 oX s1
  rw [← hY] at s2 oY
  have hsz : (Tryz.prog.info? 5).map (·.size) = some 1 := by rw [hi]; simp [hz1]
  have p1 : 0 < X.length → some (⟨w.heap.size, 0, none⟩ : Addr) = some ⟨w.heap.size, 0, none⟩ ∧ ∃ ad, a1 = some ad ∧ ∀ j v, X[j]? = some v → w1.cell? (ad.add j) = some v := fun h => ⟨rfl, t1.srcU h⟩
  have m1 : X.length = Nat.min n1 N := by rw [lX]; exact (Nat.min_eq_left (by omega)).symm
  have f1 : 0 + X.length ≤ L.length := by rw [lX, hL]; omega
  have hsp : splice (splice L 0 X) n1 Y = X ++ Y := splice_two L X Y n1 lX (by rw [hL, lY]; exact hN)
  have f2 : n1 + Y.length ≤ (splice L 0 X).length := by rw [length_splice _ _ _ f1, hL, lY]; omega
  have m2 : Y.length = Nat.min n2 (N - n1) := by rw [lY]; exact (Nat.min_eq_left (by omega)).symm
  replace p1 := hide p1
  replace hsp := hide hsp
  replace m1 := hide m1
  replace m2 := hide m2
  replace f1 := hide f1
  replace f2 := hide f2
  replace lX := hide lX
  replace lY := hide lY
  replace h1 := hide h1
  replace h2 := hide h2
  replace hL := hide hL
  rw [← hN]
  replace hN := hide hN
  clear hX hY hXY own gr
  go_enter Tryz.func59, Tryz.ntmps59
  go_upto_region 2 with fail
  go_wp2_with (refine wpList_copy_splice rfl (.tmp 12) (.tmp 13) 25 25 rfl 5 Tryz.underlying25 hsz _ _ _ _ _ _ rfl rfl w.heap.size 0 L 5 B0 X m1.out p1.out f1.out oX w.heap.size w bel (Nat.le_refl _) ?_)
  intro w2 HG bel2
  have t2 := s2.keep bel2 (Nat.le_refl _)
  clear B0 bel t1 p1 hr
  go_upto_region 3 with fail
  have hle : (n1 : Int) ≤ N := by omega
  have hleN : n1 ≤ N := by omega
  by_cases hz : N = n1
  · subst hz
    obtain rfl : n2 = 0 := by have := hN.out; omega
    have hY0 : ¬ 0 < Y.length := by rw [lY.out]; omega
    have m2' : Y.length = Nat.min 0 0 := lY.out
    go_wp2_with (refine wpList_copy_splice rfl (.tmp 18) (.tmp 19) 25 25 rfl 5 Tryz.underlying25 hsz _ _ _ _ _ _ rfl rfl w.heap.size N (splice L 0 X) 5 HG.out Y m2' (fun h => absurd h hY0) f2.out oY w.heap.size w bel2 (Nat.le_refl _) ?_)
    intro w3 HG3 bel3
    have B3 : Blk w3 w.heap.size (X ++ Y) 5 := by
      have := HG3.out
      rw [hsp.out] at this
      exact this
    clear HG HG3
    go_wp2_with fail
    go_ret
    exact ⟨rfl, B3, bel3⟩
  · have hz' : ¬ N - n1 = 0 := by omega
    go_wp2_with (refine wpList_copy_splice rfl (.tmp 18) (.tmp 19) 25 25 rfl 5 Tryz.underlying25 hsz _ _ _ _ _ _ rfl rfl w.heap.size n1 (splice L 0 X) 5 HG.out Y m2.out (fun h => ⟨rfl, t2.srcU h⟩) f2.out oY w.heap.size w bel2 (Nat.le_refl _) ?_)
    intro w3 HG3 bel3
    have B3 : Blk w3 w.heap.size (X ++ Y) 5 := by
      have := HG3.out
      rw [hsp.out] at this
      exact this
    clear HG HG3
    go_wp2_with fail
    go_ret
    exact ⟨rfl, B3, bel3⟩

theorem ownBlkU {w : World} {g n : Nat} {l : List UInt8} (B : Blk w g (byteCells l) 5) (hn : n = l.length) (few : n ≤ 1000000) : Sl w (some ⟨g, 0, none⟩) n (byteCells l) := by
  refine ⟨.inr ⟨g, 0, rfl, B.lt, fun i v hv => ?_⟩, by rw [hn]; simp [byteCells], by omega, fun h => by cases h⟩
  rw [Nat.zero_add]
  exact (B.cell i).trans hv

set_option maxRecDepth 100000 in
theorem size_any (a1 a2 : Option Addr) (c1 c2 n1 n2 : Nat) (w : World) (few : n1 + n2 ≤ 9223372036854775807) :
    Calls Tryz.prog 98 #[.agg #[.slice a1 n1 c1, .slice a2 n2 c2]] w fun e w' => e = .returned (.int .i64 ((n1 + n2 : Nat) : Int)) ∧ Below w.heap.size w w' := by
  have B0 := Blk.laid w [.slice a1 n1 c1, .slice a2 n2 c2] 27 _ rfl
  have bel := newB (Below.refl w.heap.size w) (.cells #[.slice a1 n1 c1, .slice a2 n2 c2] 27)
  obtain ⟨N, hN⟩ : ∃ N, N = n1 + n2 := ⟨_, rfl⟩
  have hNi : IntKind.i64.wrap ((n1 : Int) + (n2 : Int)) = (N : Int) := by rw [IntKind.wrap_i64]; omega
  have hNi' : (n1 : Int) + (n2 : Int) = (N : Int) := by omega
  rw [← hN]
  clear hN
  go_enter Tryz.func98, Tryz.ntmps98
  go_wp2_with fail
  go_ret
  exact ⟨rfl, bel⟩

end Go.Proofs.YtcjdpilmhlfmfaaGreatDoor

/-
  disk.firstRecord: the record of the first line, and what is behind it.
-/
namespace Go.Proofs.YtcjdpilmhlfmfaaGreatDoor
open Go.RowKit

theorem lfcut_any (s : ByteArray) (w : World) (hg : Gl w) (hs : s.size ≤ 100000) :
    Calls Tryz.prog 99 #[.string s, .string ⟨#[10]⟩] w fun e w' => e = .returned (.tuple #[.string (ofB (lfT (bytes s))), .string (ofB (lfB (bytes s))), .bool (lfY (bytes s))]) ∧ Below w.heap.size w w' := by
  obtain ⟨mx, hmx⟩ := hg.max
  refine (Tryz.strings_Cut s ⟨#[10]⟩ mx w (by omega) hmx).mono ?_
  rintro e w' ⟨rfl, q, rfl⟩
  exact ⟨rfl, belowDrewN (Below.refl _ _) q⟩

set_option maxHeartbeats 1000000 in
set_option maxRecDepth 100000 in
theorem first_any (s : ByteArray) (w : World) (hg : Gl w) (hs : s.size ≤ 60000) :
    Calls Tryz.prog 58 #[.string s] w fun e w' => ∃ a' G, e = .returned (.tuple #[.agg #[.int .i64 (lnR (bytes s)).k, .int .i64 (lnR (bytes s)).s, .int .i64 (lnR (bytes s)).n, .slice a' (lnR (bytes s)).e.length G], .string (ofB (lnB (bytes s))), .int .i64 (lnE (bytes s))]) ∧
      w'.ownsRow w.heap.size 68 3 (.slice a' (lnR (bytes s)).e.length G) (lnR (bytes s)).e.length ((lnR (bytes s)).e.flatMap ec) ∧ Below w.heap.size w w' := by
  have BX := Blk.laid w [.int .i64 0, .int .i64 0, .int .i64 0, .slice none 0 0] 66 _ rfl
  have belX : Below w.heap.size w (w.alloc (.cells #[.int .i64 0, .int .i64 0, .int .i64 0, .slice none 0 0] 66)) := (Below.refl _ _).alloc (Nat.le_refl _) _
  have g1 := hg.alloc (.cells #[.int .i64 0, .int .i64 0, .int .i64 0, .slice none 0 0] 66)
  have cC := fun W g => lfcut_any s W g (by omega)
  have htl : (lfT (bytes s)).length ≤ 60000 := by
    have hb := bytes_len s
    rcases lf_cases (bytes s) with ⟨_, h2, _⟩ | ⟨_, h2, _⟩
    · rw [h2, hb]; exact hs
    · have := congrArg List.length h2
      simp at this
      omega
  have cP := fun W g => parse_is (ofB (lfT (bytes s))) W g (by rw [ofB_size]; omega)
  unfold lnR lnB lnE
  cases hy : lfY (bytes s) with
  | false =>
    rw [hy] at cC
    simp only [Bool.false_eq_true, if_false]
    generalize ofB (lfT (bytes s)) = T at *
    generalize ofB (lfB (bytes s)) = B at *
    go_enter Tryz.func58, Tryz.ntmps58
    go_wp2_with fail
    generalize w.alloc _ = w1 at *
    go_at_call 99
    refine (cC _ g1).mono ?_
    rintro e w2 ⟨rfl, b2⟩
    have BB := BX.keep b2 BX.lt
    have belB := belowCall belX b2
    have r0 := BB.cell 0
    have r1 := BB.cell 1
    have r2 := BB.cell 2
    have r3 := BB.cell 3
    have f0 := BB.free 0
    have f1 := BB.free 1
    have f2 := BB.free 2
    have f3 := BB.free 3
    have lR := BB.lt
    go_wp2_with fail
    have B9 := put4r BB (.int .i64 0) (.int .i64 0) (.int .i64 0) (.slice none 0 0)
    have bel9 := below4r belB (Nat.le_refl _) (.int .i64 0) (.int .i64 0) (.int .i64 0) (.slice none 0 0)
    have i0 := B9.cell 0
    have i1 := B9.cell 1
    have i2 := B9.cell 2
    have i3 := B9.cell 3
    exact bodyPost_ret (v := .tuple #[.agg #[.int .i64 0, .int .i64 0, .int .i64 0, .slice none 0 0], .string ⟨#[]⟩, .int .i64 8]) (by simp [results, Tryz.results58, go_sem, i0, i1, i2, i3]) rfl ⟨none, 0, rfl, World.ownsRow_nil _ _ _ _, bel9⟩
  | true =>
    rw [hy] at cC
    simp only [if_true]
    generalize ofB (lfT (bytes s)) = T at *
    generalize ofB (lfB (bytes s)) = B at *
    generalize parseR T = PR at *
    generalize parseE T = PE at *
    obtain ⟨K, s', m', l⟩ := PR
    simp only at *
    obtain ⟨ln, hln⟩ : ∃ ln, ln = l.length := ⟨_, rfl⟩
    rw [← hln] at cP ⊢
    replace hln := hide hln
    go_enter Tryz.func58, Tryz.ntmps58
    go_wp2_with fail
    generalize w.alloc _ = w1 at *
    go_at_call 99
    refine (cC _ g1).mono ?_
    rintro e w2 ⟨rfl, b2⟩
    have g2 := g1.call b2
    have B2 := BX.keep b2 BX.lt
    have bel2 := belowCall belX b2
    go_wp2_with fail
    go_at_call 100
    refine (cP _ g2).mono ?_
    rintro e w3 ⟨a3, G3, rfl, o3, b3⟩
    have B3 := B2.keep b3 B2.lt
    have bel3 := belowCall bel2 b3
    have B4 := Blk.laid w3 [.int .i64 K, .int .i64 s', .int .i64 m', .slice a3 ln G3] 66 _ rfl
    have bq := newB (Below.refl w3.heap.size w3) (.cells #[.int .i64 K, .int .i64 s', .int .i64 m', .slice a3 ln G3] 66)
    have BB := B3.keep bq B3.lt
    have o4 := o3.alloc (.cells #[.int .i64 K, .int .i64 s', .int .i64 m', .slice a3 ln G3] 66)
    have belB := belowCall bel3 bq
    have o5 := owndown o4 (Nat.le_trans belX.size (Nat.le_trans b2.size (Nat.le_refl _)))
    go_upto_region 5 with fail
    generalize w3.heap.size = g4 at *
    generalize w3.alloc _ = w4 at *
    have y0 := B4.cell 0
    have y1 := B4.cell 1
    have y2 := B4.cell 2
    have y3 := B4.cell 3
    have lY := B4.lt
    have r0 := BB.cell 0
    have r1 := BB.cell 1
    have r2 := BB.cell 2
    have r3 := BB.cell 3
    have f0 := BB.free 0
    have f1 := BB.free 1
    have f2 := BB.free 2
    have f3 := BB.free 3
    have lR := BB.lt
    clear cC cP
    go_wp2_with fail
    have B9 := put4r BB (.int .i64 K) (.int .i64 s') (.int .i64 m') (.slice a3 ln G3)
    have bel9 := below4r belB (Nat.le_refl _) (.int .i64 K) (.int .i64 s') (.int .i64 m') (.slice a3 ln G3)
    have o9 := own4r o5 BB (by decide) (.int .i64 K) (.int .i64 s') (.int .i64 m') (.slice a3 ln G3)
    have i0 := B9.cell 0
    have i1 := B9.cell 1
    have i2 := B9.cell 2
    have i3 := B9.cell 3
    exact bodyPost_ret (v := .tuple #[.agg #[.int .i64 K, .int .i64 s', .int .i64 m', .slice a3 ln G3], .string B, .int .i64 PE]) (by simp [results, Tryz.results58, go_sem, i0, i1, i2, i3]) rfl ⟨a3, G3, rfl, o9, bel9⟩

end Go.Proofs.YtcjdpilmhlfmfaaGreatDoor

/-
  Lists of records of the call's own, and slices of records, with where the entries lie.
-/
namespace Go.Proofs.YtcjdpilmhlfmfaaGreatDoor
open Go.RowKit

/-- A record, and where its entries lie. -/
structure Lrc where
  r : Rc
  a : Option Addr
  c : Nat

def Lrc.cells (x : Lrc) : List Value := [.int .i64 x.r.k, .int .i64 x.r.s, .int .i64 x.r.n, .slice x.a x.r.e.length x.c]
theorem Lrc.four (x : Lrc) : x.cells.length = 4 := rfl

/-- Its entries lie in memory of the call's own. -/
def Lrc.own (base : Nat) (w : World) (x : Lrc) : Prop := w.ownsRow base 68 3 (.slice x.a x.r.e.length x.c) x.r.e.length (x.r.e.flatMap ec)

structure Recs (base : Nat) (w : World) (a : Option Addr) (n G : Nat) (l : List Lrc) : Prop where
  len : n = l.length
  row : w.ownsRow base 66 4 (.slice a n G) n (l.flatMap Lrc.cells)
  own : ∀ x ∈ l, x.own base w

theorem Recs.nil (base : Nat) (w : World) : Recs base w none 0 0 [] := ⟨rfl, World.ownsRow_nil _ _ _ _, fun x h => by simp at h⟩

theorem Recs.call {base : Nat} {w w' : World} {a : Option Addr} {n G : Nat} {l : List Lrc} (h : Recs base w a n G l) (hb : Below w.heap.size w w') : Recs base w' a n G l :=
  ⟨h.len, ownCall h.row hb, fun x hx => ownCall (h.own x hx) hb⟩

theorem Recs.down {base base' : Nat} {w : World} {a : Option Addr} {n G : Nat} {l : List Lrc} (h : Recs base w a n G l) (hb : base' ≤ base) : Recs base' w a n G l :=
  ⟨h.len, owndown h.row hb, fun x hx => owndown (h.own x hx) hb⟩

theorem infoRec : (Tryz.prog.info? 66).map (fun i => (i.zero, i.size, i.bytes)) = some (some (.agg #[.int .i64 0, .int .i64 0, .int .i64 0, .slice none 0 0]), 4, 48) := by kernel_rfl

/-- One more record. -/
theorem Recs.snoc {base : Nat} {w w' : World} {a : Option Addr} {n G : Nat} {l : List Lrc} {v : Value} (h : Recs base w a n G l) (x : Lrc) (hx : x.own base w) (o : w'.ownsRow base 66 4 v (n + 1) (l.flatMap Lrc.cells ++ x.cells)) (gr : w.grownBy w' (Value.slice a n G).ownBlock) :
    ∃ a' G', v = .slice a' (n + 1) G' ∧ Recs base w' a' (n + 1) G' (l ++ [x]) := by
  obtain ⟨g7, G7, rfl⟩ : ∃ g7 G7, v = .slice (some ⟨g7, 0, none⟩) (n + 1) G7 := by
    rcases o.2 with ⟨_, h⟩ | ⟨g, cap, cur, h, _⟩
    · omega
    · exact ⟨_, _, h⟩
  refine ⟨_, _, rfl, by rw [List.length_append, h.len]; rfl, by rw [List.flatMap_append]; simpa using o, fun y hy => ?_⟩
  rcases List.mem_append.1 hy with hy | hy
  · exact ownApart (h.own y hy) gr (apartTy (h.own y hy) h.row (by decide))
  · simp only [List.mem_cons, List.not_mem_nil, or_false] at hy
    subst hy
    exact ownApart hx gr (apartTy hx h.row (by decide))

/-- A list of records, with their entries. -/
structure SlRec (w : World) (a : Option Addr) (cap : Nat) (l : List Lrc) : Prop where
  row : SlW Lrc.cells w a cap l
  ent : ∀ x ∈ l, SlW ec w x.a x.c x.r.e

theorem SlRec.keep {w w' : World} {a : Option Addr} {cap B : Nat} {l : List Lrc} (h : SlRec w a cap l) (hb : Below B w w') (hs : w.heap.size ≤ B) : SlRec w' a cap l :=
  ⟨h.row.keep hb hs, fun x hx => (h.ent x hx).keep hb hs⟩

theorem Recs.sl {base : Nat} {w : World} {a : Option Addr} {n G : Nat} {l : List Lrc} (R : Recs base w a n G l) : SlRec w a G l := by
  obtain ⟨a9, G9, e9, S9, _, _⟩ := SlW.ofOwn Lrc.four (by decide) R.row
  simp only [Value.slice.injEq, true_and] at e9
  obtain ⟨rfl, rfl⟩ := e9
  refine ⟨S9, fun x hx => ?_⟩
  obtain ⟨a5, G5, e5, s5, _, _⟩ := SlW.ofOwn ec_three (by decide) (R.own x hx)
  simp only [Value.slice.injEq, true_and] at e5
  obtain ⟨e1, e2⟩ := e5
  rw [e1, e2]
  exact s5

end Go.Proofs.YtcjdpilmhlfmfaaGreatDoor

/-
  Lists of records of the call's own; disk.safeRecords, disk.Check.
-/
namespace Go.Proofs.YtcjdpilmhlfmfaaGreatDoor
open Go.RowKit
open Go.Lib (byteCells)

def strLen : Value → Nat
  | .string b => b.size
  | _ => 0

set_option maxHeartbeats 2000000 in
set_option maxRecDepth 100000 in
theorem safe_any (d : Dk) (a1 a2 : Option Addr) (c1 c2 n1 n2 : Nat) (w : World) (hg : Gl w) (s1 : Sl w a1 c1 (byteCells d.safe)) (h1 : n1 = d.safe.length) (h2 : n2 = d.wait.length) (few : n1 + n2 ≤ 9223372036854775807) :
    Calls Tryz.prog 57 #[.agg #[.slice a1 n1 c1, .slice a2 n2 c2]] w fun e w' => ∃ (a : Option Addr) (n G : Nat) (l : List Lrc), e = .returned (.tuple #[.slice a n G, .int .i64 (dkE d)]) ∧ Recs w.heap.size w' a n G l ∧ l.map (·.r) = dkL d ∧ Below w.heap.size w w' := by
  have B0 := Blk.laid w [.slice a1 n1 c1, .slice a2 n2 c2] 27 _ rfl
  have bel := newB (Below.refl w.heap.size w) (.cells #[.slice a1 n1 c1, .slice a2 n2 c2] 27)
  have cs := fun W => size_any a1 a2 c1 c2 n1 n2 W few
  have hE : dkE d = if 60000 < n1 + n2 then 2 else (scan 0 d.safe).2 := by unfold dkE; rw [h1, h2]
  have hL : dkE d ≠ 0 → dkL d = [] := fun h => if_neg h
  obtain ⟨N, hN⟩ : ∃ N, N = n1 + n2 := ⟨_, rfl⟩
  rw [← hN] at cs hE
  by_cases hb : 60000 < N
  · rw [if_pos hb] at hE
    rw [hL (by rw [hE]; decide), hE]
    have hb' : (60000 : Int) < N := by omega
    replace h1 := hide h1
    replace h2 := hide h2
    replace hN := hide hN
    clear hE hL
    go_enter Tryz.func57, Tryz.ntmps57
    go_wp2_with fail
    generalize w.alloc _ = w1 at *
    go_at_call 98
    refine (cs _).mono ?_
    rintro e w2 ⟨rfl, b2⟩
    go_wp2_with fail
    go_ret2
    exact ⟨none, 0, 0, [], rfl, Recs.nil _ _, rfl, belowCall bel b2⟩
  · rw [if_neg hb] at hE
    have hb' : ¬ (60000 : Int) < N := by omega
    have hL0 : dkE d = 0 → dkL d = (scan 0 d.safe).1 := fun h => if_pos h
    have hsl : d.safe.length ≤ 60000 := by omega
    have hcv := fun (W : World) (S : Sl W a1 c1 (byteCells d.safe)) => run_str S h1
    obtain ⟨i0, hi, hz0, hz1, hz2⟩ := info_parts infoRec
    generalize dkE d = E at *
    generalize dkL d = DL at *
    generalize hSC : scan 0 d.safe = SC at *
    replace hE := hide hE
    replace hSC := hide hSC
    replace h1 := hide h1
    replace h2 := hide h2
    replace hN := hide hN
    go_enter Tryz.func57, Tryz.ntmps57
    go_wp2_with fail
    generalize w.alloc _ = w1 at *
    go_at_call 98
    refine (cs _).mono ?_
    rintro e w2 ⟨rfl, b2⟩
    have bel2 := belowCall bel b2
    have B2 := B0.keep b2 B0.lt
    have q0 : w2.cell? ⟨w.heap.size, 0, none⟩ = some (.slice a1 n1 c1) := B2.cell 0
    have l2 := B2.lt
    have g2 := hg.call bel2
    have hcv2 := hcv w2 (s1.keep bel2 (Nat.le_refl _))
    go_wp2_with fail
    go_loopw [4, 5] (fun s4 s5 wr => ∃ (rest : ByteArray) (k G : Nat) (ao : Option Addr) (l : List Lrc), s4 = .slice ao k G ∧ s5 = .string rest ∧ Recs w.heap.size wr ao k G l ∧ k ≤ 60 ∧ rest.size ≤ 60000 ∧ Hid (SC = (l.map (·.r) ++ (scan k (bytes rest)).1, (scan k (bytes rest)).2)) ∧ Below w.heap.size w wr) (fun _ s5 _ => strLen s5)
    case atStart => exact ⟨_, 0, 0, none, [], rfl, rfl, Recs.nil _ _, by omega, by show (ofB d.safe).size ≤ _; rw [ofB_size]; exact hsl, by show SC = _; rw [show bytes ⟨d.safe.toArray⟩ = d.safe from bytes_ofB _]; exact hSC.out.symm, bel2⟩
    case round =>
      obtain ⟨rest, k, G, ao, l, rfl, rfl, R, hk, hr, hsc, belr⟩ := hrel
      by_cases hne : rest = ⟨#[]⟩
      · subst hne
        have hs : SC = (l.map (·.r), 0) := by
          rw [hsc.out]
          show ((l.map (·.r)) ++ (scan k []).1, (scan k []).2) = _
          rw [scan_nil, List.append_nil]
        obtain rfl : E = 0 := by rw [hE.out, hs]
        have hDL : l.map (·.r) = DL := by rw [hL0 rfl, hs]
        go_wp2_with fail
        go_ret2
        exact ⟨_, _, _, l, rfl, R, hDL, belr⟩
      · have hne2 : bytes rest ≠ [] := fun h => hne (by rw [← ofB_bytes rest, h]; rfl)
        have hne3 : (rest.toList == []) = false := by rw [toList_bytes]; exact beq_eq_false_iff_ne.2 hne2
        have hne4 : ¬ rest.toList = [] := by rw [toList_bytes]; exact hne2
        have cF := fun W g => first_any rest W g hr
        have gr := hg.call belr
        have hbadE : lnE (bytes rest) ≠ 0 → E = lnE (bytes rest) := by
          intro h
          rw [hE.out, hsc.out, scan_bad hne2 h]
        have hmany : lnE (bytes rest) = 0 → k = 60 → E = 2 := by
          rintro h rfl
          rw [hE.out, hsc.out, scan_many hne2 h]
        have hstep : lnE (bytes rest) = 0 → k ≠ 60 → SC = (l.map (·.r) ++ [lnR (bytes rest)] ++ (scan (k + 1) (lnB (bytes rest))).1, (scan (k + 1) (lnB (bytes rest))).2) := by
          intro h h'
          rw [hsc.out, scan_step hne2 h h']
          simp
        have hlt : lnE (bytes rest) = 0 → (ofB (lnB (bytes rest))).size < rest.size := by
          intro h
          rw [ofB_size, ← bytes_len rest]
          exact lnB_less h
        have hbB : bytes (ofB (lnB (bytes rest))) = lnB (bytes rest) := bytes_ofB _
        obtain ⟨PB, hPB⟩ : ∃ PB, PB = ofB (lnB (bytes rest)) := ⟨_, rfl⟩
        rw [← hbB] at hstep
        rw [← hPB] at hstep hlt
        simp only [← hPB] at cF
        clear hPB hbB
        generalize lnR (bytes rest) = PR at *
        generalize lnE (bytes rest) = PE at *
        obtain ⟨K, s', m', es⟩ := PR
        simp only at *
        obtain ⟨ln, hln⟩ : ∃ ln, ln = es.length := ⟨_, rfl⟩
        rw [← hln] at cF
        replace hln := hide hln
        replace hne2 := hide hne2
        go_wp2_with fail
        go_at_call 58
        refine (cF _ gr).mono ?_
        rintro e w4 ⟨a4, G4, rfl, o4, b4⟩
        have bel4 := belowCall belr b4
        have R4 := R.call b4
        by_cases h0 : PE = 0
        · subst h0
          have BX := Blk.laid w4 [.int .i64 K, .int .i64 s', .int .i64 m', .slice a4 ln G4] 66 _ rfl
          have bq := newB (Below.refl w4.heap.size w4) (.cells #[.int .i64 K, .int .i64 s', .int .i64 m', .slice a4 ln G4] 66)
          have bel5 := belowCall bel4 bq
          have R5 := R4.call bq
          have o5 := owndown (o4.alloc (.cells #[.int .i64 K, .int .i64 s', .int .i64 m', .slice a4 ln G4] 66)) belr.size
          by_cases h6 : k = 60
          · subst h6
            obtain rfl := hmany rfl rfl
            have hDL := hL (by decide)
            go_upto_region 9 with fail
            generalize w4.alloc _ = w5 at *
            go_wp2_with fail
            go_ret2
            exact ⟨none, 0, 0, [], rfl, Recs.nil _ _, hDL.symm, bel5⟩
          · have h6' : ¬ (k : Int) = 60 := by omega
            have hst := hide (hstep rfl h6)
            have hlt' := hlt rfl
            clear hstep hmany hbadE hlt
            go_upto_region 11 with fail
            generalize w4.heap.size = gX at *
            generalize w4.alloc _ = w5 at *
            have x0 := BX.cell 0
            have x1 := BX.cell 1
            have x2 := BX.cell 2
            have x3 := BX.cell 3
            have lX := BX.lt
            go_wp2_with (at_builtin; refine wpList_append_new w5 rfl (.tmp 29) (.tmp 31) 39 rfl w.heap.size 66 i0 _ 4 48 Tryz.underlying39 hi hz0 hz1 hz2 rfl (by decide) (.slice ao k G) k _ (by rfl) R5.row 1 #[.int .i64 K, .int .i64 s', .int .i64 m', .slice a4 ln G4] 66 (by rfl) (by rfl) (by simp [Value.oneCell']) (by decide) (by unfold maxLen; omega) (by omega) bel5.size ?_)
            intro v7 w7 own7 grow7 went7
            have bel7 := belowGrown bel5 R5.row grow7 (Nat.le_refl _) bel5.size
            obtain ⟨a8, G8, rfl, R8⟩ := R5.snoc (x := ⟨⟨K, s', m', es⟩, a4, G4⟩) (by show World.ownsRow _ _ _ _ (.slice a4 es.length G4) es.length _; rw [← hln.out]; exact o5) (by unfold Lrc.cells; simp only; rw [← hln.out]; exact own7) grow7
            go_wp2_with fail
            go_roundw
            case rel => exact ⟨PB, k + 1, G8, a8, l ++ [⟨⟨K, s', m', es⟩, a4, G4⟩], rfl, rfl, R8, by omega, by omega, by rw [List.map_append]; exact hst, bel7⟩
            case measure => exact hlt'
        · obtain rfl := hbadE h0
          have hDL := hL h0
          have hd : decide (E = 0) = false := decide_eq_false h0
          have bq := newB (Below.refl w4.heap.size w4) (.cells #[.int .i64 K, .int .i64 s', .int .i64 m', .slice a4 ln G4] 66)
          have bel5 := belowCall bel4 bq
          go_upto_region 7 with fail
          generalize w4.alloc _ = w5 at *
          go_wp2_with fail
          go_ret2
          exact ⟨none, 0, 0, [], rfl, Recs.nil _ _, hDL.symm, bel5⟩

set_option maxRecDepth 100000 in
theorem dcheck_any (d : Dk) (a1 a2 : Option Addr) (c1 c2 n1 n2 : Nat) (w : World) (hg : Gl w) (s1 : Sl w a1 c1 (byteCells d.safe)) (h1 : n1 = d.safe.length) (h2 : n2 = d.wait.length) (few : n1 + n2 ≤ 9223372036854775807) :
    Calls Tryz.prog 174 #[.agg #[.slice a1 n1 c1, .slice a2 n2 c2]] w fun e w' => e = .returned (.int .i64 (dkE d)) ∧ Below w.heap.size w w' := by
  have bel := newB (Below.refl w.heap.size w) (.cells #[.slice a1 n1 c1, .slice a2 n2 c2] 27)
  have c := fun W g s => safe_any d a1 a2 c1 c2 n1 n2 W g s h1 h2 few
  have g1 := hg.call bel
  have t1 := s1.keep bel (Nat.le_refl _)
  generalize dkE d = E at *
  replace h1 := hide h1
  replace h2 := hide h2
  go_enter Tryz.func174, Tryz.ntmps174
  go_wp2_with fail
  generalize w.alloc _ = w1 at *
  go_at_call 57
  refine (c _ g1 t1).mono ?_
  rintro e w2 ⟨a, n, G, l, rfl, -, -, b2⟩
  go_wp2_with fail
  go_ret
  exact ⟨rfl, belowCall bel b2⟩

end Go.Proofs.YtcjdpilmhlfmfaaGreatDoor

/-
  How an argument that is a disk, by value, is opened: two slices of bytes.
-/
namespace Go.Proofs.YtcjdpilmhlfmfaaGreatDoor
open Go.RowKit Go.ChangeShapes Go.WideShapes Go.ChangeAt Go.Joins
open Go.Lib (byteCells)

end Go.Proofs.YtcjdpilmhlfmfaaGreatDoor
