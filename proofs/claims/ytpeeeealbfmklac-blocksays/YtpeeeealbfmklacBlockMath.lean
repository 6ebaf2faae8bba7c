/-
  Blocks as plain lists and numbers: what a list of points is as a block (makeB, makeE), the points of a block (ptsL, ptsE), two merged (mergeB, mergeE); and that they agree with one another. No program is named.
-/
import Derived.Test.YtpeeeealbfmklacLineMore
import Derived.Test.YtpeeeealbfmklacUnpack
import Derived.Test.YtpeeeealbfmklacSumMath
namespace Go.Proofs.Ytpeeeealbfmklac
open Go.RowKit

structure Bk where
  n : Int
  fr : Int
  to : Int
  bits : List Bool

def bk0 : Bk := ⟨0, 0, 0, []⟩

/-- The value that is a block whose bits lie there. -/
def bkV (b : Bk) (ao : Option Addr) (cap : Nat) : Value := .agg #[.int .i64 b.n, .int .i64 b.fr, .int .i64 b.to, .slice ao b.bits.length cap]

def Bk.cells (b : Bk) (ao : Option Addr) (cap : Nat) : List Value := [.int .i64 b.n, .int .i64 b.fr, .int .i64 b.to, .slice ao b.bits.length cap]

def firstT (l : List Pt) : Int := (l.getD 0 (0, 0)).1
def endT (l : List Pt) : Int := (l.getD (l.length - 1) (0, 0)).1

def makeE (l : List Pt) : Int := if checkE l = 0 then (if l.length = 0 then 4 else 0) else checkE l
def makeB (l : List Pt) : Bk := if makeE l = 0 then ⟨l.length, firstT l, endT l, packL l⟩ else bk0

def fitsB (b : Bk) (l : List Pt) : Bool := decide (0 < l.length ∧ b.fr = firstT l ∧ b.to = endT l)
def ptsE (b : Bk) : Int := if unpE b.bits b.n = 0 then (if fitsB b (unpL b.bits b.n) = true then 0 else 4) else unpE b.bits b.n
def ptsL (b : Bk) : List Pt := if ptsE b = 0 then unpL b.bits b.n else []

def mergeE (a b : Bk) : Int := if ptsE a = 0 then (if ptsE b = 0 then makeE (ptsL a ++ ptsL b) else ptsE b) else ptsE a
def mergeB (a b : Bk) : Bk := if ptsE a = 0 ∧ ptsE b = 0 then makeB (ptsL a ++ ptsL b) else bk0

def sameB (a b : Bk) : Bool := decide (a.n = b.n) && decide (a.fr = b.fr) && decide (a.to = b.to) && decide (a.bits = b.bits)

theorem sameB_self (b : Bk) : sameB b b = true := by simp [sameB]

theorem ptsL_length (b : Bk) : (ptsL b).length ≤ 40 := by
  unfold ptsL
  split
  · exact unpL_length _ _
  · simp

theorem makeB_bits (l : List Pt) : (makeB l).bits.length ≤ 2560 := by
  unfold makeB
  split
  · exact packL_length l
  · simp [bk0]

theorem mergeB_bits (a b : Bk) : (mergeB a b).bits.length ≤ 2560 := by
  unfold mergeB
  split
  · exact makeB_bits _
  · simp [bk0]

theorem makeE_zero {l : List Pt} (h : checkE l = 0) (hl : 0 < l.length) : makeE l = 0 := by
  unfold makeE
  rw [if_pos h, if_neg (by omega)]

theorem makeB_eq {l : List Pt} (h : checkE l = 0) (hl : 0 < l.length) : makeB l = ⟨l.length, firstT l, endT l, packL l⟩ := by
  unfold makeB
  rw [if_pos (makeE_zero h hl)]

/-- The points of a block that was made. -/
theorem pts_make {l : List Pt} (h : checkE l = 0) (hl : 0 < l.length) : ptsE (makeB l) = 0 ∧ ptsL (makeB l) = l := by
  obtain ⟨h1, h2⟩ := pack_unpack h
  have he : ptsE (makeB l) = 0 := by
    unfold ptsE
    rw [makeB_eq h hl]
    simp only [h1, h2]
    have hf : fitsB ⟨l.length, firstT l, endT l, packL l⟩ l = true := decide_eq_true ⟨hl, rfl, rfl⟩
    rw [if_pos trivial, if_pos hf]
  refine ⟨he, ?_⟩
  unfold ptsL
  rw [if_pos he, makeB_eq h hl]
  exact h1

theorem merge_make {p q : List Pt} (hp : checkE p = 0) (hq : checkE q = 0) (h : checkE (p ++ q) = 0) (lp : 0 < p.length) (lq : 0 < q.length) : mergeE (makeB p) (makeB q) = 0 ∧ mergeB (makeB p) (makeB q) = makeB (p ++ q) := by
  obtain ⟨e1, l1⟩ := pts_make hp lp
  obtain ⟨e2, l2⟩ := pts_make hq lq
  constructor
  · unfold mergeE
    rw [if_pos e1, if_pos e2, l1, l2]
    exact makeE_zero h (by rw [List.length_append]; omega)
  · unfold mergeB
    rw [if_pos ⟨e1, e2⟩, l1, l2]

theorem chk_late : ∀ (l : List Pt) (a b : Int), b ≤ a → chk a l = 0 → chk b l = 0
  | [], _, _, _, _ => rfl
  | p :: r, a, b, hab, h => by
    obtain ⟨h1, h2, h3⟩ := chk_cons h
    unfold chk
    rw [if_neg (by rw [h1]; decide), if_neg (by omega)]
    exact h3

theorem lastT_ge : ∀ (l : List Pt) (a : Int), chk a l = 0 → a ≤ lastT a l
  | [], a, _ => Int.le_refl a
  | p :: r, a, h => by
    obtain ⟨_, h2, h3⟩ := chk_cons h
    have := lastT_ge r p.1 h3
    show a ≤ lastT p.1 r
    omega

theorem check_drop {l : List Pt} (h : checkE l = 0) (k : Nat) : checkE (l.drop k) = 0 := by
  obtain ⟨h40, hc⟩ := checkE_zero h
  unfold checkE
  rw [if_neg (by rw [List.length_drop]; omega)]
  rw [← List.take_append_drop k l, chk_append] at hc
  split at hc
  · rename_i h0
    exact chk_late _ _ _ (lastT_ge _ _ h0) hc
  · exact absurd hc (by assumption)

end Go.Proofs.Ytpeeeealbfmklac
