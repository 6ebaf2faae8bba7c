/-
  Points as the document tells of them: what is wrong with a list of points (chk), their bits (pk), and the points of bits (unp); no program is named.
-/
import Derived.Test.YthoclnjfbigdiaaDoorZigMath
import Derived.Test.YthoclnjfbigdiaaDoorPoints
namespace Go.Proofs.YthoclnjfbigdiaaDoor
open Go.RowKit

def ptOk (p : Pt) : Bool := decide (0 ≤ p.1 ∧ p.1 ≤ 100000 ∧ -1000000 ≤ p.2 ∧ p.2 ≤ 1000000)

def chk : Int → List Pt → Int
  | _, [] => 0
  | last, p :: r => if ptOk p = false then 3 else if p.1 ≤ last then 7 else chk p.1 r

def checkE (l : List Pt) : Int := if 40 < l.length then 2 else chk (-1) l

def pk : Int → Int → Int → List Pt → List Bool
  | _, _, _, [] => []
  | t, v, s, p :: r => code 8 (foldN (p.1 - t - s)) ++ code 8 (foldN (p.2 - v)) ++ pk p.1 p.2 (p.1 - t) r

def packL (l : List Pt) : List Bool := if checkE l = 0 then pk 0 0 0 l else []

def unp : Nat → Int → Int → Int → Int → List Bool → List Pt × Int
  | 0, _, _, _, _, b => ([], if b.length = 0 then 0 else 8)
  | n + 1, t, v, s, last, b =>
    if zigF b ≠ 0 then ([], zigF b) else
    if zigF (zigR b) ≠ 0 then ([], zigF (zigR b)) else
    if ptOk (t + (s + zigN b), v + zigN (zigR b)) = false then ([], 3) else
    if t + (s + zigN b) ≤ last then ([], 7) else
    (if (unp n (t + (s + zigN b)) (v + zigN (zigR b)) (s + zigN b) (t + (s + zigN b)) (zigR (zigR b))).2 = 0 then (t + (s + zigN b), v + zigN (zigR b)) :: (unp n (t + (s + zigN b)) (v + zigN (zigR b)) (s + zigN b) (t + (s + zigN b)) (zigR (zigR b))).1 else [],
      (unp n (t + (s + zigN b)) (v + zigN (zigR b)) (s + zigN b) (t + (s + zigN b)) (zigR (zigR b))).2)

def unpIn (n : Int) : Bool := decide (0 ≤ n ∧ n ≤ 40)
def unpL (b : List Bool) (n : Int) : List Pt := if unpIn n then (unp n.toNat 0 0 0 (-1) b).1 else []
def unpE (b : List Bool) (n : Int) : Int := if unpIn n then (unp n.toNat 0 0 0 (-1) b).2 else 2

theorem ptOk_true {p : Pt} (h : ptOk p = true) : 0 ≤ p.1 ∧ p.1 ≤ 100000 ∧ -1000000 ≤ p.2 ∧ p.2 ≤ 1000000 := of_decide_eq_true h
theorem ptOk_false {p : Pt} (h : ptOk p = false) : ¬ (0 ≤ p.1 ∧ p.1 ≤ 100000 ∧ -1000000 ≤ p.2 ∧ p.2 ≤ 1000000) := of_decide_eq_false h

def lastT : Int → List Pt → Int
  | a, [] => a
  | _, p :: r => lastT p.1 r

theorem lastT_snoc : ∀ (a : Int) (l : List Pt) (p : Pt), lastT a (l ++ [p]) = p.1
  | _, [], p => rfl
  | _, q :: r, p => by simpa [lastT] using lastT_snoc q.1 r p

theorem chk_append : ∀ (a : Int) (l m : List Pt), chk a (l ++ m) = if chk a l = 0 then chk (lastT a l) m else chk a l
  | a, [], m => by simp [chk, lastT]
  | a, q :: r, m => by
    simp only [List.cons_append, chk, lastT]
    split
    · simp
    split
    · simp
    · exact chk_append q.1 r m

theorem chk_cons {a : Int} {p : Pt} {r : List Pt} (h : chk a (p :: r) = 0) : ptOk p = true ∧ a < p.1 ∧ chk p.1 r = 0 := by
  unfold chk at h
  split at h
  · cases h
  split at h
  · cases h
  rename_i h1 h2
  exact ⟨by simpa using h1, by omega, h⟩

/-- Numbers of points that may be, told by the one ahead, can be written. -/
theorem zig_fits {t v s last : Int} {p : Pt} {r : List Pt} (h : chk last (p :: r) = 0) (ht : 0 ≤ t ∧ t ≤ 100000) (hl : t ≤ last + 1) (hv : -1000000 ≤ v ∧ v ≤ 1000000) (hs : 0 ≤ s ∧ s ≤ 100000) :
    zigOk (p.1 - t - s) = true ∧ zigOk (p.2 - v) = true ∧ (0 ≤ p.1 ∧ p.1 ≤ 100000) ∧ (-1000000 ≤ p.2 ∧ p.2 ≤ 1000000) ∧ (0 ≤ p.1 - t ∧ p.1 - t ≤ 100000) := by
  obtain ⟨h1, h2, _⟩ := chk_cons h
  have h3 := ptOk_true h1
  refine ⟨decide_eq_true ?_, decide_eq_true ?_, ?_, ?_, ?_⟩ <;> omega

theorem pk_length : ∀ (t v s : Int) (l : List Pt), (pk t v s l).length ≤ 64 * l.length
  | _, _, _, [] => by simp [pk]
  | t, v, s, p :: r => by
    have h1 := code_len_le 8 (foldN (p.1 - t - s))
    have h2 := code_len_le 8 (foldN (p.2 - v))
    have h3 := pk_length p.1 p.2 (p.1 - t) r
    simp only [pk, List.length_append, List.length_cons]
    omega

theorem chk_errs : ∀ (a : Int) (l : List Pt), chk a l = 0 ∨ chk a l = 3 ∨ chk a l = 7
  | _, [] => .inl rfl
  | a, p :: r => by
    unfold chk
    split
    · simp
    split
    · simp
    · exact chk_errs p.1 r

theorem zigN_bound {b : List Bool} (h : zigF b = 0) : -4000000 ≤ zigN b ∧ zigN b ≤ 4000000 := of_decide_eq_true (zig_put b h).1

end Go.Proofs.YthoclnjfbigdiaaDoor
