/-
  Texts as numbers, as plain lists: what note.readNumbers says. No program is named.
-/
import Derived.Test.YthoclnjfbigdiaaDoorNoteMath
import Derived.Lib.AtoiAllCases
namespace Go.Proofs.YthoclnjfbigdiaaDoor

/-- The number that a word writes, if it writes one as strconv.Itoa does. -/
def readNum (w : List UInt8) : Option Int :=
  match Lib.atoiAll w with
  | .ok v => if Lib.itoa v = w then some v else none
  | _ => none

def readNums : List (List UInt8) → Option (List Int)
  | [] => some []
  | w :: r => (readNum w).bind fun v => (readNums r).map (v :: ·)

theorem readNums_snoc (l : List (List UInt8)) (w : List UInt8) (vs : List Int) (h : readNums l = some vs) : readNums (l ++ [w]) = (readNum w).map fun v => vs ++ [v] := by
  induction l generalizing vs with
  | nil =>
    simp only [readNums, Option.some.injEq] at h
    subst h
    simp only [List.nil_append, readNums]
    cases readNum w <;> rfl
  | cons x r ih =>
    simp only [readNums] at h
    cases hx : readNum x with
    | none => rw [hx] at h; cases h
    | some v =>
      rw [hx] at h
      simp only [Option.bind_some] at h
      cases hr : readNums r with
      | none => rw [hr] at h; cases h
      | some vr =>
        rw [hr] at h
        simp only [Option.map_some, Option.some.injEq] at h
        subst h
        simp only [List.cons_append, readNums, hx, Option.bind_some, ih vr hr]
        cases readNum w <;> rfl

theorem readNums_bad (l : List (List UInt8)) (w : List UInt8) (r : List (List UInt8)) (h : readNum w = none) : readNums (l ++ w :: r) = none := by
  induction l with
  | nil => simp only [List.nil_append, readNums, h, Option.bind_none]
  | cons x q ih =>
    simp only [List.cons_append, readNums, ih]
    cases readNum x <;> rfl

theorem readNums_length : ∀ (l : List (List UInt8)) (vs : List Int), readNums l = some vs → vs.length = l.length
  | [], vs, h => by simp only [readNums, Option.some.injEq] at h; subst h; rfl
  | w :: r, vs, h => by
    simp only [readNums] at h
    cases hx : readNum w with
    | none => rw [hx] at h; cases h
    | some v =>
      rw [hx] at h
      simp only [Option.bind_some] at h
      cases hr : readNums r with
      | none => rw [hr] at h; cases h
      | some vr =>
        rw [hr] at h
        simp only [Option.map_some, Option.some.injEq] at h
        subst h
        simp [readNums_length r vr hr]

end Go.Proofs.YthoclnjfbigdiaaDoor
