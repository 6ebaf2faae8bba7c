/-
  Texts as records, as plain lists: what note.read and note.Parse say. No program is named.
-/
import Derived.Test.YthoclnjfbigdiaaDoorNRead
import Derived.Test.YthoclnjfbigdiaaDoorNEntries
namespace Go.Proofs.YthoclnjfbigdiaaDoor

/-- The record that words tell. -/
def readR : List (List UInt8) → Option Rc
  | [] => none
  | w :: r => (readNums r).bind fun ns =>
    if w = wBatch ∧ ns.length % 3 = 0 then some ⟨1, 0, 0, chunkL ns⟩
    else if w = wSeal ∧ ns.length = 2 then some ⟨2, ns.getD 0 0, ns.getD 1 0, []⟩
    else if w = wMerge ∧ ns.length = 2 then some ⟨3, ns.getD 0 0, ns.getD 1 0, []⟩
    else if w = wDrop ∧ ns.length = 1 then some ⟨4, 0, ns.getD 0 0, []⟩
    else none

def blank : ByteArray := ⟨#[32]⟩

def wordsB (s : ByteArray) : List ByteArray := Lib.splitB blank 0 (Lib.countB s blank) s

def textR (s : ByteArray) : Option Rc := readR ((wordsB s).map bytes)

theorem split_small (sep : ByteArray) (sv : Nat) : ∀ (k : Nat) (s b : ByteArray), b ∈ Lib.splitB sep sv k s → b.size ≤ s.size
  | 0, s, b, h => by
    rw [Lib.splitB_zero] at h
    simp at h
    subst h
    exact Nat.le_refl _
  | k + 1, s, b, h => by
    unfold Lib.splitB at h
    split at h
    · simp at h
      subst h
      exact Nat.le_refl _
    · rcases List.mem_cons.1 h with h | h
      · subst h
        rw [ByteArray.size_extract]
        omega
      · have := split_small sep sv k _ b h
        rw [ByteArray.size_extract] at this
        omega

theorem chunk_length : ∀ (m : Nat) (ns : List Int), ns.length = m * 3 → (chunkL ns).length = m := fun m ns h => by
  rw [← chunk_range m ns h]
  simp

end Go.Proofs.YthoclnjfbigdiaaDoor
