/-
  What a batch makes of a shelf, as plain lists; how a copy of a shelf stays. No function of the program is named.
-/
import Derived.Test.YtabeihkfjlmepaaP07
import Derived.Test.YtabeihkfjlmepaaP06
namespace Go.Proofs.Ytabeihkfjlmepaa
open Go.RowKit

def putRow (l : List Rw) (x : En) : Rw := ⟨(l.getD x.s.toNat rw0).blocks, (l.getD x.s.toNat rw0).head ++ [(x.t, x.v)]⟩

def putRowE (l : List Rw) (x : En) : Int := if inI x.s 0 3 = false then 5 else rowE (putRow l x)

def putRowL (l : List Rw) (x : En) : List Rw := l.set x.s.toNat (putRow l x)

def putsE : List Rw → List En → Int
  | _, [] => 0
  | l, x :: r => if putRowE l x = 0 then putsE (putRowL l x) r else putRowE l x

def putsL : List Rw → List En → List Rw
  | l, [] => l
  | l, x :: r => putsL (putRowL l x) r

def bputE (l : List Rw) (b : List En) : Int := if 10 < b.length then 2 else putsE l b

def bputL (l : List Rw) (b : List En) : List Rw := if bputE l b = 0 then putsL l b else []

theorem putRowE_zero {l : List Rw} {x : En} (h : putRowE l x = 0) : inI x.s 0 3 = true ∧ rowE (putRow l x) = 0 := by
  unfold putRowE at h
  split at h
  · cases h
  · rename_i h0
    exact ⟨by simpa using h0, h⟩

theorem Right.put {l : List Rw} (h : Right l) {x : En} (hx : putRowE l x = 0) : Right (putRowL l x) := by
  obtain ⟨_, h1⟩ := putRowE_zero hx
  obtain ⟨z1, z2, z3⟩ := rowE_zero h1
  refine ⟨by unfold putRowL; rw [List.length_set]; exact h.four, fun r hr => ?_⟩
  rcases List.mem_or_eq_of_mem_set hr with hr | rfl
  · exact h.few r hr
  · have := (checkE_zero z3).1
    unfold allPts at this
    rw [List.length_append] at this
    exact ⟨z1, by omega⟩

theorem inI_nat {s : Int} (h : inI s 0 3 = true) : ∃ k : Nat, s = k ∧ k < 4 := by
  unfold inI at h
  have : 0 ≤ s ∧ s ≤ 3 := by simpa using h
  exact ⟨s.toNat, by omega, by omega⟩

end Go.Proofs.Ytabeihkfjlmepaa
