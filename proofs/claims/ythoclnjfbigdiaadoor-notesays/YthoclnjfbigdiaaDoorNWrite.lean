/-
  note.write: a word and numbers, a blank ahead of each.
-/
import Derived.Test.YthoclnjfbigdiaaDoorNGlob
import Derived.Test.YthoclnjfbigdiaaDoorNoteMath
namespace Go.Proofs.YthoclnjfbigdiaaDoor
open Go.RowKit

theorem cells_of {l : List UInt8} {a : Array UInt8} (h : l = a.toList) : (⟨l.toArray⟩ : ByteArray) = ⟨a⟩ := by subst h; simp

set_option maxHeartbeats 1000000 in
set_option maxRecDepth 100000 in
theorem write_any (wd : ByteArray) (ns : List Int) (a : Option Addr) (cap n : Nat) (w : World) (hg : Gl w) (S : Sl w a cap (ns.map (Value.int .i64))) (hn : n = ns.length) (hb : ∀ m ∈ ns, -9223372036854775808 ≤ m ∧ m ≤ 9223372036854775807) (few : n ≤ 1000) (hw : wd.size ≤ 1000) :
    Calls Tryd.prog 24 #[.string wd, .slice a n cap] w fun e w' => e = .returned (.string ⟨(wd.data.toList ++ numsT ns).toArray⟩) ∧ Below w.heap.size w w' := by
  replace hn := hide hn
  have I0 := Lib.IsBuilderF.of (Lib.fresh_isBuilder 83 5 w)
  have bel : Below w.heap.size w (w.alloc (.cells #[.pointer none, .slice none 0 0] 83)) := (Below.refl _ _).alloc (Nat.le_refl _) _
  go_enter Tryd.func24, Tryd.ntmps24
  go_wp2_with fail
  generalize w.alloc _ = w1 at *
  go_at_call 45
  refine (writeString w.heap.size w.heap.size [] wd _ I0 (by simp; omega) bel.size).mono ?_
  rintro e w2 ⟨rfl, I1, b2, -⟩
  have bel2 : Below w.heap.size w w2 := bel.trans b2
  replace I1 : Lib.IsBuilderF 83 5 w.heap.size w.heap.size (Lib.byteCells (wd.data.toList ++ numsT (ns.take 0))) w2 := .inr (by simpa [numsT, Lib.strCells_eq] using I1)
  clear I0 b2 bel
  go_wp2_with fail
  go_loopw [12] (fun i wr => ∃ (k : Nat), k ≤ n ∧ i = .int .i64 k ∧ Lib.IsBuilderF 83 5 w.heap.size w.heap.size (Lib.byteCells (wd.data.toList ++ numsT (ns.take k))) wr ∧ Below w.heap.size w wr) (fun i _ => n - (intOf i).toNat)
  case atStart => exact ⟨0, Nat.zero_le _, rfl, I1, bel2⟩
  case round =>
    clear I1 bel2
    obtain ⟨k, hk, rfl, I1, bel⟩ := hrel
    by_cases hlt : k < n
    · have hkl : k < ns.length := by rw [← hn.out]; exact hlt
      obtain ⟨m, hm⟩ : ∃ m, ns[k]? = some m := ⟨_, List.getElem?_eq_getElem hkl⟩
      have hm2 := hb m (List.mem_of_getElem? hm)
      have S1 := S.keep bel (Nat.le_refl _)
      obtain ⟨b1, o1, rfl, -, hc⟩ := S1.row.at (by intro h; have := congrArg List.length h; simp at this; subst this; simp at hkl)
      have d0 : wr.cell? ⟨b1, o1 + k, none⟩ = some (.int .i64 m) := hc k _ (by rw [List.getElem?_map, hm]; rfl)
      have g1 := hg.call bel
      have hle := numsT_le (ns.take k) (fun q hq => hb q (List.mem_of_mem_take hq))
      have hlen : (Lib.byteCells (wd.data.toList ++ numsT (ns.take k))).length ≤ 30000 := by
        rw [Lib.byteCells_length, List.length_append]
        have h1 : (ns.take k).length ≤ 1000 := by rw [List.length_take]; omega
        have h2 : wd.data.toList.length = wd.size := rfl
        omega
      have hit := itoa_le m hm2.1 hm2.2
      have hT : Lib.byteCells (wd.data.toList ++ numsT (ns.take k)) ++ [Value.int .u8 32] ++ Lib.strCells ⟨(Lib.itoa m).toArray⟩ = Lib.byteCells (wd.data.toList ++ numsT (ns.take (k + 1))) := by
        rw [List.take_add_one, hm]
        simp only [Option.toList_some]
        rw [numsT_snoc, Lib.strCells_eq, ← List.append_assoc, Lib.byteCells_append (_ ++ _) (32 :: _)]
        rw [List.append_assoc]
        rfl
      generalize Lib.byteCells (wd.data.toList ++ numsT (ns.take k)) = X at *
      replace hT := hide hT
      replace hm := hide hm
      clear S1 hc hkl hle
      go_wp2_with fail
      go_at_call 46
      refine (writeByte w.heap.size w.heap.size X 32 _ I1 (by omega) bel.size).mono ?_
      rintro e w3 ⟨rfl, I3, b3, -⟩
      have bel3 : Below w.heap.size w w3 := bel.trans b3
      have g3 := hg.call bel3
      go_wp2_with fail
      go_at_call 29
      refine (Tryd.strconv_Itoa m hm2.1 hm2.2 _ g3.tab).mono ?_
      rintro e w4 ⟨rfl, q, os, hw4⟩
      have b4 : Below w3.heap.size w3 w4 := by rw [hw4]; exact Lib.below_grow _ _ (Nat.le_refl _) _ _
      have I4 := isB_call (.inr I3) b4
      have bel4 := belowCall bel3 b4
      clear hw4 I3 b3 bel3 g3
      go_wp2_with fail
      go_at_call 45
      refine (writeString w.heap.size w.heap.size _ ⟨(Lib.itoa m).toArray⟩ _ I4 (by simp [ByteArray.size]; omega) bel4.size).mono ?_
      rintro e w5 ⟨rfl, I5, b5, -⟩
      rw [hT.out] at I5
      have bel5 : Below w.heap.size w w5 := bel4.trans b5
      clear I4 b4 b5 bel4
      go_wp2_with fail
      go_roundw
      case rel => exact ⟨k + 1, by omega, by go_num, .inr I5, bel5⟩
      case measure => simp [intOf]; omega
    · obtain rfl : n = k := by omega
      rw [List.take_of_length_le (by rw [← hn.out]; exact Nat.le_refl _)] at I1
      go_wp2_with fail
      go_at_call 47
      refine (Tryd.Builder_String_any_k w.heap.size w.heap.size _ _ I1 bel.size).mono ?_
      rintro e w5 ⟨rfl, -, b5, -⟩
      go_wp2_with fail
      go_ret
      exact ⟨rfl, bel.trans b5⟩

end Go.Proofs.YthoclnjfbigdiaaDoor
