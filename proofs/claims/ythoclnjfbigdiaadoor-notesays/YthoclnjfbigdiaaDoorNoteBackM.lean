/-
  Records and their texts, as plain lists: a printed record is read as it was, a read one printed as it was. No program is named.
-/
import Derived.Test.YthoclnjfbigdiaaDoorNoteNum
import Derived.Test.YthoclnjfbigdiaaDoorNParse
namespace Go.Proofs.YthoclnjfbigdiaaDoor
open Go.Lib (itoa)

theorem bytes_mk (l : List UInt8) : bytes ⟨l.toArray⟩ = l := by simp [bytes]

theorem chunk_nums : ∀ l : List Nt, chunkL (ntNums l) = l
  | [] => rfl
  | x :: r => by
    have ih := chunk_nums r
    unfold ntNums at ih ⊢
    rw [List.flatMap_cons]
    simp only [List.cons_append, List.nil_append, chunkL, ih]

theorem nums_chunk : ∀ (m : Nat) (ns : List Int), ns.length = m * 3 → ntNums (chunkL ns) = ns
  | 0, [], _ => rfl
  | 0, _ :: _, h => by simp at h
  | m + 1, [], h => by simp at h
  | m + 1, [_], h => by simp at h; omega
  | m + 1, [_, _], h => by simp at h; omega
  | m + 1, a :: b :: c :: r, h => by
    have ih := nums_chunk m r (by simp at h; omega)
    unfold ntNums at ih ⊢
    rw [chunkL, List.flatMap_cons, ih]
    rfl

theorem plain_words (w : List UInt8) (ns : List Int) (hw : ∀ c ∈ w, c ≠ 32) : sp (w ++ numsT ns) = w :: ns.map itoa := by
  have h := sp_jn (ns.map itoa) w (fun x hx => by
    rcases List.mem_cons.1 hx with rfl | hx
    · exact hw
    · obtain ⟨n, _, rfl⟩ := List.mem_map.1 hx
      exact itoa_plain n)
  rw [jn32, ← numsT_map] at h
  exact h

theorem read_words (w : List UInt8) (ns : List Int) (hw : ∀ c ∈ w, c ≠ 32) (hb : ∀ n ∈ ns, -9223372036854775808 ≤ n ∧ n ≤ 9223372036854775807) :
    textR ⟨(w ++ numsT ns).toArray⟩ = (if w = wBatch ∧ ns.length % 3 = 0 then some ⟨1, 0, 0, chunkL ns⟩ else if w = wSeal ∧ ns.length = 2 then some ⟨2, ns.getD 0 0, ns.getD 1 0, []⟩ else if w = wMerge ∧ ns.length = 2 then some ⟨3, ns.getD 0 0, ns.getD 1 0, []⟩ else if w = wDrop ∧ ns.length = 1 then some ⟨4, 0, ns.getD 0 0, []⟩ else none) := by
  rw [textR_sp, bytes_mk, plain_words w ns hw]
  simp only [readR, readNums_itoa ns hb, Option.bind_some]

/-- A printed record is read as it was. -/
theorem back_read {r : Rc} (h : recE r = 0) : textR ⟨(recT r).toArray⟩ = some r ∧ (recT r).length ≤ 60000 := by
  by_cases h1 : r.k = 1
  · obtain ⟨e1, e2, e3, e4⟩ := recE_few h h1
    have eT : recT r = wBatch ++ numsT (ntNums r.e) := by unfold recT; rw [if_pos h, if_pos h1]
    have hl := numsT_le (ntNums r.e) (nums_in e4)
    rw [ntNums_length] at hl
    rw [eT]
    refine ⟨?_, by rw [List.length_append]; have : wBatch.length = 5 := rfl; omega⟩
    rw [read_words wBatch _ (by decide) (nums_in e4), if_pos ⟨rfl, by rw [ntNums_length]; omega⟩, chunk_nums]
    obtain ⟨k, s, m, l⟩ := r
    simp only at *
    subst h1
    subst e1
    subst e2
    rfl
  · obtain ⟨hk, e1, e2, e3, e4, e5, e6⟩ := recE_plain h h1
    obtain ⟨k, s, m, l⟩ := r
    simp only at *
    subst e1
    have hb2 : ∀ n ∈ [s, m], -9223372036854775808 ≤ n ∧ n ≤ 9223372036854775807 := by
      intro n hn
      simp at hn
      omega
    have hb1 : ∀ n ∈ [m], -9223372036854775808 ≤ n ∧ n ≤ 9223372036854775807 := by
      intro n hn
      simp at hn
      omega
    have l2 := numsT_le [s, m] hb2
    have l1 := numsT_le [m] hb1
    simp only [List.length_cons, List.length_nil] at l1 l2
    rcases hk with rfl | rfl | rfl
    · have eT : recT ⟨2, s, m, []⟩ = wSeal ++ numsT [s, m] := by unfold recT; rw [if_pos h]; rfl
      rw [eT]
      refine ⟨?_, by rw [List.length_append]; have : wSeal.length = 4 := rfl; omega⟩
      rw [read_words wSeal _ (by decide) hb2]
      rfl
    · have eT : recT ⟨3, s, m, []⟩ = wMerge ++ numsT [s, m] := by unfold recT; rw [if_pos h]; rfl
      rw [eT]
      refine ⟨?_, by rw [List.length_append]; have : wMerge.length = 5 := rfl; omega⟩
      rw [read_words wMerge _ (by decide) hb2]
      rfl
    · obtain rfl := e2 rfl
      have eT : recT ⟨4, 0, m, []⟩ = wDrop ++ numsT [m] := by unfold recT; rw [if_pos h]; rfl
      rw [eT]
      refine ⟨?_, by rw [List.length_append]; have : wDrop.length = 4 := rfl; omega⟩
      rw [read_words wDrop _ (by decide) hb1]
      rfl

/-- A read record is printed as it was. -/
theorem back_print {s : ByteArray} {r : Rc} (h : textR s = some r) (h0 : recE r = 0) : recT r = bytes s := by
  rw [textR_sp] at h
  have hj := jn_sp (bytes s)
  obtain ⟨w, ws, hw⟩ := List.exists_cons_of_ne_nil (sp_ne (bytes s))
  rw [hw] at h hj
  rw [jn32] at hj
  simp only [readR] at h
  cases hr : readNums ws with
  | none => rw [hr] at h; cases h
  | some ns =>
    rw [hr] at h
    simp only [Option.bind_some] at h
    have hws := readNums_back ws ns hr
    rw [hws, ← numsT_map] at hj
    split at h
    · rename_i hc
      obtain ⟨rfl, h3⟩ := hc
      simp only [Option.some.injEq] at h
      subst h
      unfold recT
      rw [if_pos h0, if_pos rfl, nums_chunk (ns.length / 3) ns (by omega)]
      exact hj
    · split at h
      · rename_i hc
        obtain ⟨rfl, h2⟩ := hc
        match ns, h2 with
        | [a, b], _ =>
          simp only [Option.some.injEq] at h
          subst h
          unfold recT
          rw [if_pos h0]
          exact hj
      · split at h
        · rename_i hc
          obtain ⟨rfl, h2⟩ := hc
          match ns, h2 with
          | [a, b], _ =>
            simp only [Option.some.injEq] at h
            subst h
            unfold recT
            rw [if_pos h0]
            exact hj
        · split at h
          · rename_i hc
            obtain ⟨rfl, h2⟩ := hc
            match ns, h2 with
            | [a], _ =>
              simp only [Option.some.injEq] at h
              subst h
              unfold recT
              rw [if_pos h0]
              exact hj
          · cases h

/-- Unlike records have unlike texts. -/
theorem recT_inj {r q : Rc} (hr : recE r = 0) (hq : recE q = 0) (h : recT r = recT q) : r = q := by
  have h1 := (back_read hr).1
  rw [h, (back_read hq).1] at h1
  exact (Option.some.inj h1).symm

end Go.Proofs.YthoclnjfbigdiaaDoor
