/-
  copy of a whole slice into a row that the call itself made, whatever the width of an element.
-/
import Derived.Laws.CopyOwn
import Derived.Test.YtcjdpilmhlfmfaaGreatDoorP06
import Derived.Test.YtcjdpilmhlfmfaaGreatDoorP01
import Derived.Test.YtcjdpilmhlfmfaaGreatDoorP14
namespace Go.Proofs.YtcjdpilmhlfmfaaGreatDoor
open Go.RowKit

theorem run_copy_whole {P : Program} (w : World) (dT sT ty elem : TypeId) (size g n dCap : Nat) (a : Addr) (sCap : Nat) (cur : List Value) (t : TypeId) (cs : List Value)
    (hu : P.underlying dT = some (.slice elem)) (hs : (P.info? elem).map (·.size) = some size)
    (hg : w.heap[g]? = some (.cells cur.toArray t (0, 0))) (hn : cs.length = n * size)
    (hsrc : ∀ j v, cs[j]? = some v → w.cell? (a.add j) = some v) (hfit : cs.length = cur.length) (h1 : ∀ v ∈ cs, v.oneCell' = true) :
    (Builtin.copy_ #[dT, sT] ty #[.slice (some ⟨g, 0, none⟩) n dCap, .slice (some a) n sCap]).run P w =
      .ok (goInt n) (w.setRow g cs.toArray) := by
  have hl := run_loadCells_list (P := P) w a cs hsrc
  have hst := run_storeCells_at P g 0 t cs 0 cur.toArray w hg (by simp; omega) h1
  have hsp : splice cur 0 cs = cs := by simp [splice, hfit]
  cases hq : P.info? elem with
  | none => simp [hq] at hs
  | some i =>
    have hi : i.size = size := by simpa [hq] using hs
    subst hi
    simp [Builtin.copy_, run_underlying hu, Builtin.lenOf, Builtin.firstCells, sizeOf, typeInfo, hq, ← hn, hl, hst]
    congr 1
    have := hsp
    simpa [splice] using this

theorem wpList_copy_whole {P : Program} {w : World} {ops : Array Oper} {rest : List Oper} {o : Oper} {a : Act} {Q : Exit → Act → World → Prop} (hgd : o.guard = none) (d s : Operand) (dT sT : TypeId)
    (ho : o.op = .call { callee := .builtin .copy, args := #[d, s], argTypes := #[dT, sT] }) (elem : TypeId) (size : Nat) (hu : P.underlying dT = some (.slice elem)) (hsz : (P.info? elem).map (·.size) = some size)
    (g n dCap : Nat) (ad : Addr) (sCap : Nat) (hd : a.eval d = .slice (some ⟨g, 0, none⟩) n dCap) (hs : a.eval s = .slice (some ad) n sCap)
    (cur : List Value) (t : TypeId) (hg : Blk w g cur t) (cs : List Value) (hn : cs.length = n * size)
    (hsrc : ∀ j v, cs[j]? = some v → w.cell? (ad.add j) = some v) (hfit : cs.length = cur.length) (h1 : ∀ v ∈ cs, v.oneCell' = true) (B : Nat) (w0 : World) (hb : Below B w0 w) (hBg : B ≤ g)
    (h : ∀ w', Blk w' g cs t → Below B w0 w' → wpList P ops Q rest (a.put o.dst (goInt n)) w') : wpList P ops Q (o :: rest) a w := by
  refine wpList_plain hgd fun K hK => ?_
  have hrun := run_copy_whole (P := P) w dT sT o.type elem size g n dCap ad sCap cur t cs hu hsz hg hn hsrc hfit h1
  unfold Oper.wp
  simp [execOp, ho, resolve, invoke, builtin, hd, hs, hrun, Result.andThen]
  exact hK _ _ (h _ (setRow_heap w g _ _ t _ hg) (below_setRow hb hBg _))

theorem run_copy_nil {P : Program} (w : World) (dT sT ty elem : TypeId) (size g dCap : Nat) (hu : P.underlying dT = some (.slice elem)) (hs : (P.info? elem).map (·.size) = some size) :
    (Builtin.copy_ #[dT, sT] ty #[.slice (some ⟨g, 0, none⟩) 0 dCap, .slice none 0 0]).run P w = .ok (goInt 0) w := by
  cases hq : P.info? elem with
  | none => simp [hq] at hs
  | some i =>
    simp [Builtin.copy_, run_underlying hu, Builtin.lenOf, Builtin.firstCells, sizeOf, typeInfo, hq, storeCells]

theorem wpList_copy_nil {P : Program} {w : World} {ops : Array Oper} {rest : List Oper} {o : Oper} {a : Act} {Q : Exit → Act → World → Prop} (hgd : o.guard = none) (d s : Operand) (dT sT : TypeId)
    (ho : o.op = .call { callee := .builtin .copy, args := #[d, s], argTypes := #[dT, sT] }) (elem : TypeId) (size : Nat) (hu : P.underlying dT = some (.slice elem)) (hsz : (P.info? elem).map (·.size) = some size)
    (g dCap : Nat) (hd : a.eval d = .slice (some ⟨g, 0, none⟩) 0 dCap) (hs : a.eval s = .slice none 0 0)
    (h : wpList P ops Q rest (a.put o.dst (goInt 0)) w) : wpList P ops Q (o :: rest) a w := by
  refine wpList_plain hgd fun K hK => ?_
  have hrun := run_copy_nil (P := P) w dT sT o.type elem size g dCap hu hsz
  unfold Oper.wp
  simp [execOp, ho, resolve, invoke, builtin, hd, hs, hrun, Result.andThen]
  exact hK _ _ h

/-- What make has laid, as a block. -/
theorem madeW {w' : World} {g n size : Nat} {cs : List Value} {t : TypeId} (h : w'.ownsRow g t size (.slice (some ⟨g, 0, none⟩) n n) n cs) : ∃ L : List Value, L.length = n * size ∧ Blk w' g L t := by
  rcases h.2 with ⟨h', _⟩ | ⟨g', cap', cur, h', _, hg, _, _, hs, htake⟩
  · simp at h'
  · simp only [Value.slice.injEq, Option.some.injEq, Addr.mk.injEq, and_true, true_and] at h'
    obtain ⟨rfl, rfl⟩ := h'
    exact ⟨cur.toList, by simp [hs], by unfold Blk; simpa using hg⟩

end Go.Proofs.YtcjdpilmhlfmfaaGreatDoor

/-
  shelf.copyOfList at rows, blocks, points and bits, whatever is handed: a slice of the call's own with the same cells.
-/
namespace Go.Proofs.YtcjdpilmhlfmfaaGreatDoor
open Go.RowKit

theorem infoCpR : (Tryz.prog.info? 47).map (fun i => (i.zero, i.size, i.bytes)) = some (some (.agg #[.slice none 0 0, .slice none 0 0]), 2, 48) := by kernel_rfl

set_option maxHeartbeats 400000 in
set_option maxRecDepth 100000 in
theorem copyR (ao : Option Addr) (cap : Nat) (C : List Value) (n : Nat) (w : World) (hrow : Row w ao C) (hle : n ≤ cap) (hnil : ao = none → cap = 0) (hlen : C.length = n * 2) (one : ∀ v ∈ C, v.oneCell' = true) (hl : n ≤ 1000000000000) :
    Calls Tryz.prog 210 #[.slice ao n cap] w fun e w' => ∃ g, e = .returned (.slice (some ⟨g, 0, none⟩) n n) ∧ Blk w' g C 47 ∧ w.heap.size ≤ g ∧ Below w.heap.size w w' := by
  obtain ⟨i0, hi, hz0, hz1, hz2⟩ := info_parts infoCpR
  have hsz : (Tryz.prog.info? 47).map (·.size) = some 2 := by rw [hi]; exact congrArg some hz1
  replace hlen := hide hlen
  cases ao with
  | none =>
    obtain rfl := hnil rfl
    obtain rfl : n = 0 := by omega
    obtain rfl : C = [] := List.eq_nil_of_length_eq_zero (by rw [hlen.out])
    clear hlen
    go_enter Tryz.func210, Tryz.ntmps210
    go_wp2_with (at_make; refine wpList_make_full _ rfl (.tmp 5) (.tmp 5) 22 rfl w.heap.size 47 i0 (.agg #[.slice none 0 0, .slice none 0 0]) 2 Tryz.underlying22 hi hz0 hz1 _ _ _ _ 0 rfl rfl rfl rfl (by rw [hz2]; omega) (by unfold maxLen; omega) (Nat.le_refl _) ?_)
    intro w1 own grow
    have bel : Below w.heap.size w w1 := (Below.refl _ _).grown grow (Nat.le_refl _) (fun k h => by cases h)
    obtain ⟨L, hL, B⟩ := madeW own
    obtain rfl : L = [] := List.eq_nil_of_length_eq_zero (by rw [hL])
    clear own grow
    go_wp2_with (refine wpList_copy_nil rfl (.tmp 7) (.tmp 8) 22 22 rfl 47 2 Tryz.underlying22 hsz w.heap.size 0 rfl rfl ?_)
    go_ret
    exact ⟨_, rfl, B, Nat.le_refl _, bel⟩
  | some ad =>
    go_enter Tryz.func210, Tryz.ntmps210
    go_wp2_with (at_make; refine wpList_make_full _ rfl (.tmp 5) (.tmp 5) 22 rfl w.heap.size 47 i0 (.agg #[.slice none 0 0, .slice none 0 0]) 2 Tryz.underlying22 hi hz0 hz1 _ _ _ _ n rfl rfl rfl rfl (by rw [hz2]; omega) (by unfold maxLen; omega) (Nat.le_refl _) ?_)
    intro w1 own grow
    have bel : Below w.heap.size w w1 := (Below.refl _ _).grown grow (Nat.le_refl _) (fun k h => by cases h)
    obtain ⟨L, hL, B⟩ := madeW own
    have hr := hrow.keep bel (Nat.le_refl _)
    have hsrc : ∀ j u, C[j]? = some u → w1.cell? (ad.add j) = some u := by
      intro j u hu
      obtain ⟨b', off', e, _, hc⟩ := hr.at (by intro e; rw [e] at hu; simp at hu)
      obtain rfl := Option.some.inj e
      rw [Addr.add_lit]
      exact hc j u hu
    have hfit : C.length = L.length := by rw [hlen.out, hL]
    replace hfit := hide hfit
    replace hL := hide hL
    clear own grow hr hrow
    generalize hg : w.heap.size = g at *
    go_wp2_with (refine wpList_copy_whole rfl (.tmp 7) (.tmp 8) 22 22 rfl 47 2 Tryz.underlying22 hsz g n n ad cap rfl rfl L 47 B C hlen.out hsrc hfit.out one g w bel (Nat.le_refl _) ?_)
    intro w2 B2 bel2
    go_wp2_with fail
    go_ret
    exact ⟨g, rfl, B2, by omega, by rw [hg]; exact bel2⟩

theorem infoCpB : (Tryz.prog.info? 93).map (fun i => (i.zero, i.size, i.bytes)) = some (some (.agg #[.int .i64 0, .int .i64 0, .int .i64 0, .slice none 0 0]), 4, 48) := by kernel_rfl

set_option maxHeartbeats 400000 in
set_option maxRecDepth 100000 in
theorem copyB (ao : Option Addr) (cap : Nat) (C : List Value) (n : Nat) (w : World) (hrow : Row w ao C) (hle : n ≤ cap) (hnil : ao = none → cap = 0) (hlen : C.length = n * 4) (one : ∀ v ∈ C, v.oneCell' = true) (hl : n ≤ 1000000000000) :
    Calls Tryz.prog 211 #[.slice ao n cap] w fun e w' => ∃ g, e = .returned (.slice (some ⟨g, 0, none⟩) n n) ∧ Blk w' g C 93 ∧ w.heap.size ≤ g ∧ Below w.heap.size w w' := by
  obtain ⟨i0, hi, hz0, hz1, hz2⟩ := info_parts infoCpB
  have hsz : (Tryz.prog.info? 93).map (·.size) = some 4 := by rw [hi]; exact congrArg some hz1
  replace hlen := hide hlen
  cases ao with
  | none =>
    obtain rfl := hnil rfl
    obtain rfl : n = 0 := by omega
    obtain rfl : C = [] := List.eq_nil_of_length_eq_zero (by rw [hlen.out])
    clear hlen
    go_enter Tryz.func211, Tryz.ntmps211
    go_wp2_with (at_make; refine wpList_make_full _ rfl (.tmp 5) (.tmp 5) 45 rfl w.heap.size 93 i0 (.agg #[.int .i64 0, .int .i64 0, .int .i64 0, .slice none 0 0]) 4 Tryz.underlying45 hi hz0 hz1 _ _ _ _ 0 rfl rfl rfl rfl (by rw [hz2]; omega) (by unfold maxLen; omega) (Nat.le_refl _) ?_)
    intro w1 own grow
    have bel : Below w.heap.size w w1 := (Below.refl _ _).grown grow (Nat.le_refl _) (fun k h => by cases h)
    obtain ⟨L, hL, B⟩ := madeW own
    obtain rfl : L = [] := List.eq_nil_of_length_eq_zero (by rw [hL])
    clear own grow
    go_wp2_with (refine wpList_copy_nil rfl (.tmp 7) (.tmp 8) 45 45 rfl 93 4 Tryz.underlying45 hsz w.heap.size 0 rfl rfl ?_)
    go_ret
    exact ⟨_, rfl, B, Nat.le_refl _, bel⟩
  | some ad =>
    go_enter Tryz.func211, Tryz.ntmps211
    go_wp2_with (at_make; refine wpList_make_full _ rfl (.tmp 5) (.tmp 5) 45 rfl w.heap.size 93 i0 (.agg #[.int .i64 0, .int .i64 0, .int .i64 0, .slice none 0 0]) 4 Tryz.underlying45 hi hz0 hz1 _ _ _ _ n rfl rfl rfl rfl (by rw [hz2]; omega) (by unfold maxLen; omega) (Nat.le_refl _) ?_)
    intro w1 own grow
    have bel : Below w.heap.size w w1 := (Below.refl _ _).grown grow (Nat.le_refl _) (fun k h => by cases h)
    obtain ⟨L, hL, B⟩ := madeW own
    have hr := hrow.keep bel (Nat.le_refl _)
    have hsrc : ∀ j u, C[j]? = some u → w1.cell? (ad.add j) = some u := by
      intro j u hu
      obtain ⟨b', off', e, _, hc⟩ := hr.at (by intro e; rw [e] at hu; simp at hu)
      obtain rfl := Option.some.inj e
      rw [Addr.add_lit]
      exact hc j u hu
    have hfit : C.length = L.length := by rw [hlen.out, hL]
    replace hfit := hide hfit
    replace hL := hide hL
    clear own grow hr hrow
    generalize hg : w.heap.size = g at *
    go_wp2_with (refine wpList_copy_whole rfl (.tmp 7) (.tmp 8) 45 45 rfl 93 4 Tryz.underlying45 hsz g n n ad cap rfl rfl L 93 B C hlen.out hsrc hfit.out one g w bel (Nat.le_refl _) ?_)
    intro w2 B2 bel2
    go_wp2_with fail
    go_ret
    exact ⟨g, rfl, B2, by omega, by rw [hg]; exact bel2⟩

theorem infoCpP : (Tryz.prog.info? 50).map (fun i => (i.zero, i.size, i.bytes)) = some (some (.agg #[.int .i64 0, .int .i64 0]), 2, 16) := by kernel_rfl

set_option maxHeartbeats 400000 in
set_option maxRecDepth 100000 in
theorem copyP (ao : Option Addr) (cap : Nat) (C : List Value) (n : Nat) (w : World) (hrow : Row w ao C) (hle : n ≤ cap) (hnil : ao = none → cap = 0) (hlen : C.length = n * 2) (one : ∀ v ∈ C, v.oneCell' = true) (hl : n ≤ 1000000000000) :
    Calls Tryz.prog 212 #[.slice ao n cap] w fun e w' => ∃ g, e = .returned (.slice (some ⟨g, 0, none⟩) n n) ∧ Blk w' g C 50 ∧ w.heap.size ≤ g ∧ Below w.heap.size w w' := by
  obtain ⟨i0, hi, hz0, hz1, hz2⟩ := info_parts infoCpP
  have hsz : (Tryz.prog.info? 50).map (·.size) = some 2 := by rw [hi]; exact congrArg some hz1
  replace hlen := hide hlen
  cases ao with
  | none =>
    obtain rfl := hnil rfl
    obtain rfl : n = 0 := by omega
    obtain rfl : C = [] := List.eq_nil_of_length_eq_zero (by rw [hlen.out])
    clear hlen
    go_enter Tryz.func212, Tryz.ntmps212
    go_wp2_with (at_make; refine wpList_make_full _ rfl (.tmp 5) (.tmp 5) 34 rfl w.heap.size 50 i0 (.agg #[.int .i64 0, .int .i64 0]) 2 Tryz.underlying34 hi hz0 hz1 _ _ _ _ 0 rfl rfl rfl rfl (by rw [hz2]; omega) (by unfold maxLen; omega) (Nat.le_refl _) ?_)
    intro w1 own grow
    have bel : Below w.heap.size w w1 := (Below.refl _ _).grown grow (Nat.le_refl _) (fun k h => by cases h)
    obtain ⟨L, hL, B⟩ := madeW own
    obtain rfl : L = [] := List.eq_nil_of_length_eq_zero (by rw [hL])
    clear own grow
    go_wp2_with (refine wpList_copy_nil rfl (.tmp 7) (.tmp 8) 34 34 rfl 50 2 Tryz.underlying34 hsz w.heap.size 0 rfl rfl ?_)
    go_ret
    exact ⟨_, rfl, B, Nat.le_refl _, bel⟩
  | some ad =>
    go_enter Tryz.func212, Tryz.ntmps212
    go_wp2_with (at_make; refine wpList_make_full _ rfl (.tmp 5) (.tmp 5) 34 rfl w.heap.size 50 i0 (.agg #[.int .i64 0, .int .i64 0]) 2 Tryz.underlying34 hi hz0 hz1 _ _ _ _ n rfl rfl rfl rfl (by rw [hz2]; omega) (by unfold maxLen; omega) (Nat.le_refl _) ?_)
    intro w1 own grow
    have bel : Below w.heap.size w w1 := (Below.refl _ _).grown grow (Nat.le_refl _) (fun k h => by cases h)
    obtain ⟨L, hL, B⟩ := madeW own
    have hr := hrow.keep bel (Nat.le_refl _)
    have hsrc : ∀ j u, C[j]? = some u → w1.cell? (ad.add j) = some u := by
      intro j u hu
      obtain ⟨b', off', e, _, hc⟩ := hr.at (by intro e; rw [e] at hu; simp at hu)
      obtain rfl := Option.some.inj e
      rw [Addr.add_lit]
      exact hc j u hu
    have hfit : C.length = L.length := by rw [hlen.out, hL]
    replace hfit := hide hfit
    replace hL := hide hL
    clear own grow hr hrow
    generalize hg : w.heap.size = g at *
    go_wp2_with (refine wpList_copy_whole rfl (.tmp 7) (.tmp 8) 34 34 rfl 50 2 Tryz.underlying34 hsz g n n ad cap rfl rfl L 50 B C hlen.out hsrc hfit.out one g w bel (Nat.le_refl _) ?_)
    intro w2 B2 bel2
    go_wp2_with fail
    go_ret
    exact ⟨g, rfl, B2, by omega, by rw [hg]; exact bel2⟩

theorem infoCpO : (Tryz.prog.info? 4).map (fun i => (i.zero, i.size, i.bytes)) = some (some (.bool false), 1, 1) := by kernel_rfl

set_option maxHeartbeats 400000 in
set_option maxRecDepth 100000 in
theorem copyO (ao : Option Addr) (cap : Nat) (C : List Value) (n : Nat) (w : World) (hrow : Row w ao C) (hle : n ≤ cap) (hnil : ao = none → cap = 0) (hlen : C.length = n * 1) (one : ∀ v ∈ C, v.oneCell' = true) (hl : n ≤ 140737488355328) :
    Calls Tryz.prog 213 #[.slice ao n cap] w fun e w' => ∃ g, e = .returned (.slice (some ⟨g, 0, none⟩) n n) ∧ Blk w' g C 4 ∧ w.heap.size ≤ g ∧ Below w.heap.size w w' := by
  obtain ⟨i0, hi, hz0, hz1, hz2⟩ := info_parts infoCpO
  have hsz : (Tryz.prog.info? 4).map (·.size) = some 1 := by rw [hi]; exact congrArg some hz1
  replace hlen := hide hlen
  cases ao with
  | none =>
    obtain rfl := hnil rfl
    obtain rfl : n = 0 := by omega
    obtain rfl : C = [] := List.eq_nil_of_length_eq_zero (by rw [hlen.out])
    clear hlen
    go_enter Tryz.func213, Tryz.ntmps213
    go_wp2_with (at_make; refine wpList_make_full _ rfl (.tmp 5) (.tmp 5) 91 rfl w.heap.size 4 i0 (.bool false) 1 Tryz.underlying91 hi hz0 hz1 _ _ _ _ 0 rfl rfl rfl rfl (by rw [hz2]; omega) (by unfold maxLen; omega) (Nat.le_refl _) ?_)
    intro w1 own grow
    have bel : Below w.heap.size w w1 := (Below.refl _ _).grown grow (Nat.le_refl _) (fun k h => by cases h)
    obtain ⟨L, hL, B⟩ := madeW own
    obtain rfl : L = [] := List.eq_nil_of_length_eq_zero (by rw [hL])
    clear own grow
    go_wp2_with (refine wpList_copy_nil rfl (.tmp 7) (.tmp 8) 91 91 rfl 4 1 Tryz.underlying91 hsz w.heap.size 0 rfl rfl ?_)
    go_ret
    exact ⟨_, rfl, B, Nat.le_refl _, bel⟩
  | some ad =>
    go_enter Tryz.func213, Tryz.ntmps213
    go_wp2_with (at_make; refine wpList_make_full _ rfl (.tmp 5) (.tmp 5) 91 rfl w.heap.size 4 i0 (.bool false) 1 Tryz.underlying91 hi hz0 hz1 _ _ _ _ n rfl rfl rfl rfl (by rw [hz2]; omega) (by unfold maxLen; omega) (Nat.le_refl _) ?_)
    intro w1 own grow
    have bel : Below w.heap.size w w1 := (Below.refl _ _).grown grow (Nat.le_refl _) (fun k h => by cases h)
    obtain ⟨L, hL, B⟩ := madeW own
    have hr := hrow.keep bel (Nat.le_refl _)
    have hsrc : ∀ j u, C[j]? = some u → w1.cell? (ad.add j) = some u := by
      intro j u hu
      obtain ⟨b', off', e, _, hc⟩ := hr.at (by intro e; rw [e] at hu; simp at hu)
      obtain rfl := Option.some.inj e
      rw [Addr.add_lit]
      exact hc j u hu
    have hfit : C.length = L.length := by rw [hlen.out, hL]
    replace hfit := hide hfit
    replace hL := hide hL
    clear own grow hr hrow
    generalize hg : w.heap.size = g at *
    go_wp2_with (refine wpList_copy_whole rfl (.tmp 7) (.tmp 8) 91 91 rfl 4 1 Tryz.underlying91 hsz g n n ad cap rfl rfl L 4 B C hlen.out hsrc hfit.out one g w bel (Nat.le_refl _) ?_)
    intro w2 B2 bel2
    go_wp2_with fail
    go_ret
    exact ⟨g, rfl, B2, by omega, by rw [hg]; exact bel2⟩

end Go.Proofs.YtcjdpilmhlfmfaaGreatDoor

/-
  slices.Delete of one block; slices.IndexFunc and slices.DeleteFunc of blocks by the function that shelf.Drop hands them; on blocks of the call's own.
-/
namespace Go.Proofs.YtcjdpilmhlfmfaaGreatDoor
open Go.RowKit

theorem zeroBlock (w : World) : (zeroValue 93).run Tryz.prog w = .ok (.agg #[.int .i64 0, .int .i64 0, .int .i64 0, .slice none 0 0]) w := by
  obtain ⟨i0, hi, hz0, hz1, hz2⟩ := info_parts infoCpB
  simp [zeroValue, typeInfo, hi, hz0]

theorem splice_flat (bl news : List Lb) (i : Nat) : splice (bl.flatMap Lb.cells) (i * 4) (news.flatMap Lb.cells) = (splice bl i news).flatMap Lb.cells := by
  unfold splice
  rw [flat_take Lb.four, List.flatMap_append, List.flatMap_append]
  congr 2
  rw [flat_length Lb.four, show i * 4 + news.length * 4 = (i + news.length) * 4 by omega, flat_drop Lb.four]

/-- What Delete leaves of the block ahead of its clearing. -/
theorem splice_del {α : Type} (bl : List α) (i : Nat) (h : i + 1 ≤ bl.length) : (splice bl i (bl.drop (i + 1))).take (bl.length - 1) = bl.eraseIdx i := by
  unfold splice
  rw [List.eraseIdx_eq_take_drop_succ, ← List.append_assoc, List.take_left']
  rw [List.length_append, List.length_take, List.length_drop]
  omega

theorem splice_end {α : Type} (l : List α) (p : Nat) (z : α) (h : l.length = p + 1) : splice l p [z] = l.take p ++ [z] := by
  unfold splice
  rw [List.drop_eq_nil_of_le (by simp; omega), List.append_nil]

set_option maxHeartbeats 1000000 in
set_option maxRecDepth 100000 in
theorem delete_any (bl : List Lb) (bg i p : Nat) (w : World) (B : Blk w bg (bl.flatMap Lb.cells) 93) (hi : i ≤ p) (hn : bl.length = p + 1) (few : p < 8) :
    Calls Tryz.prog 155 #[.slice (some ⟨bg, 0, none⟩) (p + 1) (p + 1), .int .i64 i, .int .i64 (i + 1 : Nat)] w fun e w' =>
      e = .returned (.slice (some ⟨bg, 0, none⟩) p (p + 1)) ∧ Blk w' bg ((bl.eraseIdx i ++ [lb0]).flatMap Lb.cells) 93 ∧ w.grownBy w' (some bg) := by
  obtain ⟨i0, hi0, hz0, hz1, hz2⟩ := info_parts infoCpB
  replace hn := hide hn
  have hnews : ((bl.drop (i + 1)).flatMap Lb.cells).length = (p - i) * 4 := by rw [flat_length Lb.four, List.length_drop, hn.out]; omega
  have hone : ∀ v ∈ (bl.drop (i + 1)).flatMap Lb.cells, v.oneCell' = true := by
    intro v hv
    obtain ⟨x, _, hx⟩ := List.mem_flatMap.1 hv
    simp only [Lb.cells, List.mem_cons, List.not_mem_nil, or_false] at hx
    rcases hx with rfl | rfl | rfl | rfl <;> rfl
  have BD : Blk w.drew bg (bl.flatMap Lb.cells) 93 := B
  obtain ⟨A, hA, hsrc⟩ : ∃ A : Addr, (if p = i then some (⟨bg, 0, none⟩ : Addr) else some ⟨bg, (i + 1) * 4, none⟩) = some A ∧ Hid (∀ t u, ((bl.drop (i + 1)).flatMap Lb.cells)[t]? = some u → w.drew.cell? (A.add t) = some u) := by
    by_cases h : p = i
    · refine ⟨⟨bg, 0, none⟩, by rw [if_pos h], fun t u hu => ?_⟩
      rw [List.drop_eq_nil_of_le (by rw [hn.out]; omega)] at hu
      simp at hu
    · refine ⟨⟨bg, (i + 1) * 4, none⟩, by rw [if_neg h], fun t u hu => ?_⟩
      rw [Addr.add_lit, BD.cell, ← List.getElem?_drop, flat_drop Lb.four]
      exact hu
  have hfit : i * 4 + ((bl.drop (i + 1)).flatMap Lb.cells).length ≤ (bl.flatMap Lb.cells).length := by rw [hnews, flat_length Lb.four, hn.out]; omega
  replace hnews := hide hnews
  replace hone := hide hone
  replace hfit := hide hfit
  have q1 : (i : Int) ≤ (p : Int) + 1 := by omega
  have q2 : (i : Int) + 1 ≤ (p : Int) + 1 := by omega
  have q3 : (0 : Int) ≤ (i : Int) + 1 := by omega
  have q4 : ((i : Int) + 1).toNat = i + 1 := by omega
  have q5 : ((p : Int) + 1).toNat = p + 1 := by omega
  have q6 : (0 : Int) ≤ (p : Int) + 1 := by omega
  clear B
  go_enter Tryz.func155, Tryz.ntmps155
  go_wp2_with fail
  go_region_law (refine step_append_in (by rfl) (.tmp 22) (.tmp 25) 45 (by rfl) 93 i0 4 Tryz.underlying45 hi0 hz1 bg i (p + 1) (by simp [Act.eval, Act.put]) (bl.flatMap Lb.cells) 93 BD A (p - i) (p - i) ((bl.drop (i + 1)).flatMap Lb.cells) (by simp [Act.eval, Act.put]) hnews.out hsrc.out hone.out (by omega) hfit.out ?_; intro w5 B5 grow5; rw [show i + (p - i) = p by omega])
  rw [splice_flat] at B5
  have hcl := fun ty => run_clear_blocks w5 45 93 ty _ Tryz.underlying45 zeroBlock rfl bg (p * 4) 1 1 (by decide) _ _ B5 (by rw [flat_length Lb.four]; unfold splice; simp only [List.length_append, List.length_take, List.length_drop, hn.out]; omega)
  obtain ⟨B6, grow6⟩ := Blk.setCells ((List.replicate 1 lb0).flatMap Lb.cells) (p * 4) B5 (by rw [flat_length Lb.four, flat_length Lb.four]; unfold splice; simp only [List.length_append, List.length_take, List.length_drop, List.length_replicate, hn.out]; omega)
  go_wp2_with fail
  go_ret
  refine ⟨rfl, ?_, ?_⟩
  · rw [splice_flat, show List.replicate 1 lb0 = [lb0] from rfl, splice_end _ p _ (by unfold splice; simp only [List.length_append, List.length_take, List.length_drop, hn.out]; omega)] at B6
    have e := splice_del bl i (by rw [hn.out]; omega)
    rw [hn.out, Nat.add_sub_cancel] at e
    rw [e] at B6
    exact B6
  · exact ⟨grow6.os.trans grow5.os, grow6.tape.trans grow5.tape, grow6.output.trans grow5.output, Nat.le_trans grow5.size grow6.size, fun j hj hne => (grow6.block j (Nat.lt_of_lt_of_le hj grow5.size) hne).trans (grow5.block j hj hne)⟩

end Go.Proofs.YtcjdpilmhlfmfaaGreatDoor
