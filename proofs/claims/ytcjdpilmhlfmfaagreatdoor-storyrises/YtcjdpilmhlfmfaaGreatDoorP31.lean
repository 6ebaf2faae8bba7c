/-
  A call of a Go function as one step of a region that draws its order, by its contract. No function of the program is named.
-/
import Derived.Deep.RegionLaw
import Derived.Lib.ConvBytes
import Derived.Deep.CutBlock
import Derived.Lib.Split
import Derived.Test.YtcjdpilmhlfmfaaGreatDoorP01
import Derived.Test.YtcjdpilmhlfmfaaGreatDoorP30
import Derived.Test.YtcjdpilmhlfmfaaGreatDoorP09
import Derived.Test.YtcjdpilmhlfmfaaGreatDoorP12
import Derived.Test.YtcjdpilmhlfmfaaGreatDoorP07
import Derived.Test.YtcjdpilmhlfmfaaGreatDoorP13
import Derived.Test.YtcjdpilmhlfmfaaGreatDoorP10
namespace Go.Proofs.YtcjdpilmhlfmfaaGreatDoor
open Go.RowKit

theorem step_go_call2 {P : Program} {ops : Array Oper} {o : Oper} {a : Act} {w : World} {K : Act → World → Prop} {Q : Exit → Act → World → Prop} {E : Prop}
    (hg : o.guard = none) (f : FuncId) (s s' : Operand) (t t' : TypeId) (hop : o.op = .call { callee := .value (.func f), args := #[s, s'], argTypes := #[t, t'] })
    (v v' : Value) (hv : a.eval s = v) (hv' : a.eval s' = v') (hf : Sem.run P (callFunc f #[v, v']) w = .ok (.enter f #[v, v']) w) {R : Ending → World → Prop} (c : Calls P f #[v, v'] w R) (hr : ∀ e w', R e w' → ∃ u, e = .returned u) (h : ∀ u w', R (.returned u) w' → K (a.put o.dst u) w') :
    if Region.wanted o (yielded ops a.tmps) = true then Oper.wp P o a w K Q else E := by
  have hw : Region.wanted o (yielded ops a.tmps) = true := by simp [Region.wanted, hg]
  rw [if_pos hw]
  unfold Oper.wp
  have e1 : (execOp a.eval o).run P w = .ok (.enter f #[v, v']) w := by
    have e0 : a.eval (.func f) = .func (.func f) #[] #[] := rfl
    simp [execOp, hop, resolve, invoke, e0, hv, hv', Deferred.ofValue, hf]
  rw [e1, Oper.upon_enter]
  refine c.mono ?_
  intro e w' he
  obtain ⟨u, rfl⟩ := hr e w' he
  exact h u w' he

end Go.Proofs.YtcjdpilmhlfmfaaGreatDoor

/-
  disk.Put: what it answers; nothing that was there is written.
-/
namespace Go.Proofs.YtcjdpilmhlfmfaaGreatDoor
open Go.RowKit
open Go.Lib (byteCells)

/-- A string as bytes, just laid. -/
theorem slConv (W : World) (T : ByteArray) (h : T.size ≤ 1000000) : Sl (Lib.bytesWorld W 5 T) (some ⟨W.heap.size, 0, none⟩) (grownCap W T.size 0 5) (byteCells (bytes T)) := by
  refine ⟨.inr ⟨W.heap.size, 0, rfl, by rw [Lib.bytesWorld_size]; omega, fun j u hu => ?_⟩, ?_, ?_, fun h => by cases h⟩
  · have hj : j < T.size := by
      have := (List.getElem?_eq_some_iff.1 hu).1
      rw [Lib.byteCells_length, bytes_len] at this
      exact this
    rw [Nat.zero_add, Lib.bytesWorld_cell W 5 T j hj, ← hu]
    simp [byteCells, bytes, List.getD, hj]
  · rw [Lib.byteCells_length, bytes_len]
    exact grownCap_ge _ _ _ _
  · have := grownCap_le_maxLen W T.size 0 5 (by unfold maxLen; omega)
    unfold maxLen at this
    exact this

/-- What holds while the last region of Put comes up in whatever order. -/
structure PutI (w w5 : World) (D X n1 n2 : Nat) (s1 s2 : Value) (TL : ByteArray) (L1 L2 : List UInt8) (d : Nat → Bool) (V : Nat → Value) (W : World) : Prop where
  bel : d 9 = false → Below w5.heap.size w5 W
  v0 : d 0 = true → V 0 = .pointer (some ⟨D, 0, none⟩)
  v1 : d 1 = true → V 1 = s1
  v3 : d 3 = true → V 3 = .pointer (some ⟨D, 1, none⟩)
  v4 : d 4 = true → V 4 = s2
  v5 : d 5 = true → V 5 = .string TL
  v2 : d 2 = true → ∃ gJ, V 2 = .slice (some ⟨gJ, 0, none⟩) n1 n1 ∧ w5.heap.size ≤ gJ ∧ Blk W gJ (byteCells L1) 5
  v6 : d 6 = true → d 9 = false → ∃ ad cap, V 6 = .slice ad TL.size cap ∧ Sl W ad cap (byteCells (bytes TL))
  v7 : d 7 = true → ∃ gK, V 7 = .slice (some ⟨gK, 0, none⟩) (n2 + TL.size) (n2 + TL.size) ∧ w5.heap.size ≤ gK ∧ Blk W gK (byteCells L2) 5
  v8 : d 8 = true → V 8 = .agg #[V 2, V 7]
  fin : d 9 = true → Blk W X [V 2, V 7] 27 ∧ Below w.heap.size w W

def pvP (D : Nat) (s1 s2 : Value) (TL : ByteArray) : Nat → Value → Prop
  | 0, v => v = .pointer (some ⟨D, 0, none⟩)
  | 1, v => v = s1
  | 3, v => v = .pointer (some ⟨D, 1, none⟩)
  | 4, v => v = s2
  | 5, v => v = .string TL
  | _, _ => True

theorem pV_put_out {A : Act} {lo n : Nat} {V : Nat → Value} (dd : Nat) (hd : dd < lo ∨ lo + n ≤ dd) (v : Value) : (pV A lo n V).put (some dd) v = pV (A.put (some dd) v) lo n V := by
  unfold pV Act.put
  simp only [Act.mk.injEq, and_true]
  apply Array.ext_getElem?
  intro k
  rw [Array.getElem?_setIfInBounds, Array.getElem?_mapIdx, Array.getElem?_mapIdx, Array.size_mapIdx, Array.getElem?_setIfInBounds]
  by_cases hk : dd = k
  · subst hk
    rw [if_pos rfl, if_pos rfl]
    by_cases hs : dd < A.tmps.size
    · rw [if_pos hs]
      simp only [Option.map_some]
      rw [if_neg (by omega)]
    · rw [if_neg hs]
      rfl
  · rw [if_neg hk, if_neg hk]

theorem putV_ne {V : Nat → Value} {i k : Nat} {v : Value} (h : k ≠ i) : putV V i v k = V k := if_neg h

theorem PutI.pure {w w5 : World} {D X n1 n2 : Nat} {s1 s2 : Value} {TL : ByteArray} {L1 L2 : List UInt8} {d : Nat → Bool} {V : Nat → Value} {W : World} (h : PutI w w5 D X n1 n2 s1 s2 TL L1 L2 d V W) (i : Nat) (h2 : i ≠ 2) (h6 : i ≠ 6) (h7 : i ≠ 7) (h8 : i ≠ 8) (h9 : i ≠ 9) (v : Value) (hv : pvP D s1 s2 TL i v) :
    PutI w w5 D X n1 n2 s1 s2 TL L1 L2 (fun k => k == i || d k) (putV V i v) W := by
  have e : ∀ k, k ≠ i → (k == i || d k) = d k := fun k hk => by simp [hk]
  have one : ∀ k, (∀ u, pvP D s1 s2 TL k u → True) → (k == i || d k) = true → (d k = true → pvP D s1 s2 TL k (V k)) → pvP D s1 s2 TL k (putV V i v k) := by
    intro k _ hk hd
    by_cases hki : k = i
    · subst hki
      unfold putV
      rw [if_pos rfl]
      exact hv
    · rw [e k hki] at hk
      rw [putV_ne hki]
      exact hd hk
  refine ⟨?_, ?_, ?_, ?_, ?_, ?_, ?_, ?_, ?_, ?_, ?_⟩
  · intro h'; simp only [e 9 (Ne.symm h9)] at h'; exact h.bel h'
  · intro h'; exact one 0 (fun _ _ => trivial) h' h.v0
  · intro h'; exact one 1 (fun _ _ => trivial) h' h.v1
  · intro h'; exact one 3 (fun _ _ => trivial) h' h.v3
  · intro h'; exact one 4 (fun _ _ => trivial) h' h.v4
  · intro h'; exact one 5 (fun _ _ => trivial) h' h.v5
  · intro h'; simp only [e 2 (Ne.symm h2)] at h'; rw [putV_ne (Ne.symm h2)]; exact h.v2 h'
  · intro h' h''; simp only [e 6 (Ne.symm h6)] at h'; simp only [e 9 (Ne.symm h9)] at h''; rw [putV_ne (Ne.symm h6)]; exact h.v6 h' h''
  · intro h'; simp only [e 7 (Ne.symm h7)] at h'; rw [putV_ne (Ne.symm h7)]; exact h.v7 h'
  · intro h'; simp only [e 8 (Ne.symm h8)] at h'; rw [putV_ne (Ne.symm h8), putV_ne (Ne.symm h2), putV_ne (Ne.symm h7)]; exact h.v8 h'
  · intro h'; simp only [e 9 (Ne.symm h9)] at h'; rw [putV_ne (Ne.symm h2), putV_ne (Ne.symm h7)]; exact h.fin h'

set_option maxHeartbeats 2000000 in
set_option maxRecDepth 100000 in
theorem dput_own (d : Dk) (r : Rc) (a1 a2 a3 : Option Addr) (c1 c2 c3 n1 n2 n3 : Nat) (w : World) (hg : Gl w) (s1 : Sl w a1 c1 (byteCells d.safe)) (s2 : Sl w a2 c2 (byteCells d.wait)) (s3 : SlW ec w a3 c3 r.e) (h1 : n1 = d.safe.length) (h2 : n2 = d.wait.length) (h3 : n3 = r.e.length) (few : n1 + n2 ≤ 9223372036854775807) :
    Calls Tryz.prog 173 #[.agg #[.slice a1 n1 c1, .slice a2 n2 c2], .agg #[.int .i64 r.k, .int .i64 r.s, .int .i64 r.n, .slice a3 n3 c3]] w (AnsU w (dputD d r) (dputE d r)) := by
  have cC := fun W g s => dcheck_any d a1 a2 c1 c2 n1 n2 W g s h1 h2 few
  have cP := fun W g s => print_is r a3 c3 n3 W g s h3
  have cZ := fun W => size_any a1 a2 c1 c2 n1 n2 W few
  have B1 := ((Blk.laid w [.slice a1 n1 c1, .slice a2 n2 c2] 27 _ rfl).alc (.cells #[.int .i64 r.k, .int .i64 r.s, .int .i64 r.n, .slice a3 n3 c3] 66)).alc (.cells #[.slice none 0 0, .slice none 0 0] 27)
  have B3 := (Blk.laid (w.alloc (.cells #[.slice a1 n1 c1, .slice a2 n2 c2] 27)) [.int .i64 r.k, .int .i64 r.s, .int .i64 r.n, .slice a3 n3 c3] 66 (w.heap.size + 1) (by simp)).alc (.cells #[.slice none 0 0, .slice none 0 0] 27)
  have B2 := Blk.laid ((w.alloc (.cells #[.slice a1 n1 c1, .slice a2 n2 c2] 27)).alloc (.cells #[.int .i64 r.k, .int .i64 r.s, .int .i64 r.n, .slice a3 n3 c3] 66)) [.slice none 0 0, .slice none 0 0] 27 (w.heap.size + 1 + 1) (by simp)
  have bel := newB (newB (newB (Below.refl w.heap.size w) (.cells #[.slice a1 n1 c1, .slice a2 n2 c2] 27)) (.cells #[.int .i64 r.k, .int .i64 r.s, .int .i64 r.n, .slice a3 n3 c3] 66)) (.cells #[.slice none 0 0, .slice none 0 0] 27)
  have S1 := s1.keep bel (Nat.le_refl _)
  have S2 := s2.keep bel (Nat.le_refl _)
  have S3 := s3.keep bel (Nat.le_refl _)
  have g := hg.call bel
  have x0 := B1.cell 0
  have x1 := B1.cell 1
  have l1 := B1.lt
  by_cases h0 : dkE d = 0
  · have few' : n1 + n2 ≤ 60000 := by
      have := h0
      unfold dkE at this
      split at this
      · cases this
      · rw [h1, h2]; omega
    rw [h0] at cC
    by_cases hr0 : recE r = 0
    · have hTl : (recT r).length ≤ 60000 := by have := (back_read hr0).2; omega
      have hE : dputE d r = if 60000 < n1 + n2 + ((recT r).length + 1) then 2 else 0 := by
        unfold dputE
        rw [if_neg (by simp [h0]), if_neg (by simp [hr0]), h1, h2]
      have hD0 : dputE d r ≠ 0 → dputD d r = dk0 := fun h => if_neg h
      have hD1 : dputE d r = 0 → dputD d r = ⟨d.safe, d.wait ++ (recT r ++ [10])⟩ := fun h => if_pos h
      rw [hr0] at cP
      generalize dputE d r = E at *
      generalize dputD d r = D at *
      generalize recT r = T at *
      obtain ⟨TX, hTX⟩ : ∃ TX, TX = (⟨T.toArray⟩ : ByteArray) := ⟨_, rfl⟩
      rw [← hTX] at cP
      have hTs : TX.size = T.length := by rw [hTX]; simp [ByteArray.size]
      have hsum : TX.size + 1 ≤ 9223372036854775807 := by omega
      obtain ⟨K, s', m', l⟩ := r
      simp only at *
      replace h1 := hide h1
      replace h2 := hide h2
      replace h3 := hide h3
      replace hTs := hide hTs
      replace hTX := hide hTX
      replace hE := hide hE
      go_enter Tryz.func173, Tryz.ntmps173
      go_wp2_with fail
      generalize World.alloc (World.alloc (World.alloc w _) _) _ = w2 at *
      go_at_call 174
      refine (cC _ g S1).mono ?_
      rintro e w3 ⟨rfl, b3⟩
      clear x0 x1 l1
      replace B1 := B1.keep b3 B1.lt
      replace B2 := B2.keep b3 B2.lt
      replace B3 := B3.keep b3 B3.lt
      replace S1 := S1.call b3
      replace S2 := S2.call b3
      replace S3 := S3.call b3
      replace g := g.call b3
      replace bel := belowCall bel b3
      have y0 := B3.cell 0
      have y1 := B3.cell 1
      have y2 := B3.cell 2
      have y3 := B3.cell 3
      have ly := B3.lt
      go_wp2_with fail
      go_at_call 207
      refine (cP _ g S3).mono ?_
      rintro e w4 ⟨rfl, b4⟩
      clear y0 y1 y2 y3 ly
      replace B1 := B1.keep b4 B1.lt
      replace B2 := B2.keep b4 B2.lt
      replace S1 := S1.call b4
      replace S2 := S2.call b4
      replace g := g.call b4
      replace bel := belowCall bel b4
      have x0 := B1.cell 0
      have x1 := B1.cell 1
      have l1 := B1.lt
      go_upto_region 8 with fail
      have hTLb : bytes (TX ++ (⟨#[10]⟩ : ByteArray)) = T ++ [10] := by
        rw [hTX.out]
        simp [bytes]
      have hTLs : (TX ++ (⟨#[10]⟩ : ByteArray)).size = T.length + 1 := by
        rw [← bytes_len, hTLb]
        simp
      generalize TX ++ (⟨#[10]⟩ : ByteArray) = TL at *
      obtain ⟨M, hM⟩ : ∃ M, M = n1 + n2 + (T.length + 1) := ⟨_, rfl⟩
      have hMi : IntKind.i64.wrap (((n1 + n2 : Nat) : Int) + (TL.size : Int)) = (M : Int) := by rw [IntKind.wrap_i64, hTLs]; omega
      have hMi' : ((n1 + n2 : Nat) : Int) + (TL.size : Int) = (M : Int) := by rw [hTLs]; omega
      have hMw : wrap64 (M : Int) = (M : Int) := by unfold wrap64; omega
      rw [← hM] at hE
      obtain ⟨N, hN⟩ : ∃ N, N = n1 + n2 := ⟨_, rfl⟩
      rw [← hN] at hMi hMi' cZ
      replace hTLb := hide hTLb
      replace hTLs := hide hTLs
      replace hN := hide hN
      replace hM := hide hM
      go_wp2_with fail
      go_at_call 98
      refine (cZ _).mono ?_
      rintro e w5 ⟨rfl, b5⟩
      clear x0 x1 l1
      replace B1 := B1.keep b5 B1.lt
      replace B2 := B2.keep b5 B2.lt
      replace S1 := S1.call b5
      replace S2 := S2.call b5
      replace bel := belowCall bel b5
      by_cases hm : 60000 < M
      · have hm' : (60000 : Int) < M := by omega
        obtain rfl : E = 2 := by rw [hE.out, if_pos hm]
        obtain rfl := hD0 (by decide)
        have y0 := B2.cell 0
        have y1 := B2.cell 1
        have f0 := B2.free 0
        have f1 := B2.free 1
        have l2 := B2.lt
        go_wp2_with fail
        have B9 := put2 B2 (.slice none 0 0) (.slice none 0 0)
        have bel9 := below2s bel (Nat.le_trans (Nat.le_succ _) (Nat.le_succ _)) (.slice none 0 0) (.slice none 0 0)
        have i0 := B9.cell 0
        have i1 := B9.cell 1
        exact bodyPost_ret (v := .tuple #[.agg #[.slice none 0 0, .slice none 0 0], .int .i64 2]) (by simp [results, Tryz.results173, go_sem, i0, i1]) rfl (ansU0 bel9)
      · have hm' : ¬ (60000 : Int) < M := by omega
        obtain rfl : E = 0 := by rw [hE.out, if_neg hm]
        obtain rfl := hD1 rfl
        have hTL6 : TL.size ≤ 60000 := by have := hTLs.out; have := hM.out; omega
        have hTL7 : n2 + TL.size ≤ 1000000 := by omega
        have hlen : TL.size = (bytes TL).length := (bytes_len TL).symm
        have cJ := fun W s => join_any a1 none c1 0 n1 0 d.safe [] W s (Sl.ofNil _) h1.out rfl (by omega)
        have cK := fun ad cap W s t => join_any a2 ad c2 cap n2 TL.size d.wait (bytes TL) W s t h2.out hlen hTL7
        simp only [List.append_nil, Nat.add_zero] at cJ
        rw [hTLb.out] at cK
        have hcv := fun W => Lib.run_convert_string_bytes (P := Tryz.prog) W 9 25 5 TL Tryz.underlying9 Tryz.underlying25 Tryz.underlying5
        have hWl : n2 + TL.size = (d.wait ++ (T ++ [10])).length := by
          have h5 := hTLs.out
          have h6 := h2.out
          simp only [List.length_append, List.length_cons, List.length_nil]
          omega
        have x0 : w5.cell? ⟨w.heap.size, 0, none⟩ = some (.slice a1 n1 c1) := B1.cell 0
        have x1 : w5.cell? ⟨w.heap.size, 1, none⟩ = some (.slice a2 n2 c2) := B1.cell 1
        have l1 := B1.lt
        have k0 : Below w5.heap.size w5 w5.drew := belowDrew (Below.refl _ _)
        have tC := fun W => slConv W TL (by omega)
        have l2 := B2.lt
        replace hlen := hide hlen
        replace hWl := hide hWl
        clear cC cP cZ
        go_upto_region 10 with fail
        refine named (fun A0 hA0 => ?_)
        have a2' : A0.eval (.tmp 2) = .pointer (some ⟨w.heap.size, 0, none⟩) := by rw [hA0]; rfl
        have a4' : A0.eval (.tmp 4) = .pointer (some ⟨w.heap.size + 1 + 1, 0, none⟩) := by rw [hA0]; rfl
        have a7' : A0.eval (.tmp 7) = .string TL := by rw [hA0]; rfl
        have a5' : A0.put (some 5) (.int .i64 0) = A0 := by rw [hA0]; rfl
        have asz : 33 + 9 ≤ A0.tmps.size := by rw [hA0]; simp
        replace hA0 := hide hA0
        refine wp_region_inv (by kernel_rfl) (by kernel_rfl) (fun d' a' W' => ∃ V, a' = pV A0 33 9 V ∧ PutI w w5 w.heap.size (w.heap.size + 1 + 1) n1 n2 (.slice a1 n1 c1) (.slice a2 n2 c2) TL d.safe (d.wait ++ (T ++ [10])) d' V W') ?step ?fin ?start
        case start =>
          refine ⟨fun i => A0.eval (.tmp (33 + i)), (pV_self _ _ _).symm, ?_⟩
          exact ⟨fun _ => k0, fun h => Bool.noConfusion h, fun h => Bool.noConfusion h, fun h => Bool.noConfusion h, fun h => Bool.noConfusion h, fun h => Bool.noConfusion h, fun h => Bool.noConfusion h, fun h => Bool.noConfusion h, fun h => Bool.noConfusion h, fun h => Bool.noConfusion h, fun h => Bool.noConfusion h⟩
        case fin =>
          intro d' a' W' hall inv
          obtain ⟨V, rfl, I⟩ := inv
          obtain ⟨gJ, e2, lJ, BJ⟩ := I.v2 (hall 2 (by decide))
          obtain ⟨gK, e7, lK, BK⟩ := I.v7 (hall 7 (by decide))
          obtain ⟨BXf, belF⟩ := I.fin (hall 9 (by decide))
          rw [e2, e7] at BXf
          rw [← putsV_eq, hA0.out]
          simp only [putsV, Nat.reduceAdd]
          generalize V 0 = V0
          generalize V 1 = V1
          generalize V 2 = V2
          generalize V 3 = V3
          generalize V 4 = V4
          generalize V 5 = V5
          generalize V 6 = V6
          generalize V 7 = V7
          generalize V 8 = V8
          clear a2' a4' a5' a7' asz hcv cJ cK tC I
          go_wp2_with fail
          have i0 := BXf.cell 0
          have i1 := BXf.cell 1
          exact bodyPost_ret (v := .tuple #[.agg #[.slice (some ⟨gJ, 0, none⟩) n1 n1, .slice (some ⟨gK, 0, none⟩) (n2 + TL.size) (n2 + TL.size)], .int .i64 0]) (by simp [results, Tryz.results173, go_sem, i0, i1]) rfl ⟨_, _, n1, n2 + TL.size, n1, n2 + TL.size, rfl, h1.out, hWl.out, ownBlkU BJ h1.out (by omega), ownBlkU BK hWl.out (by omega), belF, (fun ad e => by cases e; exact ⟨_, BJ⟩), (fun ad e => by cases e; exact ⟨_, BK⟩)⟩
        case step =>
          intro i o d' a' W' hi' ho hd hall down inv K' hK
          obtain ⟨V, ha, I⟩ := inv
          have key : i = 0 ∨ i = 1 ∨ i = 2 ∨ i = 3 ∨ i = 4 ∨ i = 5 ∨ i = 6 ∨ i = 7 ∨ i = 8 ∨ i = 9 ∨ i = 10 := by
            have : i < 11 := hi'
            omega
          clear hi'
          have ein : ∀ (q dd : Nat), dd = 33 + q → q < 9 → a'.eval (.tmp dd) = V q := fun q dd h1 h2 => by rw [ha]; exact pV_in q dd h1 h2 asz
          have eout : ∀ (dd : Nat), dd < 33 ∨ 42 ≤ dd → a'.eval (.tmp dd) = A0.eval (.tmp dd) := fun dd h => by rw [ha]; exact pV_out dd h
          rcases key with rfl | rfl | rfl | rfl | rfl | rfl | rfl | rfl | rfl | rfl | rfl
          · obtain rfl := Option.some.inj ho
            refine step_value (d := 33) (v := .pointer (some ⟨w.heap.size, 0, none⟩)) (W' := W') rfl rfl (fun ρ hρ => ?_) (hK _ _ ⟨putV V 0 _, by rw [ha]; exact pV_put 0 33 rfl (by decide) _, I.pure 0 (by decide) (by decide) (by decide) (by decide) (by decide) _ rfl⟩)
            have q2 : ρ (.tmp 2) = .pointer (some ⟨w.heap.size, 0, none⟩) := by rw [hρ, eout 2 (by decide), a2']
            have qc : ∀ v, ρ (.const v) = v := fun v => by rw [hρ]; rfl
            clear hρ
            go_simp
          · obtain rfl := Option.some.inj ho
            have h2' : d' 2 = false := no down 2 _ rfl ⟨1, .data⟩ (by simp) rfl hd
            have h8' : d' 8 = false := no down 8 _ rfl ⟨2, .data⟩ (by simp) rfl h2'
            have h9' : d' 9 = false := no down 9 _ rfl ⟨8, .data⟩ (by simp) rfl h8'
            have cB := B1.keep (I.bel h9') B1.lt
            have cc : W'.cell? ⟨w.heap.size, 0, none⟩ = some (.slice a1 n1 c1) := cB.cell 0
            have lc := cB.lt
            refine step_value (d := 34) (v := .slice a1 n1 c1) (W' := W') rfl rfl (fun ρ hρ => ?_) (hK _ _ ⟨putV V 1 _, by rw [ha]; exact pV_put 1 34 rfl (by decide) _, I.pure 1 (by decide) (by decide) (by decide) (by decide) (by decide) _ rfl⟩)
            have q0 : ρ (.tmp 33) = .pointer (some ⟨w.heap.size, 0, none⟩) := by rw [hρ, ein 0 33 rfl (by decide)]; exact I.v0 (hall ⟨0, .data⟩ (by simp) rfl)
            have qc : ∀ v, ρ (.const v) = v := fun v => by rw [hρ]; rfl
            clear hρ
            go_simp
          · obtain rfl := Option.some.inj ho
            have h8' : d' 8 = false := no down 8 _ rfl ⟨2, .data⟩ (by simp) rfl hd
            have h9' : d' 9 = false := no down 9 _ rfl ⟨8, .data⟩ (by simp) rfl h8'
            have h7' : d' 7 = false := no down 7 _ rfl ⟨2, .chain⟩ (by simp) rfl hd
            have bW := I.bel h9'
            refine step_go_call2 (by rfl) 59 (.tmp 34) (.const (.slice none 0 0)) 25 25 (by rfl) (.slice a1 n1 c1) (.slice none 0 0) ?_ (by rfl) (by go_simp) (cJ W' (S1.call bW)) (by rintro e w' ⟨rfl, _⟩; exact ⟨_, rfl⟩) ?_
            · rw [ein 1 34 rfl (by decide)]
              exact I.v1 (hall ⟨1, .data⟩ (by simp) rfl)
            rintro u w9 ⟨eu, BJ, b9⟩
            obtain rfl := Ending.returned.inj eu
            refine hK _ _ ⟨putV V 2 _, by rw [ha]; exact pV_put 2 35 rfl (by decide) _, ?_⟩
            exact ⟨fun _ => belowCall bW b9, fun h => by rw [putV_ne (by decide)]; exact I.v0 (by simpa using h), fun h => by rw [putV_ne (by decide)]; exact I.v1 (by simpa using h), fun h => by rw [putV_ne (by decide)]; exact I.v3 (by simpa using h), fun h => by rw [putV_ne (by decide)]; exact I.v4 (by simpa using h), fun h => by rw [putV_ne (by decide)]; exact I.v5 (by simpa using h),
              fun _ => ⟨W'.heap.size, rfl, bW.size, BJ⟩,
              fun h h' => by
                rw [putV_ne (by decide)]
                obtain ⟨ad, cap, e6, s6⟩ := I.v6 (by simpa using h) h9'
                exact ⟨ad, cap, e6, s6.call b9⟩,
              fun h => by simp [h7'] at h, fun h => by simp [h8'] at h, fun h => by simp [h9'] at h⟩
          · obtain rfl := Option.some.inj ho
            refine step_value (d := 36) (v := .pointer (some ⟨w.heap.size, 1, none⟩)) (W' := W') rfl rfl (fun ρ hρ => ?_) (hK _ _ ⟨putV V 3 _, by rw [ha]; exact pV_put 3 36 rfl (by decide) _, I.pure 3 (by decide) (by decide) (by decide) (by decide) (by decide) _ rfl⟩)
            have q2 : ρ (.tmp 2) = .pointer (some ⟨w.heap.size, 0, none⟩) := by rw [hρ, eout 2 (by decide), a2']
            have qc : ∀ v, ρ (.const v) = v := fun v => by rw [hρ]; rfl
            clear hρ
            go_simp
          · obtain rfl := Option.some.inj ho
            have h7' : d' 7 = false := no down 7 _ rfl ⟨4, .data⟩ (by simp) rfl hd
            have h8' : d' 8 = false := no down 8 _ rfl ⟨7, .data⟩ (by simp) rfl h7'
            have h9' : d' 9 = false := no down 9 _ rfl ⟨8, .data⟩ (by simp) rfl h8'
            have cB := B1.keep (I.bel h9') B1.lt
            have cc : W'.cell? ⟨w.heap.size, 1, none⟩ = some (.slice a2 n2 c2) := cB.cell 1
            have lc := cB.lt
            refine step_value (d := 37) (v := .slice a2 n2 c2) (W' := W') rfl rfl (fun ρ hρ => ?_) (hK _ _ ⟨putV V 4 _, by rw [ha]; exact pV_put 4 37 rfl (by decide) _, I.pure 4 (by decide) (by decide) (by decide) (by decide) (by decide) _ rfl⟩)
            have q0 : ρ (.tmp 36) = .pointer (some ⟨w.heap.size, 1, none⟩) := by rw [hρ, ein 3 36 rfl (by decide)]; exact I.v3 (hall ⟨3, .data⟩ (by simp) rfl)
            have qc : ∀ v, ρ (.const v) = v := fun v => by rw [hρ]; rfl
            clear hρ
            go_simp
          · obtain rfl := Option.some.inj ho
            refine step_value (d := 38) (v := .string TL) (W' := W') rfl rfl (fun ρ hρ => ?_) (hK _ _ ⟨putV V 5 _, by rw [ha]; exact pV_put 5 38 rfl (by decide) _, I.pure 5 (by decide) (by decide) (by decide) (by decide) (by decide) _ rfl⟩)
            have q7 : ρ (.tmp 7) = .string TL := by rw [hρ, eout 7 (by decide), a7']
            have qc : ∀ v, ρ (.const v) = v := fun v => by rw [hρ]; rfl
            clear hρ
            go_simp
          · obtain rfl := Option.some.inj ho
            have h7' : d' 7 = false := no down 7 _ rfl ⟨6, .data⟩ (by simp) rfl hd
            have h8' : d' 8 = false := no down 8 _ rfl ⟨7, .data⟩ (by simp) rfl h7'
            have h9' : d' 9 = false := no down 9 _ rfl ⟨8, .data⟩ (by simp) rfl h8'
            have bW := I.bel h9'
            have b9 := Lib.bytesWorld_below W' 5 TL
            refine step_value (d := 39) (v := .slice (some ⟨W'.heap.size, 0, none⟩) TL.size (grownCap W' TL.size 0 5)) (W' := Lib.bytesWorld W' 5 TL) rfl rfl (fun ρ hρ => ?_) (hK _ _ ⟨putV V 6 _, by rw [ha]; exact pV_put 6 39 rfl (by decide) _, ?_⟩)
            · have q5 : ρ (.tmp 38) = .string TL := by rw [hρ, ein 5 38 rfl (by decide)]; exact I.v5 (hall ⟨5, .data⟩ (by simp) rfl)
              clear hρ
              have hc := hcv W'
              simp [execOp, q5, hc, Result.andThen]
            · exact ⟨fun _ => belowCall bW b9, fun h => by rw [putV_ne (by decide)]; exact I.v0 (by simpa using h), fun h => by rw [putV_ne (by decide)]; exact I.v1 (by simpa using h), fun h => by rw [putV_ne (by decide)]; exact I.v3 (by simpa using h), fun h => by rw [putV_ne (by decide)]; exact I.v4 (by simpa using h), fun h => by rw [putV_ne (by decide)]; exact I.v5 (by simpa using h),
                fun h => by
                  rw [putV_ne (by decide)]
                  obtain ⟨gJ, e2, lJ, BJ⟩ := I.v2 (by simpa using h)
                  exact ⟨gJ, e2, lJ, BJ.keep b9 BJ.lt⟩,
                fun _ _ => ⟨_, _, rfl, tC W'⟩,
                fun h => by simp [h7'] at h, fun h => by simp [h8'] at h, fun h => by simp [h9'] at h⟩
          · obtain rfl := Option.some.inj ho
            have h8' : d' 8 = false := no down 8 _ rfl ⟨7, .data⟩ (by simp) rfl hd
            have h9' : d' 9 = false := no down 9 _ rfl ⟨8, .data⟩ (by simp) rfl h8'
            have bW := I.bel h9'
            obtain ⟨ad, cap, e6, s6⟩ := I.v6 (hall ⟨6, .data⟩ (by simp) rfl) h9'
            refine step_go_call2 (by rfl) 59 (.tmp 37) (.tmp 39) 25 25 (by rfl) (.slice a2 n2 c2) (.slice ad TL.size cap) ?_ ?_ (by go_simp) (cK ad cap W' (S2.call bW) (by rw [← hTLb.out]; exact s6)) (by rintro e w' ⟨rfl, _⟩; exact ⟨_, rfl⟩) ?_
            · rw [ein 4 37 rfl (by decide)]
              exact I.v4 (hall ⟨4, .data⟩ (by simp) rfl)
            · rw [ein 6 39 rfl (by decide)]
              exact e6
            rintro u w9 ⟨eu, BJ, b9⟩
            obtain rfl := Ending.returned.inj eu
            refine hK _ _ ⟨putV V 7 _, by rw [ha]; exact pV_put 7 40 rfl (by decide) _, ?_⟩
            exact ⟨fun _ => belowCall bW b9, fun h => by rw [putV_ne (by decide)]; exact I.v0 (by simpa using h), fun h => by rw [putV_ne (by decide)]; exact I.v1 (by simpa using h), fun h => by rw [putV_ne (by decide)]; exact I.v3 (by simpa using h), fun h => by rw [putV_ne (by decide)]; exact I.v4 (by simpa using h), fun h => by rw [putV_ne (by decide)]; exact I.v5 (by simpa using h),
              fun h => by
                rw [putV_ne (by decide)]
                obtain ⟨gJ, e2, lJ, BJ⟩ := I.v2 (by simpa using h)
                exact ⟨gJ, e2, lJ, BJ.keep b9 BJ.lt⟩,
              fun h h' => by
                rw [putV_ne (by decide)]
                exact ⟨ad, cap, e6, s6.call b9⟩,
              fun _ => ⟨W'.heap.size, rfl, bW.size, BJ⟩, fun h => by simp [h8'] at h, fun h => by simp [h9'] at h⟩
          · obtain rfl := Option.some.inj ho
            have h9' : d' 9 = false := no down 9 _ rfl ⟨8, .data⟩ (by simp) rfl hd
            obtain ⟨gJ, e2, lJ, BJ⟩ := I.v2 (hall ⟨2, .data⟩ (by simp) rfl)
            obtain ⟨gK, e7, lK, BK⟩ := I.v7 (hall ⟨7, .data⟩ (by simp) rfl)
            refine step_value (d := 41) (v := .agg #[V 2, V 7]) (W' := W') rfl rfl (fun ρ hρ => ?_) (hK _ _ ⟨putV V 8 _, by rw [ha]; exact pV_put 8 41 rfl (by decide) _, ?_⟩)
            · have q2 : ρ (.tmp 35) = .slice (some ⟨gJ, 0, none⟩) n1 n1 := by rw [hρ, ein 2 35 rfl (by decide)]; exact e2
              have q7 : ρ (.tmp 40) = .slice (some ⟨gK, 0, none⟩) (n2 + TL.size) (n2 + TL.size) := by rw [hρ, ein 7 40 rfl (by decide)]; exact e7
              rw [e2, e7]
              clear hρ
              go_simp
            · exact ⟨fun _ => I.bel h9', fun h => by rw [putV_ne (by decide)]; exact I.v0 (by simpa using h), fun h => by rw [putV_ne (by decide)]; exact I.v1 (by simpa using h), fun h => by rw [putV_ne (by decide)]; exact I.v3 (by simpa using h), fun h => by rw [putV_ne (by decide)]; exact I.v4 (by simpa using h), fun h => by rw [putV_ne (by decide)]; exact I.v5 (by simpa using h),
                fun h => by rw [putV_ne (by decide)]; exact I.v2 (by simpa using h),
                fun h h' => by rw [putV_ne (by decide)]; exact I.v6 (by simpa using h) h9',
                fun h => by rw [putV_ne (by decide)]; exact I.v7 (by simpa using h),
                fun _ => by simp [putV], fun h => by simp [h9'] at h⟩
          · obtain rfl := Option.some.inj ho
            have bW := I.bel hd
            obtain ⟨gJ, e2, lJ, BJ⟩ := I.v2 (hall ⟨2, .phase⟩ (by simp) rfl)
            obtain ⟨gK, e7, lK, BK⟩ := I.v7 (hall ⟨7, .chain⟩ (by simp) rfl)
            have e8 := I.v8 (hall ⟨8, .data⟩ (by simp) rfl)
            have BX := B2.keep bW B2.lt
            refine step_skip (n := .skip) (W' := (W'.setCell ⟨w.heap.size + 1 + 1, 0, none⟩ (V 2)).setCell ⟨w.heap.size + 1 + 1, 1, none⟩ (V 7)) rfl rfl (.inl rfl) (fun ρ hρ => ?_) (hK _ _ ⟨V, ha, ?_⟩)
            · have q4 : ρ (.tmp 4) = .pointer (some ⟨w.heap.size + 1 + 1, 0, none⟩) := by rw [hρ, eout 4 (by decide), a4']
              have q8 : ρ (.tmp 41) = .agg #[.slice (some ⟨gJ, 0, none⟩) n1 n1, .slice (some ⟨gK, 0, none⟩) (n2 + TL.size) (n2 + TL.size)] := by rw [hρ, ein 8 41 rfl (by decide), e8, e2, e7]
              rw [e2, e7]
              have z0 := BX.cell 0
              have z1 := BX.cell 1
              have f0 := BX.free 0
              have f1 := BX.free 1
              have lz := BX.lt
              clear hρ
              go_simp
            · have neJ : w.heap.size + 1 + 1 ≠ gJ := by omega
              have neK : w.heap.size + 1 + 1 ≠ gK := by omega
              exact ⟨fun h => by simp at h, fun h => I.v0 (by simpa using h), fun h => I.v1 (by simpa using h), fun h => I.v3 (by simpa using h), fun h => I.v4 (by simpa using h), fun h => I.v5 (by simpa using h),
                fun h => ⟨gJ, e2, lJ, (BJ.other 0 _ neJ).other 1 _ neJ⟩, fun _ h => by simp at h, fun h => ⟨gK, e7, lK, (BK.other 0 _ neK).other 1 _ neK⟩, fun _ => e8,
                fun _ => ⟨put2 BX _ _, below2s (bel.trans (bW.mono bel.size)) (Nat.le_trans (Nat.le_succ _) (Nat.le_succ _)) _ _⟩⟩
          · obtain rfl := Option.some.inj ho
            refine step_value (d := 5) (v := .int .i64 0) (W' := W') rfl rfl (fun ρ hρ => ?_) (hK _ _ ⟨V, ?_, ?_⟩)
            · have qc : ∀ v, ρ (.const v) = v := fun v => by rw [hρ]; rfl
              clear hρ
              go_simp
            · rw [ha, pV_put_out 5 (by decide), a5']
            · have e : ∀ k, k ≠ 10 → (k == 10 || d' k) = d' k := fun k hk => by simp [hk]
              exact ⟨fun h => I.bel (by simpa using h), fun h => I.v0 (by simpa using h), fun h => I.v1 (by simpa using h), fun h => I.v3 (by simpa using h), fun h => I.v4 (by simpa using h), fun h => I.v5 (by simpa using h), fun h => I.v2 (by simpa using h), fun h h' => I.v6 (by simpa using h) (by simpa using h'), fun h => I.v7 (by simpa using h), fun h => I.v8 (by simpa using h), fun h => I.fin (by simpa using h)⟩
    · have hE : dputE d r = recE r := by unfold dputE; rw [if_neg (by simp [h0]), if_pos hr0]
      have hD : dputD d r = dk0 := if_neg (by rw [hE]; exact hr0)
      rw [hE, hD]
      have hd : decide (recE r = 0) = false := decide_eq_false hr0
      clear hE hD
      generalize recE r = E at *
      generalize (⟨(recT r).toArray⟩ : ByteArray) = TX at *
      obtain ⟨K, s', m', l⟩ := r
      simp only at *
      replace h1 := hide h1
      replace h2 := hide h2
      replace h3 := hide h3
      go_enter Tryz.func173, Tryz.ntmps173
      go_wp2_with fail
      generalize World.alloc (World.alloc (World.alloc w _) _) _ = w2 at *
      go_at_call 174
      refine (cC _ g S1).mono ?_
      rintro e w3 ⟨rfl, b3⟩
      clear x0 x1 l1
      replace B2 := B2.keep b3 B2.lt
      replace B3 := B3.keep b3 B3.lt
      replace S3 := S3.call b3
      replace g := g.call b3
      replace bel := belowCall bel b3
      have z0 := B3.cell 0
      have z1 := B3.cell 1
      have z2 := B3.cell 2
      have z3 := B3.cell 3
      have lz := B3.lt
      go_wp2_with fail
      go_at_call 207
      refine (cP _ g S3).mono ?_
      rintro e w4 ⟨rfl, b4⟩
      clear z0 z1 z2 z3 lz
      replace B2 := B2.keep b4 B2.lt
      replace bel := belowCall bel b4
      have y0 := B2.cell 0
      have y1 := B2.cell 1
      have f0 := B2.free 0
      have f1 := B2.free 1
      have l2 := B2.lt
      go_wp2_with fail
      have B9 := put2 B2 (.slice none 0 0) (.slice none 0 0)
      have bel9 := below2s bel (Nat.le_trans (Nat.le_succ _) (Nat.le_succ _)) (.slice none 0 0) (.slice none 0 0)
      have i0 := B9.cell 0
      have i1 := B9.cell 1
      exact bodyPost_ret (v := .tuple #[.agg #[.slice none 0 0, .slice none 0 0], .int .i64 E]) (by simp [results, Tryz.results173, go_sem, i0, i1]) rfl (ansU0 bel9)
  · have hE : dputE d r = dkE d := if_pos h0
    have hD : dputD d r = dk0 := if_neg (by rw [hE]; exact h0)
    rw [hE, hD]
    have hd : decide (dkE d = 0) = false := decide_eq_false h0
    clear hE hD
    generalize dkE d = E at *
    obtain ⟨K, s', m', l⟩ := r
    simp only at *
    replace h1 := hide h1
    replace h2 := hide h2
    replace h3 := hide h3
    go_enter Tryz.func173, Tryz.ntmps173
    go_wp2_with fail
    generalize World.alloc (World.alloc (World.alloc w _) _) _ = w2 at *
    go_at_call 174
    refine (cC _ g S1).mono ?_
    rintro e w3 ⟨rfl, b3⟩
    clear x0 x1 l1
    replace B2 := B2.keep b3 B2.lt
    replace bel := belowCall bel b3
    have y0 := B2.cell 0
    have y1 := B2.cell 1
    have f0 := B2.free 0
    have f1 := B2.free 1
    have l2 := B2.lt
    go_wp2_with fail
    have B9 := put2 B2 (.slice none 0 0) (.slice none 0 0)
    have bel9 := below2s bel (Nat.le_trans (Nat.le_succ _) (Nat.le_succ _)) (.slice none 0 0) (.slice none 0 0)
    have i0 := B9.cell 0
    have i1 := B9.cell 1
    exact bodyPost_ret (v := .tuple #[.agg #[.slice none 0 0, .slice none 0 0], .int .i64 E]) (by simp [results, Tryz.results173, go_sem, i0, i1]) rfl (ansU0 bel9)

theorem dput_any (d : Dk) (r : Rc) (a1 a2 a3 : Option Addr) (c1 c2 c3 n1 n2 n3 : Nat) (w : World) (hg : Gl w) (s1 : Sl w a1 c1 (byteCells d.safe)) (s2 : Sl w a2 c2 (byteCells d.wait)) (s3 : SlW ec w a3 c3 r.e) (h1 : n1 = d.safe.length) (h2 : n2 = d.wait.length) (h3 : n3 = r.e.length) (few : n1 + n2 ≤ 9223372036854775807) :
    Calls Tryz.prog 173 #[.agg #[.slice a1 n1 c1, .slice a2 n2 c2], .agg #[.int .i64 r.k, .int .i64 r.s, .int .i64 r.n, .slice a3 n3 c3]] w (AnsD w (dputD d r) (dputE d r)) :=
  (dput_own d r a1 a2 a3 c1 c2 c3 n1 n2 n3 w hg s1 s2 s3 h1 h2 h3 few).mono fun _ _ h => h.d

end Go.Proofs.YtcjdpilmhlfmfaaGreatDoor

/-
  A disk in a box of its own; records that were put out; what lies elsewhere stays while the box is written.
-/
namespace Go.Proofs.YtcjdpilmhlfmfaaGreatDoor
open Go.RowKit
open Go.Lib (byteCells)

theorem gbTrans {a b c : World} {row : Option Nat} (h : a.grownBy b row) (k : b.grownBy c row) : a.grownBy c row :=
  ⟨k.os.trans h.os, k.tape.trans h.tape, k.output.trans h.output, Nat.le_trans h.size k.size, fun j hj hne => (k.block j (Nat.lt_of_lt_of_le hj h.size) hne).trans (h.block j hj hne)⟩

theorem gbBelow {a b : World} {row : Option Nat} (h : Below a.heap.size a b) : a.grownBy b row := ⟨h.os, h.tape, h.output, h.size, fun k hk _ => h.block k hk⟩

theorem SlRec.call {w w' : World} {a : Option Addr} {cap : Nat} {l : List Lrc} (h : SlRec w a cap l) (hb : Below w.heap.size w w') : SlRec w' a cap l := h.keep hb (Nat.le_refl _)

/-- A disk in a box. -/
structure DkB (w : World) (g : Nat) (a1 : Option Addr) (n1 c1 : Nat) (a2 : Option Addr) (n2 c2 : Nat) (d : Dk) : Prop where
  blk : Blk w g [.slice a1 n1 c1, .slice a2 n2 c2] 27
  e1 : n1 = d.safe.length
  e2 : n2 = d.wait.length
  s1 : Sl w a1 c1 (byteCells d.safe)
  s2 : Sl w a2 c2 (byteCells d.wait)

theorem DkB.call {w w' : World} {g : Nat} {a1 : Option Addr} {n1 c1 : Nat} {a2 : Option Addr} {n2 c2 : Nat} {d : Dk} (h : DkB w g a1 n1 c1 a2 n2 c2 d) (hb : Below w.heap.size w w') : DkB w' g a1 n1 c1 a2 n2 c2 d :=
  ⟨h.blk.keep hb h.blk.lt, h.e1, h.e2, h.s1.call hb, h.s2.call hb⟩

end Go.Proofs.YtcjdpilmhlfmfaaGreatDoor

/-
  disk.Crash: what it answers; nothing that was there is written.
-/
namespace Go.Proofs.YtcjdpilmhlfmfaaGreatDoor
open Go.RowKit
open Go.Lib (byteCells)

theorem Sl.takeU {w : World} {a : Option Addr} {cap : Nat} {l : List UInt8} (S : Sl w a cap (byteCells l)) (k : Nat) : Sl w a cap (byteCells (l.take k)) := by
  have e : byteCells (l.take k) = (byteCells l).take k := by simp [byteCells, List.map_take]
  obtain ⟨hr, h1, h2, h3⟩ := S
  refine ⟨?_, by rw [e, List.length_take]; omega, h2, h3⟩
  rcases hr with h | ⟨b, off, ea, hb, hc⟩
  · exact .inl (by rw [e, h]; simp)
  · refine .inr ⟨b, off, ea, hb, fun j u hu => hc j u ?_⟩
    rw [e, List.getElem?_take] at hu
    split at hu
    · exact hu
    · cases hu

set_option maxHeartbeats 1000000 in
set_option maxRecDepth 100000 in
theorem crash_any (d : Dk) (n : Int) (a1 a2 : Option Addr) (c1 c2 n1 n2 : Nat) (w : World) (hg : Gl w) (s1 : Sl w a1 c1 (byteCells d.safe)) (s2 : Sl w a2 c2 (byteCells d.wait)) (h1 : n1 = d.safe.length) (h2 : n2 = d.wait.length) (few : n1 + n2 ≤ 9223372036854775807) :
    Calls Tryz.prog 138 #[.agg #[.slice a1 n1 c1, .slice a2 n2 c2], .int .i64 n] w (AnsD w (crashD d n) (crashE d n)) := by
  have cC := fun W g s => dcheck_any d a1 a2 c1 c2 n1 n2 W g s h1 h2 few
  have B1 := (Blk.laid w [.slice a1 n1 c1, .slice a2 n2 c2] 27 _ rfl).alc (.cells #[.slice none 0 0, .slice none 0 0] 27)
  have B2 := Blk.laid (w.alloc (.cells #[.slice a1 n1 c1, .slice a2 n2 c2] 27)) [.slice none 0 0, .slice none 0 0] 27 (w.heap.size + 1) (by simp)
  have bel := newB (newB (Below.refl w.heap.size w) (.cells #[.slice a1 n1 c1, .slice a2 n2 c2] 27)) (.cells #[.slice none 0 0, .slice none 0 0] 27)
  have S1 := s1.keep bel (Nat.le_refl _)
  have S2 := s2.keep bel (Nat.le_refl _)
  have g := hg.call bel
  by_cases h0 : dkE d = 0
  · have few' : n1 + n2 ≤ 60000 := by
      have := h0
      unfold dkE at this
      split at this
      · cases this
      · rw [h1, h2]; omega
    rw [h0] at cC
    by_cases hn : n < 0 ∨ (n2 : Int) < n
    · have hE : crashE d n = 3 := by unfold crashE; rw [if_neg (by simp [h0]), ← h2, if_pos hn]
      have hD : crashD d n = dk0 := if_neg (by rw [hE]; decide)
      rw [hE, hD]
      clear hE hD h0
      replace h1 := hide h1
      replace h2 := hide h2
      have x0 := B1.cell 0
      have x1 := B1.cell 1
      have l1 := B1.lt
      by_cases hn0 : n < 0
      · have hd0 : decide (n < 0) = true := decide_eq_true hn0
        clear hn
        go_enter Tryz.func138, Tryz.ntmps138
        go_wp2_with fail
        generalize World.alloc (World.alloc w _) _ = w2 at *
        go_at_call 174
        refine (cC _ g S1).mono ?_
        rintro e w3 ⟨rfl, b3⟩
        clear x0 x1 l1
        replace B1 := B1.keep b3 B1.lt
        replace B2 := B2.keep b3 B2.lt
        replace bel := belowCall bel b3
        have x0 := B1.cell 0
        have x1 := B1.cell 1
        have l1 := B1.lt
        have y0 := B2.cell 0
        have y1 := B2.cell 1
        have f0 := B2.free 0
        have f1 := B2.free 1
        have l2 := B2.lt
        go_wp2_with fail
        have B9 := put2 B2 (.slice none 0 0) (.slice none 0 0)
        have bel9 := below2s bel (Nat.le_succ _) (.slice none 0 0) (.slice none 0 0)
        have i0 := B9.cell 0
        have i1 := B9.cell 1
        exact bodyPost_ret (v := .tuple #[.agg #[.slice none 0 0, .slice none 0 0], .int .i64 3]) (by simp [results, Tryz.results138, go_sem, i0, i1]) rfl (ans0 bel9)
      · have hd0 : decide (n < 0) = false := decide_eq_false hn0
        have hn2 : (n2 : Int) < n := hn.resolve_left hn0
        have hd1 : decide ((n2 : Int) < n) = true := decide_eq_true hn2
        clear hn
        go_enter Tryz.func138, Tryz.ntmps138
        go_wp2_with fail
        generalize World.alloc (World.alloc w _) _ = w2 at *
        go_at_call 174
        refine (cC _ g S1).mono ?_
        rintro e w3 ⟨rfl, b3⟩
        clear x0 x1 l1
        replace B1 := B1.keep b3 B1.lt
        replace B2 := B2.keep b3 B2.lt
        replace bel := belowCall bel b3
        have x0 := B1.cell 0
        have x1 := B1.cell 1
        have l1 := B1.lt
        have y0 := B2.cell 0
        have y1 := B2.cell 1
        have f0 := B2.free 0
        have f1 := B2.free 1
        have l2 := B2.lt
        go_wp2_with fail
        have B9 := put2 B2 (.slice none 0 0) (.slice none 0 0)
        have bel9 := below2s bel (Nat.le_succ _) (.slice none 0 0) (.slice none 0 0)
        have i0 := B9.cell 0
        have i1 := B9.cell 1
        exact bodyPost_ret (v := .tuple #[.agg #[.slice none 0 0, .slice none 0 0], .int .i64 3]) (by simp [results, Tryz.results138, go_sem, i0, i1]) rfl (ans0 bel9)
    · have hE : crashE d n = 0 := by unfold crashE; rw [if_neg (by simp [h0]), ← h2, if_neg hn]
      have hD : crashD d n = ⟨d.safe, d.wait.take n.toNat⟩ := if_pos hE
      rw [hE, hD]
      obtain ⟨k, rfl⟩ : ∃ k : Nat, n = k := ⟨n.toNat, by omega⟩
      rw [Int.toNat_natCast]
      have hk : k ≤ n2 := by omega
      have hkl : k = (d.wait.take k).length := by rw [List.length_take]; omega
      have cJ := fun W s => join_any a1 none c1 0 n1 0 d.safe [] W s (Sl.ofNil _) h1 rfl (by omega)
      have cK := fun W s => join_any a2 none c2 0 k 0 (d.wait.take k) [] W s (Sl.ofNil _) hkl rfl (by omega)
      simp only [List.append_nil, Nat.add_zero] at cJ cK
      have hc2 : n2 ≤ c2 := by have := s2.le; rw [Lib.byteCells_length] at this; omega
      have hd0 : decide ((k : Int) < 0) = false := decide_eq_false (by omega)
      have hd1 : decide ((n2 : Int) < k) = false := decide_eq_false (by omega)
      have hn' : ¬ (n2 : Int) < k := by omega
      clear hE hD h0 hn
      replace h1 := hide h1
      replace h2 := hide h2
      replace hkl := hide hkl
      have x0 := B1.cell 0
      have x1 := B1.cell 1
      have l1 := B1.lt
      go_enter Tryz.func138, Tryz.ntmps138
      go_wp2_with fail
      generalize World.alloc (World.alloc w _) _ = w2 at *
      go_at_call 174
      refine (cC _ g S1).mono ?_
      rintro e w3 ⟨rfl, b3⟩
      clear x0 x1 l1
      replace B1 := B1.keep b3 B1.lt
      replace B2 := B2.keep b3 B2.lt
      replace S1 := S1.call b3
      replace S2 := S2.call b3
      replace bel := belowCall bel b3
      have x0 : w3.cell? ⟨w.heap.size, 0, none⟩ = some (.slice a1 n1 c1) := B1.cell 0
      have x1 : w3.cell? ⟨w.heap.size, 1, none⟩ = some (.slice a2 n2 c2) := B1.cell 1
      have l1 := B1.lt
      have kJ : ∀ W, Below w3.heap.size w3 W → Calls Tryz.prog 59 #[.slice a1 n1 c1, .slice none 0 0] W fun e w' => e = .returned (.slice (some ⟨W.heap.size, 0, none⟩) n1 n1) ∧ w'.cell? ⟨w.heap.size, 0, none⟩ = some (.slice a1 n1 c1) ∧ w'.cell? ⟨w.heap.size, 1, none⟩ = some (.slice a2 n2 c2) ∧ Blk w' W.heap.size (byteCells d.safe) 5 ∧ Below w3.heap.size w3 w' := by
        intro W h
        refine (cJ W (S1.call h)).mono ?_
        rintro e w' ⟨rfl, BJ, b⟩
        have bb := belowCall h b
        exact ⟨rfl, (B1.keep bb B1.lt).cell 0, (B1.keep bb B1.lt).cell 1, BJ, bb⟩
      have kK : ∀ W, Below w3.heap.size w3 W → Calls Tryz.prog 59 #[.slice a2 k c2, .slice none 0 0] W fun e w' => e = .returned (.slice (some ⟨W.heap.size, 0, none⟩) k k) ∧ w'.cell? ⟨w.heap.size, 0, none⟩ = some (.slice a1 n1 c1) ∧ w'.cell? ⟨w.heap.size, 1, none⟩ = some (.slice a2 n2 c2) ∧ w'.cell? ⟨w.heap.size + 1, 0, none⟩ = some (.slice none 0 0) ∧ w'.cell? ⟨w.heap.size + 1, 1, none⟩ = some (.slice none 0 0) ∧ w'.frozen? ⟨w.heap.size + 1, 0, none⟩ = false ∧ w'.frozen? ⟨w.heap.size + 1, 1, none⟩ = false ∧ w.heap.size + 1 < w'.heap.size ∧ Blk w' W.heap.size (byteCells (d.wait.take k)) 5 ∧ Below W.heap.size W w' ∧ Below w3.heap.size w3 w' := by
        intro W h
        refine (cK W ((S2.call h).takeU k)).mono ?_
        rintro e w' ⟨rfl, BJ, b⟩
        have bb := belowCall h b
        have b2' := B2.keep bb B2.lt
        exact ⟨rfl, (B1.keep bb B1.lt).cell 0, (B1.keep bb B1.lt).cell 1, b2'.cell 0, b2'.cell 1, b2'.free 0, b2'.free 1, b2'.lt, BJ, b, bb⟩
      have k0 : Below w3.heap.size w3 w3.drew := belowDrew (Below.refl _ _)
      have hkc : k ≤ c2 := by omega
      clear cC cJ cK
      go_upto_region 6 with fail
      go_region_held3 (fun w' => w'.cell? ⟨w.heap.size, 0, none⟩ = some (.slice a1 n1 c1) ∧ w'.cell? ⟨w.heap.size, 1, none⟩ = some (.slice a2 n2 c2)) (go_keep)
        (first
          | (go_at_call 59; refine (kK _ zA).mono ?_; rintro e wB ⟨rfl, p0, p1, q0, q1, fq0, fq1, lq, BB', bB, zB⟩)
          | (go_at_call 59; refine (kJ _ k0).mono ?_; rintro e wA ⟨rfl, z0, z1, BA, zA⟩))
      all_goals (
        go_wp2_with fail
        have l2 := B2.lt
        have lA := zA.size
        have B9 := put2 (B2.keep zB B2.lt) (.slice (some ⟨w3.heap.size, 0, none⟩) n1 n1) (.slice (some ⟨wA.heap.size, 0, none⟩) k k)
        have bel9 := below2s (belowCall bel zB) (Nat.le_succ _) (.slice (some ⟨w3.heap.size, 0, none⟩) n1 n1) (.slice (some ⟨wA.heap.size, 0, none⟩) k k)
        have J1 : Blk wB w3.heap.size (byteCells d.safe) 5 := BA.keep bB BA.lt
        have T1 := ((J1.other (g' := w.heap.size + 1) 0 (.slice (some ⟨w3.heap.size, 0, none⟩) n1 n1) (by omega)).other (g' := w.heap.size + 1) 1 (.slice (some ⟨wA.heap.size, 0, none⟩) k k) (by omega))
        have T2 := ((BB'.other (g' := w.heap.size + 1) 0 (.slice (some ⟨w3.heap.size, 0, none⟩) n1 n1) (by omega)).other (g' := w.heap.size + 1) 1 (.slice (some ⟨wA.heap.size, 0, none⟩) k k) (by omega))
        have i0 := B9.cell 0
        have i1 := B9.cell 1
        exact bodyPost_ret (v := .tuple #[.agg #[.slice (some ⟨w3.heap.size, 0, none⟩) n1 n1, .slice (some ⟨wA.heap.size, 0, none⟩) k k], .int .i64 0]) (by simp [results, Tryz.results138, go_sem, i0, i1]) rfl ⟨_, _, n1, k, n1, k, rfl, h1.out, hkl.out, ownBlkU T1 h1.out (by omega), ownBlkU T2 hkl.out (by omega), bel9⟩)
  · have hE : crashE d n = dkE d := if_pos h0
    have hD : crashD d n = dk0 := if_neg (by rw [hE]; exact h0)
    rw [hE, hD]
    have hd : decide (dkE d = 0) = false := decide_eq_false h0
    generalize dkE d = E at *
    replace h1 := hide h1
    replace h2 := hide h2
    clear hE hD
    have x0 := B1.cell 0
    have x1 := B1.cell 1
    have l1 := B1.lt
    go_enter Tryz.func138, Tryz.ntmps138
    go_wp2_with fail
    generalize World.alloc (World.alloc w _) _ = w2 at *
    go_at_call 174
    refine (cC _ g S1).mono ?_
    rintro e w3 ⟨rfl, b3⟩
    replace B2 := B2.keep b3 B2.lt
    replace bel := belowCall bel b3
    have y0 := B2.cell 0
    have y1 := B2.cell 1
    have f0 := B2.free 0
    have f1 := B2.free 1
    have l2 := B2.lt
    go_wp2_with fail
    have B9 := put2 B2 (.slice none 0 0) (.slice none 0 0)
    have bel9 := below2s bel (Nat.le_succ _) (.slice none 0 0) (.slice none 0 0)
    have i0 := B9.cell 0
    have i1 := B9.cell 1
    exact bodyPost_ret (v := .tuple #[.agg #[.slice none 0 0, .slice none 0 0], .int .i64 E]) (by simp [results, Tryz.results138, go_sem, i0, i1]) rfl (ans0 bel9)

end Go.Proofs.YtcjdpilmhlfmfaaGreatDoor

/-
  disk.Recover: what it answers; nothing that was there is written.
-/
namespace Go.Proofs.YtcjdpilmhlfmfaaGreatDoor
open Go.RowKit
open Go.Lib (byteCells)

/-- What Recover says. -/
def AnsR (w : World) (D : Dk) (L : List Rc) (E : Int) (e : Ending) (w' : World) : Prop :=
  ∃ (a1 a2 a3 : Option Addr) (n1 n2 c1 c2 n3 G3 : Nat) (l : List Lrc), e = .returned (.tuple #[.agg #[.slice a1 n1 c1, .slice a2 n2 c2], .slice a3 n3 G3, .int .i64 E]) ∧ n1 = D.safe.length ∧ n2 = D.wait.length ∧ Sl w' a1 c1 (byteCells D.safe) ∧ Sl w' a2 c2 (byteCells D.wait) ∧ Recs w.heap.size w' a3 n3 G3 l ∧ l.map (·.r) = L ∧ Below w.heap.size w w'

theorem Recs.set2 {base : Nat} {w : World} {a : Option Addr} {n G g : Nat} {l : List Lrc} {c0 c1 : Value} (h : Recs base w a n G l) (B : Blk w g [c0, c1] 27) (u0 u1 : Value) : Recs base ((w.setCell ⟨g, 0, none⟩ u0).setCell ⟨g, 1, none⟩ u1) a n G l := by
  have one : ∀ {e : TypeId} {size m : Nat} {v : Value} {xs : List Value}, e ≠ 27 → w.ownsRow base e size v m xs → ((w.setCell ⟨g, 0, none⟩ u0).setCell ⟨g, 1, none⟩ u1).ownsRow base e size v m xs := by
    intro e size m v xs he o
    have hne : v.ownBlock ≠ some g := by
      rcases o.2 with ⟨rfl, _⟩ | ⟨g1, c1, cur1, rfl, _, h1, _⟩
      · intro e; cases e
      · intro e'
        have e1 : g1 = g := by simpa [Value.ownBlock] using e'
        subst e1
        have h2 := h1.symm.trans B
        simp only [Option.some.injEq, Obj.cells.injEq] at h2
        exact he h2.2.1
    exact ownsRow_setCell_other (ownsRow_setCell_other o (a := ⟨g, 0, none⟩) hne u0) (a := ⟨g, 1, none⟩) hne u1
  exact ⟨h.len, one (by decide) h.row, fun x hx => one (by decide) (h.own x hx)⟩

theorem tail_suffix : ∀ (n k : Nat) (l : List UInt8), l.length ≤ n → (tail k l).2.length ≤ l.length
  | 0, k, l, h => by
    obtain rfl := List.length_eq_zero_iff.1 (Nat.le_zero.1 h)
    rw [tail_stop (by rw [lnE_nil]; simp)]
    exact Nat.le_refl _
  | n + 1, k, l, h => by
    by_cases hs : k < 60 ∧ lnE l = 0
    · rw [tail_step hs]
      have := lnB_less hs.2
      have := tail_suffix n (k + 1) (lnB l) (by omega)
      simp only
      omega
    · rw [tail_stop hs]
      exact Nat.le_refl _

theorem keepM (n1 n2 : Nat) (rest : ByteArray) (safe wait KP t2 : List UInt8) (h1 : n1 = safe.length) (h2 : n2 = wait.length) (hkp : KP = wait.take (n2 - t2.length)) (hr : bytes rest = t2) (hle : t2.length ≤ wait.length) (few : n1 + n2 ≤ 60000) :
    ∃ m : Nat, IntKind.i64.wrap ((n2 : Int) - (rest.size : Int)) = (m : Int) ∧ (n2 : Int) - (rest.size : Int) = (m : Int) ∧ wrap64 (m : Int) = (m : Int) ∧ m ≤ n2 ∧ KP = wait.take m ∧ m = KP.length ∧ n1 + m = (safe ++ KP).length := by
  have hs : rest.size = t2.length := by rw [← hr, bytes_len]
  refine ⟨n2 - t2.length, ?_, ?_, ?_, Nat.sub_le _ _, hkp, ?_, ?_⟩
  · rw [hs, IntKind.wrap_i64]; omega
  · rw [hs]; omega
  · unfold wrap64; omega
  · rw [hkp, List.length_take]; omega
  · rw [hkp, List.length_append, List.length_take]; omega

set_option maxHeartbeats 2000000 in
set_option maxRecDepth 100000 in
theorem recover_any (d : Dk) (a1 a2 : Option Addr) (c1 c2 n1 n2 : Nat) (w : World) (hg : Gl w) (s1 : Sl w a1 c1 (byteCells d.safe)) (s2 : Sl w a2 c2 (byteCells d.wait)) (h1 : n1 = d.safe.length) (h2 : n2 = d.wait.length) (few : n1 + n2 ≤ 9223372036854775807) :
    Calls Tryz.prog 27 #[.agg #[.slice a1 n1 c1, .slice a2 n2 c2]] w (AnsR w (recD d) (recL d) (dkE d)) := by
  have cC := fun W g s => safe_any d a1 a2 c1 c2 n1 n2 W g s h1 h2 few
  have B1 := (Blk.laid w [.slice a1 n1 c1, .slice a2 n2 c2] 27 _ rfl).alc (.cells #[.slice none 0 0, .slice none 0 0] 27)
  have B2 := Blk.laid (w.alloc (.cells #[.slice a1 n1 c1, .slice a2 n2 c2] 27)) [.slice none 0 0, .slice none 0 0] 27 (w.heap.size + 1) (by simp)
  have bel := newB (newB (Below.refl w.heap.size w) (.cells #[.slice a1 n1 c1, .slice a2 n2 c2] 27)) (.cells #[.slice none 0 0, .slice none 0 0] 27)
  have hsz : w.heap.size ≤ ((w.alloc (.cells #[.slice a1 n1 c1, .slice a2 n2 c2] 27)).alloc (.cells #[.slice none 0 0, .slice none 0 0] 27)).heap.size := bel.size
  have S1 := s1.keep bel (Nat.le_refl _)
  have S2 := s2.keep bel (Nat.le_refl _)
  have g := hg.call bel
  have x0 := B1.cell 0
  have x1 := B1.cell 1
  have l1 := B1.lt
  by_cases h0 : dkE d = 0
  · have few' : n1 + n2 ≤ 60000 := by
      have := h0
      unfold dkE at this
      split at this
      · cases this
      · rw [h1, h2]; omega
    have hD : recD d = ⟨d.safe ++ kept d, []⟩ := if_pos h0
    have hL : recL d = dkL d ++ (tail (dkL d).length d.wait).1 := if_pos h0
    have hkp : kept d = d.wait.take (n2 - (tail (dkL d).length d.wait).2.length) := by unfold kept; rw [h2]
    have hcv := fun (W : World) (S : Sl W a2 c2 (byteCells d.wait)) => run_str S h2
    rw [hD, hL, h0]
    rw [h0] at cC
    obtain ⟨i0, hi, hz0, hz1, hz2⟩ := info_parts infoRec
    have hl60 := dkL_le d
    generalize kept d = KP at *
    generalize dkL d = L0 at *
    generalize hTL : tail L0.length d.wait = TL at *
    clear hD hL h0
    replace h1 := hide h1
    replace h2 := hide h2
    replace hkp := hide hkp
    replace hTL := hide hTL
    go_enter Tryz.func27, Tryz.ntmps27
    go_wp2_with fail
    generalize World.alloc (World.alloc w _) _ = w2 at *
    go_at_call 57
    refine (cC _ g S1).mono ?_
    rintro e w3 ⟨a3, n3, G3, l3, rfl, R3, hl3, b3⟩
    clear x0 x1 l1
    replace B1 := B1.keep b3 B1.lt
    replace B2 := B2.keep b3 B2.lt
    replace S1 := S1.call b3
    replace S2 := S2.call b3
    replace g := g.call b3
    replace bel := belowCall bel b3
    replace R3 := R3.down hsz
    have x0 : w3.cell? ⟨w.heap.size, 0, none⟩ = some (.slice a1 n1 c1) := B1.cell 0
    have x1 : w3.cell? ⟨w.heap.size, 1, none⟩ = some (.slice a2 n2 c2) := B1.cell 1
    have l1 := B1.lt
    have hcv3 := hcv w3 S2
    have hn3 : n3 = L0.length := by rw [R3.len, ← hl3, List.length_map]
    have h60 : n3 ≤ 60 := by rw [hn3]; exact hl60
    replace hl3 := hide hl3
    replace hn3 := hide hn3
    go_upto_block 0 with fail
    go_cut [5, 7, 8, 9, 10] from 24 to 39 (fun s5 s7 s8 s9 s10 wx => ∃ (rest : ByteArray) (k G : Nat) (ao : Option Addr) (l : List Lrc), s5 = .slice ao k G ∧ s7 = .string rest ∧ Recs w.heap.size wx ao k G l ∧ Hid (l.map (·.r) = L0 ++ TL.1) ∧ Hid (bytes rest = TL.2) ∧ Blk wx w.heap.size [.slice a1 n1 c1, .slice a2 n2 c2] 27 ∧ Blk wx (w.heap.size + 1) [.slice none 0 0, .slice none 0 0] 27 ∧ Below w.heap.size w wx)
    case first =>
      go_wp2_with fail
      go_loopw [5, 7] (fun s5 s7 wr => ∃ (rest : ByteArray) (k G : Nat) (ao : Option Addr) (l : List Lrc) (more : List Rc), s5 = .slice ao k G ∧ s7 = .string rest ∧ Recs w.heap.size wr ao k G l ∧ k ≤ 60 ∧ rest.size ≤ 60000 ∧ Hid (l.map (·.r) = L0 ++ more) ∧ Hid (TL = (more ++ (tail k (bytes rest)).1, (tail k (bytes rest)).2)) ∧ Blk wr w.heap.size [.slice a1 n1 c1, .slice a2 n2 c2] 27 ∧ Blk wr (w.heap.size + 1) [.slice none 0 0, .slice none 0 0] 27 ∧ Below w.heap.size w wr) (fun _ s7 _ => strLen s7)
      case atStart => exact ⟨_, n3, G3, a3, l3, [], rfl, rfl, R3, h60, by show (ofB d.wait).size ≤ _; rw [ofB_size]; have := h2.out; omega, by show _ = _; rw [hl3.out, List.append_nil], by show _ = _; rw [← hTL.out, show bytes ⟨d.wait.toArray⟩ = d.wait from bytes_ofB _, hn3.out]; rfl, B1, B2, bel⟩
      case round =>
        clear x0 x1 l1 B1 B2 bel hcv3
        obtain ⟨rest, k, G, ao, l, more, rfl, rfl, R, hk, hr, hm, ht, B1, B2, belr⟩ := hrel
        by_cases hk6 : k < 60
        · have hk6' : (k : Int) < 60 := by omega
          have cF := fun W g => first_any rest W g hr
          have gr := hg.call belr
          have hstop : lnE (bytes rest) ≠ 0 → TL = (more, bytes rest) := by
            intro h
            rw [ht.out, tail_stop (fun h' => h h'.2), List.append_nil]
          have hstep : lnE (bytes rest) = 0 → TL = (more ++ [lnR (bytes rest)] ++ (tail (k + 1) (lnB (bytes rest))).1, (tail (k + 1) (lnB (bytes rest))).2) := by
            intro h
            rw [ht.out, tail_step ⟨hk6, h⟩]
            simp
          have hlt : lnE (bytes rest) = 0 → (ofB (lnB (bytes rest))).size < rest.size := by
            intro h
            rw [ofB_size, ← bytes_len rest]
            exact lnB_less h
          have hbB : bytes (ofB (lnB (bytes rest))) = lnB (bytes rest) := bytes_ofB _
          obtain ⟨PB, hPB⟩ : ∃ PB, PB = ofB (lnB (bytes rest)) := ⟨_, rfl⟩
          rw [← hbB] at hstep
          rw [← hPB] at hstep hlt
          simp only [← hPB] at cF
          clear hPB hbB
          generalize lnR (bytes rest) = PR at *
          generalize lnE (bytes rest) = PE at *
          obtain ⟨K, s', m', es⟩ := PR
          simp only at *
          obtain ⟨ln, hln⟩ : ∃ ln, ln = es.length := ⟨_, rfl⟩
          rw [← hln] at cF
          replace hln := hide hln
          go_wp2_with fail
          go_at_call 58
          refine (cF _ gr).mono ?_
          rintro e w4 ⟨a4, G4, rfl, o4, b4⟩
          have bel4 := belowCall belr b4
          have R4 := R.call b4
          have BX := Blk.laid w4 [.int .i64 K, .int .i64 s', .int .i64 m', .slice a4 ln G4] 66 _ rfl
          have bq := newB (Below.refl w4.heap.size w4) (.cells #[.int .i64 K, .int .i64 s', .int .i64 m', .slice a4 ln G4] 66)
          have bel5 := belowCall bel4 bq
          have R5 := R4.call bq
          replace B1 := (B1.keep b4 B1.lt).keep bq (Nat.lt_of_lt_of_le B1.lt b4.size)
          replace B2 := (B2.keep b4 B2.lt).keep bq (Nat.lt_of_lt_of_le B2.lt b4.size)
          have o5 := owndown (o4.alloc (.cells #[.int .i64 K, .int .i64 s', .int .i64 m', .slice a4 ln G4] 66)) belr.size
          by_cases hp0 : PE = 0
          · subst hp0
            have hst := hide (hstep rfl)
            have hlt' := hlt rfl
            clear hstep hstop hlt
            go_upto_region 8 with fail
            generalize w4.heap.size = gX at *
            generalize w4.alloc _ = w5 at *
            have y0 := BX.cell 0
            have y1 := BX.cell 1
            have y2 := BX.cell 2
            have y3 := BX.cell 3
            have lX := BX.lt
            go_wp2_with (at_builtin; refine wpList_append_new w5 rfl (.tmp 35) (.tmp 37) 39 rfl w.heap.size 66 i0 _ 4 48 Tryz.underlying39 hi hz0 hz1 hz2 rfl (by decide) (.slice ao k G) k _ (by rfl) R5.row 1 #[.int .i64 K, .int .i64 s', .int .i64 m', .slice a4 ln G4] 66 (by rfl) (by rfl) (by simp [Value.oneCell']) (by decide) (by unfold maxLen; omega) (by omega) bel5.size ?_)
            intro v7 w7 own7 grow7 went7
            have bel7 := belowGrown bel5 R5.row grow7 (Nat.le_refl _) bel5.size
            have B17 := B1.grown grow7 (fun q e h => ownNe R5.row B1 (by decide) (by rw [e, h]))
            have B27 := B2.grown grow7 (fun q e h => ownNe R5.row B2 (by decide) (by rw [e, h]))
            obtain ⟨a8, G8, rfl, R8⟩ := R5.snoc (x := ⟨⟨K, s', m', es⟩, a4, G4⟩) (by show World.ownsRow _ _ _ _ (.slice a4 es.length G4) es.length _; rw [← hln.out]; exact o5) (by unfold Lrc.cells; simp only; rw [← hln.out]; exact own7) grow7
            go_wp2_with fail
            go_roundw
            case rel => exact ⟨PB, k + 1, G8, a8, l ++ [⟨⟨K, s', m', es⟩, a4, G4⟩], more ++ [⟨K, s', m', es⟩], rfl, rfl, R8, by omega, by omega, by show _ = _; rw [List.map_append, hm.out, List.append_assoc]; rfl, hst, B17, B27, bel7⟩
            case measure => exact hlt'
          · have hd : decide (PE = 0) = false := decide_eq_false hp0
            have hst := hstop hp0
            go_upto_region 7 with fail
            generalize w4.alloc _ = w5 at *
            go_wp2_with fail
            go_meet
            case rel => exact ⟨rest, k, G, ao, l, rfl, rfl, R5, by show _ = _; rw [hm.out, hst], by show _ = _; rw [hst], B1, B2, bel5⟩
        · have hk6' : ¬ (k : Int) < 60 := by omega
          have hst : TL = (more, bytes rest) := by
            rw [ht.out, tail_stop (fun h' => hk6 h'.1), List.append_nil]
          go_wp2_with fail
          go_meet
          case rel => exact ⟨rest, k, G, ao, l, rfl, rfl, R, by show _ = _; rw [hm.out, hst], by show _ = _; rw [hst], B1, B2, belr⟩
    case rest =>
      clear x0 x1 l1 B1 B2 bel hcv3 cC S1 S2 g R3
      obtain ⟨rest, k, G, ao, l, rfl, rfl, R, hm, hrst, B1, B2, bel⟩ := hcut
      obtain ⟨m, hmi, hmi', hmw, hmn, hKP, hml, hJL⟩ := keepM n1 n2 rest d.safe d.wait KP TL.2 h1.out h2.out hkp.out hrst.out (by rw [← hTL.out]; exact tail_suffix d.wait.length L0.length d.wait (Nat.le_refl _)) few'
      have hnm : n1 + m ≤ 1000000 := Nat.le_trans (Nat.add_le_add_left hmn n1) (Nat.le_trans few' (by decide))
      have S1 := s1.keep bel (Nat.le_refl _)
      have S2 := s2.keep bel (Nat.le_refl _)
      have cJ := fun W s t => join_any a1 a2 c1 c2 n1 m d.safe KP W s t h1.out hml hnm
      have x0 : wc.cell? ⟨w.heap.size, 0, none⟩ = some (.slice a1 n1 c1) := B1.cell 0
      have x1 : wc.cell? ⟨w.heap.size, 1, none⟩ = some (.slice a2 n2 c2) := B1.cell 1
      have l1 := B1.lt
      have kJ : ∀ W, Below wc.heap.size wc W → Calls Tryz.prog 59 #[.slice a1 n1 c1, .slice a2 m c2] W fun e w' => e = .returned (.slice (some ⟨W.heap.size, 0, none⟩) (n1 + m) (n1 + m)) ∧ w'.cell? ⟨w.heap.size, 0, none⟩ = some (.slice a1 n1 c1) ∧ w'.cell? ⟨w.heap.size, 1, none⟩ = some (.slice a2 n2 c2) ∧ w'.cell? ⟨w.heap.size + 1, 0, none⟩ = some (.slice none 0 0) ∧ w'.cell? ⟨w.heap.size + 1, 1, none⟩ = some (.slice none 0 0) ∧ w'.frozen? ⟨w.heap.size + 1, 0, none⟩ = false ∧ w'.frozen? ⟨w.heap.size + 1, 1, none⟩ = false ∧ w.heap.size + 1 < w'.heap.size ∧ Blk w' W.heap.size (byteCells (d.safe ++ KP)) 5 ∧ Below wc.heap.size wc w' := by
        intro W h
        refine (cJ W (S1.call h) (hKP ▸ (S2.call h).takeU m)).mono ?_
        rintro e w' ⟨rfl, BJ, b⟩
        have bb := belowCall h b
        have b2' := B2.keep bb B2.lt
        exact ⟨rfl, (B1.keep bb B1.lt).cell 0, (B1.keep bb B1.lt).cell 1, b2'.cell 0, b2'.cell 1, b2'.free 0, b2'.free 1, b2'.lt, BJ, bb⟩
      have k0 : Below wc.heap.size wc wc.drew := belowDrew (Below.refl _ _)
      have hc2 : n2 ≤ c2 := by have := s2.le; rw [Lib.byteCells_length, ← h2.out] at this; exact this
      have hmc : m ≤ c2 := Nat.le_trans hmn hc2
      have hmc' : (m : Int) ≤ c2 := Int.ofNat_le.2 hmc
      clear few few' hl60 hn3 h60 hl3 hcv hkp
      have ne1 : ¬ w.heap.size + 1 = w.heap.size := by omega
      replace hml := hide hml
      replace hJL := hide hJL
      replace hKP := hide hKP
      clear cJ
      go_upto_region 10 with fail
      go_region_held3 (fun w' => w'.cell? ⟨w.heap.size, 0, none⟩ = some (.slice a1 n1 c1) ∧ w'.cell? ⟨w.heap.size, 1, none⟩ = some (.slice a2 n2 c2)) (go_keep)
        (first
          | (go_at_call 59; refine (kJ _ k0).mono ?_; rintro e wB ⟨rfl, p0, p1, q0, q1, fq0, fq1, lq, BB', zB⟩))
      all_goals (
        go_wp2_with fail
        have l2 := B2.lt
        have B9 := put2 (B2.keep zB B2.lt) (.slice (some ⟨wc.heap.size, 0, none⟩) (n1 + m) (n1 + m)) (.slice none 0 0)
        have bel9 := below2s (belowCall bel zB) (Nat.le_succ _) (.slice (some ⟨wc.heap.size, 0, none⟩) (n1 + m) (n1 + m)) (.slice none 0 0)
        have T1 : Blk _ wc.heap.size _ _ := ((BB'.other (g' := w.heap.size + 1) 0 (.slice (some ⟨wc.heap.size, 0, none⟩) (n1 + m) (n1 + m)) (by show _ ≠ wc.heap.size; omega)).other (g' := w.heap.size + 1) 1 (.slice none 0 0) (by show _ ≠ wc.heap.size; omega))
        have R9 := (R.call zB).set2 (B2.keep zB B2.lt) (.slice (some ⟨wc.heap.size, 0, none⟩) (n1 + m) (n1 + m)) (.slice none 0 0)
        have i0 := B9.cell 0
        have i1 := B9.cell 1
        exact bodyPost_ret (v := .tuple #[.agg #[.slice (some ⟨wc.heap.size, 0, none⟩) (n1 + m) (n1 + m), .slice none 0 0], .slice ao k G, .int .i64 0]) (by simp [results, Tryz.results27, go_sem, i0, i1]) rfl ⟨_, none, _, n1 + m, 0, n1 + m, 0, k, G, l, rfl, hJL.out, rfl, ownBlkU T1 hJL.out hnm, Sl.ofNil _, R9, hm.out, bel9⟩)
  · have hD : recD d = dk0 := if_neg h0
    have hL : recL d = [] := if_neg h0
    rw [hD, hL]
    have hd : decide (dkE d = 0) = false := decide_eq_false h0
    generalize dkE d = E at *
    replace h1 := hide h1
    replace h2 := hide h2
    clear hD hL
    go_enter Tryz.func27, Tryz.ntmps27
    go_wp2_with fail
    generalize World.alloc (World.alloc w _) _ = w2 at *
    go_at_call 57
    refine (cC _ g S1).mono ?_
    rintro e w3 ⟨a3, n3, G3, l3, rfl, R3, hl3, b3⟩
    clear x0 x1 l1
    replace B2 := B2.keep b3 B2.lt
    replace bel := belowCall bel b3
    have y0 := B2.cell 0
    have y1 := B2.cell 1
    have f0 := B2.free 0
    have f1 := B2.free 1
    have l2 := B2.lt
    go_wp2_with fail
    have B9 := put2 B2 (.slice none 0 0) (.slice none 0 0)
    have bel9 := below2s bel (Nat.le_succ _) (.slice none 0 0) (.slice none 0 0)
    have i0 := B9.cell 0
    have i1 := B9.cell 1
    exact bodyPost_ret (v := .tuple #[.agg #[.slice none 0 0, .slice none 0 0], .slice none 0 0, .int .i64 E]) (by simp [results, Tryz.results27, go_sem, i0, i1]) rfl ⟨none, none, none, 0, 0, 0, 0, 0, 0, [], rfl, rfl, rfl, Sl.ofNil _, Sl.ofNil _, Recs.nil _ _, rfl, bel9⟩

end Go.Proofs.YtcjdpilmhlfmfaaGreatDoor

/-
  Texts cut behind line feeds, as plain lists: strings.SplitAfter at one line feed, line by line. No program is named.
-/
namespace Go.Proofs.YtcjdpilmhlfmfaaGreatDoor
open Go.Lib (index splitK count)

end Go.Proofs.YtcjdpilmhlfmfaaGreatDoor
