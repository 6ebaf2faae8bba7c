/-
  shelf.Put: what it answers of a shelf and a batch, whatever they are.
-/
import Derived.Test.YtcjdpilmhlfmfaaGreatDoorHSPutOne
import Derived.Test.YtcjdpilmhlfmfaaGreatDoorHChange
namespace Go.Proofs.YtcjdpilmhlfmfaaGreatDoor
open Go.RowKit

theorem putOne_any (l : List Rw) (x : En) (base box g : Nat) (rs : List Lr) (W : World) (hR : Right l) (C : Copied l base box g rs W) :
    Calls Tryz.prog 149 #[.pointer (some ⟨box, 0, none⟩), .agg #[.int .i64 x.s, .int .i64 x.t, .int .i64 x.v]] W fun e W' =>
      e = .returned (.int .i64 (putRowE l x)) ∧ Below base W W' ∧ (putRowE l x = 0 → ∃ rs', Copied (putRowL l x) base box g rs' W') := by
  cases hi : inI x.s 0 3 with
  | false =>
    have e1 : putRowE l x = 5 := by unfold putRowE; rw [if_pos hi]
    rw [e1]
    refine (putOne_no x.s x.t x.v box W hi).mono ?_
    rintro e W' ⟨rfl, b⟩
    exact ⟨rfl, b.mono C.base, fun h => by cases h⟩
  | true =>
    obtain ⟨k, hk, hk4⟩ := inI_nat hi
    have e1 : putRowE l x = rowE (putRow l x) := by unfold putRowE; rw [hi]; rfl
    rw [e1]
    unfold putRowL putRow
    rw [hk, Int.toNat_natCast]
    refine (putOne_yes l k x.t x.v base box g rs W hk4 hR C).mono ?_
    rintro e W' ⟨rfl, b, h⟩
    exact ⟨rfl, b, fun _ => h⟩

set_option maxHeartbeats 1000000 in
set_option maxRecDepth 100000 in
theorem put1_many (n : Nat) (la : Option Addr) (lc cb box : Nat) (W : World) (B : Blk W cb [.slice la n lc] 64) (h : 10 < n) (hn : n ≤ 140737488355328) :
    Calls Tryz.prog 148 #[.pointer (some ⟨box, 0, none⟩), .pointer (some ⟨cb, 0, none⟩)] W fun e W' => e = .returned (.int .i64 2) ∧ W' = W := by
  have d0 : W.cell? ⟨cb, 0, none⟩ = some (.slice la n lc) := B.cell 0
  have h' : (10 : Int) < n := by omega
  clear B
  go_enter Tryz.func148, Tryz.ntmps148
  go_wp2_with fail
  go_ret
  exact ⟨rfl, rfl⟩

set_option maxHeartbeats 1000000 in
set_option maxRecDepth 100000 in
theorem put1_few (L : List En) (la : Option Addr) (lc cb : Nat) (l : List Rw) (base box g : Nat) (rs : List Lr) (w W : World) (hs : SlW En.cells w la lc L) (B : Blk w cb [.slice la L.length lc] 64) (hwb : w.heap.size ≤ base) (bel : Below w.heap.size w W) (hR : Right l) (C : Copied l base box g rs W) (h : L.length ≤ 10) :
    Calls Tryz.prog 148 #[.pointer (some ⟨box, 0, none⟩), .pointer (some ⟨cb, 0, none⟩)] W (Does (putsE l L) (putsL l L) base box g W) := by
  obtain ⟨E, hE⟩ : ∃ E, E = putsE l L := ⟨_, rfl⟩
  obtain ⟨F, hF⟩ : ∃ F, F = putsL l L := ⟨_, rfl⟩
  rw [← hE, ← hF]
  have H0 : Hid (E = putsE l (L.drop 0)) := by rw [List.drop_zero]; exact hE
  have H1 : Hid (F = putsL l (L.drop 0)) := by rw [List.drop_zero]; exact hF
  clear hE hF
  obtain ⟨n, hn⟩ : ∃ n, n = L.length := ⟨_, rfl⟩
  rw [← hn] at B h
  have h' : ¬ (10 : Int) < n := by omega
  replace hn := hide hn
  have d0 : W.cell? ⟨cb, 0, none⟩ = some (.slice la n lc) := (B.keep bel B.lt).cell 0
  have b0 := Below.refl base W
  replace C := hide C
  replace hR := hide hR
  clear B
  go_enter Tryz.func148, Tryz.ntmps148
  go_wp2_with fail
  go_loopw [12] (fun i wr => ∃ (k : Nat) (l' : List Rw) (rs' : List Lr), k ≤ n ∧ i = .int .i64 k ∧ Hid (E = putsE l' (L.drop k)) ∧ Hid (F = putsL l' (L.drop k)) ∧ Hid (Right l') ∧ Hid (Copied l' base box g rs' wr) ∧ Below base W wr) (fun i _ => n - (intOf i).toNat)
  case atStart => exact ⟨0, l, rs, by omega, rfl, H0, H1, hR, C, b0⟩
  case round =>
    clear H0 H1 hR C b0 d0
    obtain ⟨k, l', rs', hk, rfl, H0, H1, hR, C, b0⟩ := hrel
    by_cases hlt : k < n
    · have bel1 : Below w.heap.size w wr := bel.trans (b0.mono hwb)
      have hs1 := hs.keep bel1 (Nat.le_refl _)
      obtain ⟨b, off, rfl, hbw⟩ := hs1.where En.three (by decide) (by intro e; rw [hn.out, e] at hlt; simp at hlt)
      obtain ⟨x, hx⟩ : ∃ x, L[k]? = some x := ⟨_, List.getElem?_eq_getElem (by rw [← hn.out]; exact hlt)⟩
      have e0 := hs1.cell En.three k 0 x _ hx rfl
      have e1 := hs1.cell En.three k 1 x _ hx rfl
      have e2 := hs1.cell En.three k 2 x _ hx rfl
      simp only [Nat.add_zero] at e0
      have hd : L.drop k = x :: L.drop (k + 1) := by
        obtain ⟨hk', rfl⟩ := List.getElem?_eq_some_iff.1 hx
        exact List.drop_eq_getElem_cons hk'
      have H0' := H0.out
      have H1' := H1.out
      rw [hd, putsE] at H0'
      rw [hd, putsL] at H1'
      have c1 := fun W h => putOne_any l' x base box g rs' W hR.out h
      have hR' := hR.out
      have C1 := fun o => C.out.alloc o
      have hbase := C.out.base
      clear H0 H1 hd hx hs1 C hR
      by_cases hE : putRowE l' x = 0
      · rw [if_pos hE] at H0'
        have hR2 := hide (hR'.put hE)
        have hE2 := hide hE
        rw [hE] at c1
        replace H0' := hide H0'
        replace H1' := hide H1'
        clear hE hR'
        go_wp2_with fail
        go_at_call 149
        refine (c1 _ (C1 _)).mono ?_
        rintro e w2 ⟨rfl, b2, h2⟩
        obtain ⟨rs2, C2⟩ := h2 (by trivial)
        have b3 : Below base W w2 := (b0.alloc hbase _).trans b2
        replace C2 := hide C2
        go_wp2_with fail
        go_roundw
        case rel => exact ⟨k + 1, _, rs2, by omega, by go_num, H0', H1', hR2, C2, b3⟩
        case measure => simp [intOf]; omega
      · rw [if_neg hE] at H0'
        generalize putRowE l' x = G at *
        replace H0' := hide H0'
        clear H1' hR'
        go_wp2_with fail
        go_at_call 149
        refine (c1 _ (C1 _)).mono ?_
        rintro e w2 ⟨rfl, b2, h2⟩
        have b3 : Below base W w2 := (b0.alloc hbase _).trans b2
        go_wp2_with fail
        go_ret
        exact ⟨by rw [H0'.out]; rfl, b3, fun e => absurd (H0'.out.symm.trans e) hE⟩
    · obtain rfl : k = n := by omega
      have H0' := H0.out
      have H1' := H1.out
      rw [hn.out, List.drop_length] at H0' H1'
      rw [putsE] at H0'
      rw [putsL] at H1'
      have C' := C.out
      have hR' := hR.out
      have F1 := C'.own.fin (fun r hr => by
        have := hR'.few r.rw (by rw [← C'.same]; exact List.mem_map.2 ⟨r, hr, rfl⟩)
        unfold Lr.rw at this
        simp only [List.length_map] at this
        omega)
      have l4 : rs'.length = 4 := by rw [← hR'.four, ← C'.same, List.length_map]
      have sm := C'.same
      have ou := C'.out
      have hlo := hide C'.hdLo
      replace F1 := hide F1
      replace l4 := hide l4
      replace sm := hide sm
      replace H0' := hide H0'
      replace H1' := hide H1'
      clear C' hR' C hR H0 H1
      go_wp2_with fail
      go_ret
      exact ⟨by rw [H0'.out]; rfl, b0, fun _ => ⟨rs', F1.out, ⟨l4.out, hlo.out⟩, by rw [H1'.out]; exact sm.out, ou⟩⟩

theorem put1_any (L : List En) (la : Option Addr) (lc cb : Nat) (l : List Rw) (base box g : Nat) (rs : List Lr) (w W : World) (hs : SlW En.cells w la lc L) (B : Blk w cb [.slice la L.length lc] 64) (hL : L.length ≤ 140737488355328) (hwb : w.heap.size ≤ base) (bel : Below w.heap.size w W) (hR : Right l) (C : Copied l base box g rs W) :
    Calls Tryz.prog 148 #[.pointer (some ⟨box, 0, none⟩), .pointer (some ⟨cb, 0, none⟩)] W (Does (bputE l L) (bputL l L) base box g W) := by
  by_cases h : 10 < L.length
  · have e1 : bputE l L = 2 := by unfold bputE; rw [if_pos h]
    rw [e1]
    refine (put1_many L.length la lc cb box W (B.keep bel B.lt) h hL).mono ?_
    rintro e W' ⟨rfl, rfl⟩
    exact ⟨rfl, Below.refl _ _, fun h => by cases h⟩
  · have e1 : bputE l L = putsE l L := by unfold bputE; rw [if_neg h]
    refine (put1_few L la lc cb l base box g rs w W hs B hwb bel hR C (by omega)).mono ?_
    rintro e W' ⟨rfl, b, hf⟩
    refine ⟨by rw [e1], b, fun hz => ?_⟩
    rw [e1] at hz
    obtain ⟨rs', p1, p2, p3, p4⟩ := hf hz
    exact ⟨rs', p1, p2, by unfold bputL; rw [e1, if_pos hz]; exact p3, p4⟩

set_option maxHeartbeats 1000000 in
set_option maxRecDepth 100000 in
/-- Put, whatever it is handed. -/
theorem sPut_own (l : List Lr) (ao : Option Addr) (cap : Nat) (L : List En) (la : Option Addr) (lc : Nat) (w : World) (hs : SlR w ao cap l) (hL : SlW En.cells w la lc L) (few : L.length ≤ 140737488355328) :
    Calls Tryz.prog 116 #[.agg #[.slice ao l.length cap], .slice la L.length lc] w fun e w' => ∃ rs a' G, e = .returned (.tuple #[.agg #[.slice a' rs.length G], .int .i64 (chE (l.map Lr.rw) (bputE (l.map Lr.rw) L))]) ∧ rs.map Lr.rw = chL (l.map Lr.rw) (bputE (l.map Lr.rw) L) (bputL (l.map Lr.rw) L) ∧ SlR w' a' G rs ∧ HdLo w.heap.size rs ∧ Below w.heap.size w w' := by
  have B1 := (Blk.laid (w.alloc (.cells #[.slice ao l.length cap] 24)) [.slice la L.length lc] 64 (w.heap.size + 1) (by simp)).alc (.cells #[.slice none 0 0] 24)
  have R1 := Blk.laid ((w.alloc (.cells #[.slice ao l.length cap] 24)).alloc (.cells #[.slice la L.length lc] 64)) [.slice none 0 0] 24 (w.heap.size + 2) (by simp)
  have bel1 := below3 w (.cells #[.slice ao l.length cap] 24) (.cells #[.slice la L.length lc] 64) (.cells #[.slice none 0 0] 24)
  have s1 := hs.keep bel1 (Nat.le_refl _)
  have t1 := hL.keep bel1 (Nat.le_refl _)
  have c := fun W (S : SlR W ao cap l) (T : SlW En.cells W la lc L) (B : Blk W (w.heap.size + 1) [.slice la L.length lc] 64) => changeP (.pointer (some ⟨w.heap.size + 1, 0, none⟩)) (bputE (l.map Lr.rw) L) (bputL (l.map Lr.rw) L) l ao cap W S
    (fun hE W2 base box g rs hb b2 C => put1_any L la lc (w.heap.size + 1) (l.map Lr.rw) base box g rs W W2 T B few hb b2 (right_of hE) C)
  generalize chL (l.map Lr.rw) (bputE (l.map Lr.rw) L) (bputL (l.map Lr.rw) L) = X at *
  generalize chE (l.map Lr.rw) (bputE (l.map Lr.rw) L) = E at *
  generalize l.length = n at *
  generalize L.length = m at *
  go_enter Tryz.func116, Tryz.ntmps116
  go_wp2_with fail
  generalize ((w.alloc _).alloc _).alloc _ = w1 at *
  go_at_call 147
  refine (c _ s1 t1 B1).mono ?_
  rintro e w2 ⟨rs, a', G, rfl, hX, s2, fr, b2⟩
  have R2 := R1.keep b2 R1.lt
  have bel2 := belowCall bel1 b2
  have r0 : w2.cell? ⟨w.heap.size + 2, 0, none⟩ = some (.slice none 0 0) := R2.cell 0
  have r1 := R2.free 0
  have s3 := s2.written (onlyOne none 0 0) R2 (i := 0) (u := .slice a' rs.length G) (fun ad e => by have := fr.1 ad e; have := R1.lt; omega)
  have bel3 := bel2.setCell (p := ⟨w.heap.size + 2, 0, none⟩) (by show w.heap.size ≤ w.heap.size + 2; omega) (.slice a' rs.length G)
  have hlo := hide (fr.2.mono bel1.size)
  replace s3 := hide s3
  replace hX := hide hX
  clear s2 R1 R2 s1 t1 B1 c hs hL
  go_wp2_with fail
  exact bodyPost_ret (v := .tuple #[.agg #[.slice a' rs.length G], .int .i64 E]) (by simp [results, Tryz.results116, go_sem, r0]) rfl ⟨rs, a', G, rfl, hX.out, s3.out, hlo.out, bel3⟩

end Go.Proofs.YtcjdpilmhlfmfaaGreatDoor
