/-
  Proved: for all numbers, all widths and all bits, BitsBack returns true and leaves its arguments as they were: what is put is taken, one after the other, and nothing else; as many bits as are asked.
-/
import Derived.Test.YtjcbahbdbnpdeaaRows
import Derived.Test.YtjcbahbdbnpdeaaArgs
import Derived.Test.YtjcbahbdbnpdeaaWritten
import Derived.Test.YtjcbahbdbnpdeaaOwn
import Derived.Test.YtjcbahbdbnpdeaaBackMath
namespace Go.Proofs.Ytjcbahbdbnpdeaa.bitsBack
open Go.ChangeShapes Go.WideShapes Go.ChangeAt Go.RowKit
set_option linter.unusedVariables false

theorem infoInt : (Try.prog.info? 3).map (fun i => (i.zero, i.size, i.bytes)) = some (some (.int .i64 0), 1, 8) := by kernel_rfl

set_option maxHeartbeats 4000000 in
set_option maxRecDepth 100000 in
theorem walk (w : World) (a0 : Option Addr) (cap0 : Nat) (ns : List Int) (s0 : Sl w a0 cap0 (ns.map (Value.int .i64))) (hr0 : cap0 * 8 ≤ 140737488351232) (wn : ∀ z ∈ ns, (Lit.int .i64 z).wf = true)
    (a1 : Option Addr) (cap1 : Nat) (ws : List Int) (s1 : Sl w a1 cap1 (ws.map (Value.int .i64))) (hr1 : cap1 * 8 ≤ 140737488351232) (ww : ∀ z ∈ ws, (Lit.int .i64 z).wf = true)
    (a2 : Option Addr) (cap2 : Nat) (more : List Bool) (s2 : Sl w a2 cap2 (more.map Value.bool)) (hr2 : cap2 * 1 ≤ 140737488351232) :
    Calls Try.prog 5 #[.slice a0 ns.length cap0, .slice a1 ws.length cap1, .slice a2 more.length cap2] w fun e w' => e = .returned (.bool true) ∧ Below w.heap.size w w' := by
  have hl0 := s0.le
  have hl1 := s1.le
  have hl2 := s2.le
  rw [List.length_map] at hl0 hl1 hl2
  obtain ⟨K, hK⟩ : ∃ K : Nat, K = min (min ns.length ws.length) 30 := ⟨_, rfl⟩
  have hmin : ∀ (ts : Array TypeId) (t : TypeId) (W : World), (Builtin.min_ ts t #[.int .i64 (ns.length : Int), .int .i64 (ws.length : Int), .int .i64 30]).run Try.prog W = .ok (.int .i64 (K : Int)) W := by
    intro ts t W
    rw [run_min_int3]
    congr 2
    rw [hK]
    split <;> split <;> omega
  have hK0 : K ≤ ns.length := by omega
  have hK1 : K ≤ ws.length := by omega
  have hK2 : K ≤ 30 := by omega
  clear hK
  obtain ⟨i0, hi, hz0, hz1, hz2⟩ := info_parts infoInt
  by_cases hk0 : K = 0
  · subst hk0
    clear hK0 hK1 hK2 s0 s1 wn ww
    go_enter Try.func5, Try.ntmps5
    go_wp2_with (go_at_call 11; refine (written_any _).mono ?_; rintro e wb ⟨rfl, bb⟩)
    refine wp_loop_rounds 1 ?_
    rw [rounds_succ]
    have t2 := s2.keep bb (Nat.le_refl _)
    go_wp2_with fail
    have e0 : (wb.alloc (Obj.cells #[Value.slice none 0 0, Value.slice a2 more.length cap2] 27)).cell? ⟨wb.heap.size, 0, none⟩ = some (.slice none ([] : List Value).length 0) := by
      rw [World.cell?_alloc_at (hn := rfl)]; simp
    have e1 : (wb.alloc (Obj.cells #[Value.slice none 0 0, Value.slice a2 more.length cap2] 27)).cell? ⟨wb.heap.size, 1, none⟩ = some (.slice a2 (more.map Value.bool).length cap2) := by
      rw [World.cell?_alloc_at (hn := rfl)]; simp
    refine (concat_any wb.heap.size _ _ _ _ _ _ _ e0 e1 (Sl.ofNil _) (t2.alloc _) (fun v hv => by cases hv) (bools_one _) (by simp only [List.length_map, List.length_nil]; omega) (by simp)).mono ?_
    rintro e w2 ⟨a', G, rfl, hs2, bel2⟩
    have t3 := (t2.alloc (Obj.cells #[Value.slice none 0 0, Value.slice a2 more.length cap2] 27)).call bel2
    have bel := belowCall (bb.alloc bb.size (Obj.cells #[Value.slice none 0 0, Value.slice a2 more.length cap2] 27)) bel2
    clear e0 e1 t2 bel2
    rw [List.nil_append] at hs2 ⊢
    rw [List.length_map]
    go_wp2_with fail
    refine wp_loop_rounds 1 ?_
    rw [rounds_succ]
    go_wp2_with fail
    refine (equalBool _ _ _ _ more more _ hs2.row t3.row (by omega) (by omega)).mono ?_
    rintro e w3 ⟨rfl, q, rfl⟩
    go_wp2_with fail
    go_ret
    exact ⟨by simp, belowDrewN bel _⟩
  obtain ⟨b0, o0, rfl, hb0, g0⟩ := s0.row.at (by intro e; simp at e; rw [e] at hK0; simp at hK0; omega)
  obtain ⟨b1, o1, rfl, hb1, g1⟩ := s1.row.at (by intro e; simp at e; rw [e] at hK1; simp at hK1; omega)
  clear s0 s1
  have f0 := fun j hj => intAt g0 j hj
  have f1 := fun j hj => intAt g1 j hj
  clear g0 g1
  go_enter Try.func5, Try.ntmps5
  go_wp2_with (go_at_call 11; refine (written_any _).mono ?_; rintro e wb ⟨rfl, bb⟩)
  go_loopw [7, 8, 9, 27] (fun v7 v8 v9 i wr => ∃ j : Nat, j ≤ K ∧ i = .int .i64 j ∧ (∃ ao cap, v7 = .slice ao (putAll ns ws j).length cap ∧ Sl wr ao cap ((putAll ns ws j).map Value.bool)) ∧
      wr.ownsRow w.heap.size 3 1 v8 j ((vsTo ns ws j).map (Value.int .i64)) ∧ wr.ownsRow w.heap.size 3 1 v9 j ((wsTo ws j).map (Value.int .i64)) ∧ Apart v8 v9 ∧ Below w.heap.size w wr) (fun _ _ _ i _ => K - (intOf i).toNat)
  case atStart => exact ⟨0, Nat.zero_le _, rfl, ⟨none, 0, rfl, Sl.ofNil _⟩, World.ownsRow_nil _ _ _ _, World.ownsRow_nil _ _ _ _, (fun g h => absurd h (by simp [Value.ownBlock])), bb⟩
  case round =>
    obtain ⟨j, hj, rfl, ⟨ao, cap, rfl, sl⟩, own8, own9, ap, bel⟩ := hrel
    by_cases hlt : j < K
    · obtain ⟨a8, c8, rfl, t8, n8⟩ := ownSl own8
      obtain ⟨a9, c9, rfl, t9, n9⟩ := ownSl own9
      have e0 : wr.cell? ⟨b0, o0 + j, none⟩ = some (.int .i64 (ns.getD j 0)) := (bel.cell (p := ⟨b0, o0 + j, none⟩) hb0).trans (f0 j (by omega))
      have e1 : wr.cell? ⟨b1, o1 + j, none⟩ = some (.int .i64 (ws.getD j 0)) := (bel.cell (p := ⟨b1, o1 + j, none⟩) hb1).trans (f1 j (by omega))
      have cw : ∀ W : World, Calls Try.prog 13 #[.int .i64 (ws.getD j 0), .int .i64 41] W fun e w' => e = .returned (.int .i64 ((wAt ws j : Nat) : Int)) ∧ W = w' := by
        intro W
        have h := at_any (ws.getD j 0) 41 W (by omega) (by omega)
        rw [← wAt_int] at h
        exact h
      have hw40 := wAt_le ws j
      have hp := pow_le_40 (wAt ws j) hw40
      have hp0 := pow_pos (wAt ws j)
      have cv : ∀ W : World, Calls Try.prog 13 #[.int .i64 (ns.getD j 0), .int .i64 (2 ^ wAt ws j)] W fun e w' => e = .returned (.int .i64 (vAt ns ws j)) ∧ w' = W := by
        intro W
        exact (at_any (ns.getD j 0) (2 ^ wAt ws j) W (by omega) (by omega)).mono fun e w' h => ⟨h.1, h.2.symm⟩
      have hL := putAll_length ns ws j
      have cp := fun W h => put_ok ao cap (putAll ns ws j) (vAt ns ws j) (wAt ws j) W h hw40 (vAt_ok ns ws j) (by omega)
      have hput : Hid (putAll ns ws (j + 1) = putAll ns ws j ++ bitsOf (vAt ns ws j) (wAt ws j)) := putAll_succ ns ws j
      have hvs : Hid ((vsTo ns ws (j + 1)).map (Value.int .i64) = (vsTo ns ws j).map (Value.int .i64) ++ [.int .i64 (vAt ns ws j)]) := vsTo_succ ns ws j
      have hws : Hid ((wsTo ws (j + 1)).map (Value.int .i64) = (wsTo ws j).map (Value.int .i64) ++ [.int .i64 ((wAt ws j : Nat) : Int)]) := wsTo_succ ws j
      generalize ns.getD j 0 = nz at e0 cv
      generalize ws.getD j 0 = wz at e1 cw
      generalize vAt ns ws j = vv at cv cp hput hvs
      generalize wAt ws j = kk at cv cp hput hws cw hw40 hp hp0
      clear f0 f1 hmin
      go_wp2_with (go_at_call 13; refine (cw _).mono ?_; rintro e w' ⟨rfl, rfl⟩)
      go_quiet ((go_at_call 13; exact Calls.quiet_of_same (cv _)))
      have cp' := cp (wr.drewN nq) (sl.drewN nq).row
      simp only [World.heap_drewN] at cp'
      clear cp cw cv e0 e1
      go_wp2_with fail
      refine cp'.mono ?_
      rintro e w1 ⟨rfl, Bx, b1'⟩
      clear cp'
      have hx8 : Hid (∀ g, (Value.slice a8 j c8).ownBlock = some g → w.heap.size ≤ g ∧ g < wr.heap.size) := own8.lt
      have hx9 : Hid (∀ g, (Value.slice a9 j c9).ownBlock = some g → w.heap.size ≤ g ∧ g < wr.heap.size) := own9.lt
      have bw : Below wr.heap.size wr w1 := ⟨b1'.os, b1'.tape, b1'.output, b1'.size, b1'.block⟩
      clear b1'
      have sl1 := sl.call bw
      have own8 := ownCall own8 bw
      have own9 := ownCall own9 bw
      have bel1 := belowCall bel bw
      have rx : Row w1 (some ⟨wr.heap.size, 0, none⟩) ((putAll ns ws j).map Value.bool) := Bx.row 0 _ (fun i v hv => by
        rw [Nat.zero_add, List.map_append]
        exact (List.getElem?_append_left (List.getElem?_eq_some_iff.1 hv).1).trans hv)
      generalize hLj : putAll ns ws j = Lj at *
      generalize hbits : bitsOf vv kk = bts at *
      go_wp2_with fail
      refine (equalBool _ _ _ _ Lj Lj _ rx sl1.row (by omega) (by omega)).mono ?_
      rintro e w2 ⟨rfl, q, hq⟩
      have own8 : w2.ownsRow w.heap.size 3 1 (.slice a8 j c8) j ((vsTo ns ws j).map (Value.int .i64)) := by rw [hq]; exact own8
      have own9 : w2.ownsRow w.heap.size 3 1 (.slice a9 j c9) j ((wsTo ws j).map (Value.int .i64)) := by rw [hq]; exact own9
      have Bx : Blk w2 wr.heap.size ((Lj ++ bts).map Value.bool) 4 := by rw [hq]; exact Bx
      have bel : Below w.heap.size w w2 := by rw [hq]; exact belowDrewN bel1 q
      clear hq sl1 rx bel1 bw sl
      have ownA := own8.alloc (.cells #[.int .i64 vv] 3)
      have newA := cell_one_new w2 (.int .i64 vv) 3
      have oneA : ∀ u ∈ [Value.int .i64 vv], u.oneCell' = true := by intro u hu; simp at hu; subst hu; rfl
      have bA : w.heap.size ≤ (w2.alloc (.cells #[.int .i64 vv] 3)).heap.size := by have := bel.size; simp; omega
      go_wp2_with (at_builtin; refine wpList_append_went _ rfl (.tmp 70) (.tmp 72) 24 rfl w.heap.size 3 i0 (.int .i64 0) 1 8 Try.underlying24 hi hz0 hz1 hz2 rfl (by decide) _ j _ rfl ownA ⟨w2.heap.size, 0, none⟩ 1 1 [.int .i64 vv] rfl rfl newA oneA (by decide) (by unfold maxLen; omega) (by omega) bA ?_)
      intro v8' w3 own8' grow8 went8
      have hz2' : wr.heap.size < w2.heap.size := Bx.lt
      have own9 := ownApart (own9.alloc (.cells #[.int .i64 vv] 3)) grow8 ap.symm
      have Bx := (Bx.alloc (.cells #[.int .i64 vv] 3)).grown grow8 (fun k hk => by have := (hx8.out k hk).2; omega)
      have bel := (bel.alloc bel.size (.cells #[.int .i64 vv] 3)).grown grow8 bA (fun k hk => (hx8.out k hk).1)
      have ap' : Apart v8' (.slice a9 j c9) := (ap.symm.went (fun g hg => by have := (hx9.out g hg).2; simp; omega) went8).symm
      clear ownA newA oneA bA grow8 went8 ap own8 t8 t9 n8 n9
      obtain ⟨a8', c8', rfl, t8', n8'⟩ := ownSl own8'
      clear t8' n8'
      have ownB := own9.alloc (.cells #[.int .i64 (kk : Int)] 3)
      have newB := cell_one_new w3 (.int .i64 (kk : Int)) 3
      have oneB : ∀ u ∈ [Value.int .i64 (kk : Int)], u.oneCell' = true := by intro u hu; simp at hu; subst hu; rfl
      have bB : w.heap.size ≤ (w3.alloc (.cells #[.int .i64 (kk : Int)] 3)).heap.size := by have := bel.size; simp; omega
      go_wp2_with (at_builtin; refine wpList_append_went _ rfl (.tmp 74) (.tmp 76) 24 rfl w.heap.size 3 i0 (.int .i64 0) 1 8 Try.underlying24 hi hz0 hz1 hz2 rfl (by decide) _ j _ rfl ownB ⟨w3.heap.size, 0, none⟩ 1 1 [.int .i64 (kk : Int)] rfl rfl newB oneB (by decide) (by unfold maxLen; omega) (by omega) bB ?_)
      intro v9' w4 own9' grow9 went9
      have hz3' : wr.heap.size < w3.heap.size := Bx.lt
      have own8 := ownApart (own8'.alloc (.cells #[.int .i64 (kk : Int)] 3)) grow9 ap'
      have Bx := (Bx.alloc (.cells #[.int .i64 (kk : Int)] 3)).grown grow9 (fun k hk => by have := (hx9.out k hk).2; omega)
      have bel := (bel.alloc bel.size (.cells #[.int .i64 (kk : Int)] 3)).grown grow9 bB (fun k hk => (hx9.out k hk).1)
      have ap := ap'.went (fun g hg => by have := (own8'.lt g hg).2; simp; omega) went9
      clear ownB newB oneB bB grow9 went9 ap' own8' own9
      have hlen : bts.length = kk := by rw [← hbits, length_bitsOf]
      have hcl : ((Lj ++ bts).map Value.bool).length = Lj.length + kk := by rw [List.length_map, List.length_append, hlen]
      have slx := Sl.ofBlk Bx (by omega)
      rw [hcl] at slx
      have R : Hid ((Lj ++ bts).length = Lj.length + kk ∧ Sl w4 (some ⟨wr.heap.size, 0, none⟩) (Lj.length + kk) ((Lj ++ bts).map Value.bool)) := ⟨by rw [List.length_append, hlen], slx⟩
      clear slx hcl hlen hbits Bx
      go_wp2_with fail
      go_roundw
      case rel =>
        refine ⟨j + 1, by omega, by go_num, ⟨some ⟨wr.heap.size, 0, none⟩, Lj.length + kk, ?_, ?_⟩, ?_, ?_, ap, bel⟩
        · rw [hput.out, R.out.1]
        · rw [hput.out]; exact R.out.2
        · rw [hvs.out]; exact own8
        · rw [hws.out]; exact own9'
      case measure => simp [intOf]; omega
    · obtain rfl : j = K := by omega
      obtain ⟨a8, c8, rfl, t8, n8⟩ := ownSl own8
      obtain ⟨a9, c9, rfl, t9, n9⟩ := ownSl own9
      obtain ⟨b8, o8, rfl, hb8, g8⟩ := t8.row.at (by intro e; rw [e] at n8; simp at n8; omega)
      obtain ⟨b9, o9, rfl, hb9, g9⟩ := t9.row.at (by intro e; rw [e] at n9; simp at n9; omega)
      have t2 := s2.keep bel (Nat.le_refl _)
      have hL := putAll_length ns ws j
      have hL0 := leftAll_zero ns ws more j
      clear own8 own9 ap f0 f1 hmin bb n8 n9 hb8 hb9 g8 g9
      generalize putAll ns ws j = Lj at *
      have HL : Hid (leftAll ns ws more j 0 = Lj ++ more) := hL0
      clear hL0
      go_wp2_with fail
      have e0 : (wr.alloc (Obj.cells #[Value.slice ao Lj.length cap, Value.slice a2 more.length cap2] 27)).cell? ⟨wr.heap.size, 0, none⟩ = some (.slice ao (Lj.map Value.bool).length cap) := by
        rw [World.cell?_alloc_at (hn := rfl)]; simp
      have e1 : (wr.alloc (Obj.cells #[Value.slice ao Lj.length cap, Value.slice a2 more.length cap2] 27)).cell? ⟨wr.heap.size, 1, none⟩ = some (.slice a2 (more.map Value.bool).length cap2) := by
        rw [World.cell?_alloc_at (hn := rfl)]; simp
      refine (concat_any wr.heap.size _ _ _ _ _ _ _ e0 e1 (sl.alloc _) (t2.alloc _) (bools_one _) (bools_one _) (by simp only [List.length_map]; omega) (by simp)).mono ?_
      rintro e w2 ⟨a', G, rfl, hs2, bel2⟩
      have t8 := (t8.alloc (Obj.cells #[Value.slice ao Lj.length cap, Value.slice a2 more.length cap2] 27)).call bel2
      have t9 := (t9.alloc (Obj.cells #[Value.slice ao Lj.length cap, Value.slice a2 more.length cap2] 27)).call bel2
      have bel := belowCall (bel.alloc bel.size (Obj.cells #[Value.slice ao Lj.length cap, Value.slice a2 more.length cap2] 27)) bel2
      clear e0 e1 sl t2 bel2
      rw [← List.map_append] at hs2 ⊢
      rw [List.length_map]
      rw [← HL.out] at hs2 ⊢
      clear HL hL
      go_wp2_with fail
      go_loopw [7, 85] (fun v7 i wr => ∃ k : Nat, k ≤ j ∧ i = .int .i64 k ∧ (∃ ao cap, v7 = .slice ao (leftAll ns ws more j k).length cap ∧ Sl wr ao cap ((leftAll ns ws more j k).map Value.bool)) ∧ Sl wr (some ⟨b8, o8, none⟩) c8 ((vsTo ns ws j).map (Value.int .i64)) ∧ Sl wr (some ⟨b9, o9, none⟩) c9 ((wsTo ws j).map (Value.int .i64)) ∧ Below w.heap.size w wr) (fun _ i _ => j - (intOf i).toNat)
      case atStart => exact ⟨0, Nat.zero_le _, rfl, ⟨a', G, rfl, hs2⟩, t8, t9, bel⟩
      case round =>
        clear hs2 t8 t9 bel
        rename_i wr2
        obtain ⟨k, hk, rfl, ⟨ao2, cp2, rfl, sl⟩, t8, t9, bel⟩ := hrel
        by_cases hlt : k < j
        · have e9 := t9.int k (by simpa [wsTo] using hlt)
          rw [wsTo_get ws j k hlt] at e9
          have e8 := t8.int k (by simpa [vsTo] using hlt)
          rw [vsTo_get ns ws j k hlt] at e8
          obtain ⟨h1, h2, h3⟩ := take_left ns ws more j k hlt
          have hlen := leftAll_length ns ws more j k hK2
          have ct := take_any ao2 cp2 (leftAll ns ws more j k) (wAt ws k) wr sl (by omega)
          rw [h1, h2, h3] at ct
          clear h1 h2 h3 hlen
          generalize hvv : vAt ns ws k = vv at e8 ct
          generalize hkk : wAt ws k = kk at e9 ct
          clear hvv hkk
          go_wp2_with fail
          refine ct.mono ?_
          rintro e w3 ⟨a3, G3, rfl, s3, b3⟩
          have e8 : w3.cell? ⟨b8, o8 + k, none⟩ = some (.int .i64 vv) := (b3.cell (p := ⟨b8, o8 + k, none⟩) (lt_of_cell e8)).trans e8
          have t8 := t8.call b3
          have t9 := t9.call b3
          have bel := belowCall bel b3
          clear b3 ct sl e9
          go_wp2_with fail
          go_roundw
          case rel => exact ⟨k + 1, by omega, by go_num, ⟨a3, G3, rfl, s3⟩, t8, t9, bel⟩
          case measure => simp [intOf]; omega
        · obtain rfl : k = j := by omega
          have s2' := s2.keep bel (Nat.le_refl _)
          rw [leftAll_end] at sl
          have hle := leftAll_end ns ws more k
          clear t8 t9 s2
          go_wp2_with fail
          refine (equalBool _ _ _ _ more more _ sl.row s2'.row (by omega) (by omega)).mono ?_
          rintro e w3 ⟨rfl, q, rfl⟩
          go_wp2_with fail
          go_ret
          exact ⟨by simp, belowDrewN bel _⟩

set_option maxRecDepth 100000 in
theorem lifted (os : Os) (started : os.Started) (H : Type) (enc : TypeId × Value → H) :
    ReturnsInHanded {} Try.checked os 5 .any (Rows.bitsBackSpec.pre6 enc Try.prog Try.f5 Rows.bitsBackRow.domain false) (Rows.bitsBackSpec.post enc Try.prog Try.f5 false true false false) := by
  refine returnsInHanded_of_change_sized (C := Try.checked) own started (by kernel_rfl) Try.func5
    (ChangeSpec.witness6 (enc := enc) (C := Try.checked) false ⟨#[], #[.slice none 0 0, .slice none 0 0, .slice none 0 0], []⟩ 8 (by kernel_rfl) (by kernel_rfl) (by kernel_rfl) (by kernel_rfl)) ?_
  intro W base args ds gs before hval0 hW hcnd hsz0 _
  have hsz : (DataW.weightsEach Try.prog (Try.f5.params.toList ++ Rows.bitsBackSpec.plain.varTypes Try.prog) (ds ++ gs)).all (· ≤ reachBytes) = true := hsz0
  have hval : ∀ (j : Nat) t v, Try.f5.params[j]? = some t → args[j]? = some v → Value.okWide Try.prog W .any base t v := hval0
  have hW' := hW
  obtain ⟨p, q, hA0, hV, rfl, hfz, hnd⟩ := hW
  have hA : DataW.TrodAll enc Try.prog W 0 (fun _ => true) true Try.f5.params.toList args.toList ds p := hA0
  rw [Try.params5] at hA hval hsz
  obtain ⟨v0, vs0, d0, ds0, p0, q0, hargs, rfl, rfl, h0, r0⟩ := trodAll_cons hA
  obtain ⟨v1, vs1, d1, ds1, p1, q1, rfl, rfl, rfl, h1, r1⟩ := trodAll_cons r0
  obtain ⟨v2, vs2, d2, ds2, p2, q2, rfl, rfl, rfl, h2, r2⟩ := trodAll_cons r1
  obtain ⟨rfl, rfl, rfl⟩ := trodAll_nil r2
  obtain rfl : args = #[v0, v1, v2] := by cases args; simp_all
  obtain ⟨rfl, rfl⟩ := trodVars_none hV
  obtain ⟨a0, len0, cap0, rfl⟩ := okWide_slice Try.underlying24 (hval 0 24 v0 rfl rfl)
  have k0 := h0
  have lt0 : ∀ x ∈ p0, x.block < W.heap.size := by obtain ⟨m, hm⟩ := k0; exact DataW.trod_lt m _ _ _ hm
  obtain ⟨l0, rfl, s0, wf0, dd0⟩ := open_intsS Try.underlying24 Try.underlying3 (by kernel_rfl) h0
  have reach0 := reach_of (j := 0) (bytes := 8) hsz rfl rfl Try.underlying24 (by kernel_rfl) dd0
  obtain ⟨a1, len1, cap1, rfl⟩ := okWide_slice Try.underlying24 (hval 1 24 v1 rfl rfl)
  have k1 := h1
  have lt1 : ∀ x ∈ p1, x.block < W.heap.size := by obtain ⟨m, hm⟩ := k1; exact DataW.trod_lt m _ _ _ hm
  obtain ⟨l1, rfl, s1, wf1, dd1⟩ := open_intsS Try.underlying24 Try.underlying3 (by kernel_rfl) h1
  have reach1 := reach_of (j := 1) (bytes := 8) hsz rfl rfl Try.underlying24 (by kernel_rfl) dd1
  obtain ⟨a2, len2, cap2, rfl⟩ := okWide_slice Try.underlying27 (hval 2 27 v2 rfl rfl)
  have k2 := h2
  have lt2 : ∀ x ∈ p2, x.block < W.heap.size := by obtain ⟨m, hm⟩ := k2; exact DataW.trod_lt m _ _ _ hm
  obtain ⟨l2, rfl, s2, dd2⟩ := open_bools Try.underlying27 Try.underlying4 (by kernel_rfl) h2
  have reach2 := reach_of (j := 2) (bytes := 1) hsz rfl rfl Try.underlying27 (by kernel_rfl) dd2
  clear hA0 hval0 hsz0
  refine (walk W a0 cap0 l0 s0 reach0 wf0 a1 cap1 l1 s1 reach1 wf1 a2 cap2 l2 s2 reach2).mono fun e W' ⟨he, bel⟩ => ?_
  subst he
  exact ⟨_, rfl, _, _, _, [], _, [], hW', trodAll_mk1 (shut_bool Try.underlying4 _), (trodAll_cons_mk (Below.trod laidOut (by kernel_rfl) (of_decide_eq_true (by kernel_rfl)) k0 bel lt0) (trodAll_cons_mk (Below.trod laidOut (by kernel_rfl) (of_decide_eq_true (by kernel_rfl)) k1 bel lt1) (trodAll_cons_mk (Below.trod laidOut (by kernel_rfl) (of_decide_eq_true (by kernel_rfl)) k2 bel lt2) trodAll_mk0))), rfl, bel.frame _, fun h => by cases h⟩

theorem over : Rows.bitsBackRow.holds Try.pinned (OpenSpec.ofChange Rows.bitsBackSpec) :=
  OpenClaim.holds_of_wide 5 Try.f5 rfl rfl rfl rfl rfl rfl rfl ⟨rfl, rfl, rfl, rfl, rfl⟩ rfl rfl rfl rfl rfl (by kernel_rfl) Try.func5 (by kernel_rfl)
    (of_decide_eq_true (by kernel_rfl)) (by unfold Func.isWrapper; first | (rw [if_pos (by decide +kernel)]; kernel_rfl) | (rw [if_neg (by decide +kernel)]; exact ⟨rfl, rfl⟩))
    (fun os started H enc _ => lifted os started H enc)
end Go.Proofs.Ytjcbahbdbnpdeaa.bitsBack

namespace Go.Proofs.Ytjcbahbdbnpdeaa
theorem bitsBack_holds : Rows.BitsBackSaid := bitsBack.over
#print axioms bitsBack_holds
end Go.Proofs.Ytjcbahbdbnpdeaa
