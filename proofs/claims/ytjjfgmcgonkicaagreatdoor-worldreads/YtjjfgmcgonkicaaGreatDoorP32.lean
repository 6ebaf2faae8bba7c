/-
  disk.Recover: what it answers; nothing that was there is written.
-/
import Derived.Deep.CutBlock
import Derived.Lib.Split
import Derived.Lib.IndexMore
import Derived.Test.YtjjfgmcgonkicaaGreatDoorP31
import Derived.Test.YtjjfgmcgonkicaaGreatDoorP10
import Derived.Test.YtjjfgmcgonkicaaGreatDoorP12
import Derived.Test.YtjjfgmcgonkicaaGreatDoorP01
import Derived.Test.YtjjfgmcgonkicaaGreatDoorP02
import Derived.Test.YtjjfgmcgonkicaaGreatDoorP08
namespace Go.Proofs.YtjjfgmcgonkicaaGreatDoor
open Go.RowKit
open Go.Lib (byteCells)

/-- What Recover says. -/
def AnsR (w : World) (D : Dk) (L : List Rc) (E : Int) (e : Ending) (w' : World) : Prop :=
  ∃ (a1 a2 a3 : Option Addr) (n1 n2 c1 c2 n3 G3 : Nat) (l : List Lrc), e = .returned (.tuple #[.agg #[.slice a1 n1 c1, .slice a2 n2 c2], .slice a3 n3 G3, .int .i64 E]) ∧ n1 = D.safe.length ∧ n2 = D.wait.length ∧ Sl w' a1 c1 (byteCells D.safe) ∧ Sl w' a2 c2 (byteCells D.wait) ∧ Recs w.heap.size w' a3 n3 G3 l ∧ l.map (·.r) = L ∧ Below w.heap.size w w'

theorem Recs.set2 {base : Nat} {w : World} {a : Option Addr} {n G g : Nat} {l : List Lrc} {c0 c1 : Value} (h : Recs base w a n G l) (B : Blk w g [c0, c1] 27) (u0 u1 : Value) : Recs base ((w.setCell ⟨g, 0, none⟩ u0).setCell ⟨g, 1, none⟩ u1) a n G l := by
  have one : ∀ {e : TypeId} {size m : Nat} {v : Value} {xs : List Value}, e ≠ 27 → w.ownsRow base e size v m xs → ((w.setCell ⟨g, 0, none⟩ u0).setCell ⟨g, 1, none⟩ u1).ownsRow base e size v m xs := by
    intro e size m v xs he o
    have hne : v.ownBlock ≠ some g := by
      rcases o.2 with ⟨rfl, _⟩ | ⟨g1, c1, cur1, rfl, _, h1, _⟩
      · intro e; cases e
      · intro e'
        have e1 : g1 = g := by simpa [Value.ownBlock] using e'
        subst e1
        have h2 := h1.symm.trans B
        simp only [Option.some.injEq, Obj.cells.injEq] at h2
        exact he h2.2.1
    exact ownsRow_setCell_other (ownsRow_setCell_other o (a := ⟨g, 0, none⟩) hne u0) (a := ⟨g, 1, none⟩) hne u1
  exact ⟨h.len, one (by decide) h.row, fun x hx => one (by decide) (h.own x hx)⟩

theorem tail_suffix : ∀ (n k : Nat) (l : List UInt8), l.length ≤ n → (tail k l).2.length ≤ l.length
  | 0, k, l, h => by
    obtain rfl := List.length_eq_zero_iff.1 (Nat.le_zero.1 h)
    rw [tail_stop (by rw [lnE_nil]; simp)]
    exact Nat.le_refl _
  | n + 1, k, l, h => by
    by_cases hs : k < 60 ∧ lnE l = 0
    · rw [tail_step hs]
      have := lnB_less hs.2
      have := tail_suffix n (k + 1) (lnB l) (by omega)
      simp only
      omega
    · rw [tail_stop hs]
      exact Nat.le_refl _

theorem keepM (n1 n2 : Nat) (rest : ByteArray) (safe wait KP t2 : List UInt8) (h1 : n1 = safe.length) (h2 : n2 = wait.length) (hkp : KP = wait.take (n2 - t2.length)) (hr : bytes rest = t2) (hle : t2.length ≤ wait.length) (few : n1 + n2 ≤ 60000) :
    ∃ m : Nat, IntKind.i64.wrap ((n2 : Int) - (rest.size : Int)) = (m : Int) ∧ (n2 : Int) - (rest.size : Int) = (m : Int) ∧ wrap64 (m : Int) = (m : Int) ∧ m ≤ n2 ∧ KP = wait.take m ∧ m = KP.length ∧ n1 + m = (safe ++ KP).length := by
  have hs : rest.size = t2.length := by rw [← hr, bytes_len]
  refine ⟨n2 - t2.length, ?_, ?_, ?_, Nat.sub_le _ _, hkp, ?_, ?_⟩
  · rw [hs, IntKind.wrap_i64]; omega
  · rw [hs]; omega
  · unfold wrap64; omega
  · rw [hkp, List.length_take]; omega
  · rw [hkp, List.length_append, List.length_take]; omega

set_option maxHeartbeats 2000000 in
set_option maxRecDepth 100000 in
theorem recover_any (d : Dk) (a1 a2 : Option Addr) (c1 c2 n1 n2 : Nat) (w : World) (hg : Gl w) (s1 : Sl w a1 c1 (byteCells d.safe)) (s2 : Sl w a2 c2 (byteCells d.wait)) (h1 : n1 = d.safe.length) (h2 : n2 = d.wait.length) (few : n1 + n2 ≤ 9223372036854775807) :
    Calls Tryz.prog 84 #[.agg #[.slice a1 n1 c1, .slice a2 n2 c2]] w (AnsR w (recD d) (recL d) (dkE d)) := by
  have cC := fun W g s => safe_any d a1 a2 c1 c2 n1 n2 W g s h1 h2 few
  have B1 := (Blk.laid w [.slice a1 n1 c1, .slice a2 n2 c2] 27 _ rfl).alc (.cells #[.slice none 0 0, .slice none 0 0] 27)
  have B2 := Blk.laid (w.alloc (.cells #[.slice a1 n1 c1, .slice a2 n2 c2] 27)) [.slice none 0 0, .slice none 0 0] 27 (w.heap.size + 1) (by simp)
  have bel := newB (newB (Below.refl w.heap.size w) (.cells #[.slice a1 n1 c1, .slice a2 n2 c2] 27)) (.cells #[.slice none 0 0, .slice none 0 0] 27)
  have hsz : w.heap.size ≤ ((w.alloc (.cells #[.slice a1 n1 c1, .slice a2 n2 c2] 27)).alloc (.cells #[.slice none 0 0, .slice none 0 0] 27)).heap.size := bel.size
  have S1 := s1.keep bel (Nat.le_refl _)
  have S2 := s2.keep bel (Nat.le_refl _)
  have g := hg.call bel
  have x0 := B1.cell 0
  have x1 := B1.cell 1
  have l1 := B1.lt
  by_cases h0 : dkE d = 0
  · have few' : n1 + n2 ≤ 60000 := by
      have := h0
      unfold dkE at this
      split at this
      · cases this
      · rw [h1, h2]; omega
    have hD : recD d = ⟨d.safe ++ kept d, []⟩ := if_pos h0
    have hL : recL d = dkL d ++ (tail (dkL d).length d.wait).1 := if_pos h0
    have hkp : kept d = d.wait.take (n2 - (tail (dkL d).length d.wait).2.length) := by unfold kept; rw [h2]
    have hcv := fun (W : World) (S : Sl W a2 c2 (byteCells d.wait)) => run_str S h2
    rw [hD, hL, h0]
    rw [h0] at cC
    obtain ⟨i0, hi, hz0, hz1, hz2⟩ := info_parts infoRec
    have hl60 := dkL_le d
    generalize kept d = KP at *
    generalize dkL d = L0 at *
    generalize hTL : tail L0.length d.wait = TL at *
    clear hD hL h0
    replace h1 := hide h1
    replace h2 := hide h2
    replace hkp := hide hkp
    replace hTL := hide hTL
    go_enter Tryz.func84, Tryz.ntmps84
    go_wp2_with fail
    generalize World.alloc (World.alloc w _) _ = w2 at *
    go_at_call 110
    refine (cC _ g S1).mono ?_
    rintro e w3 ⟨a3, n3, G3, l3, rfl, R3, hl3, b3⟩
    clear x0 x1 l1
    replace B1 := B1.keep b3 B1.lt
    replace B2 := B2.keep b3 B2.lt
    replace S1 := S1.call b3
    replace S2 := S2.call b3
    replace g := g.call b3
    replace bel := belowCall bel b3
    replace R3 := R3.down hsz
    have x0 : w3.cell? ⟨w.heap.size, 0, none⟩ = some (.slice a1 n1 c1) := B1.cell 0
    have x1 : w3.cell? ⟨w.heap.size, 1, none⟩ = some (.slice a2 n2 c2) := B1.cell 1
    have l1 := B1.lt
    have hcv3 := hcv w3 S2
    have hn3 : n3 = L0.length := by rw [R3.len, ← hl3, List.length_map]
    have h60 : n3 ≤ 60 := by rw [hn3]; exact hl60
    replace hl3 := hide hl3
    replace hn3 := hide hn3
    go_upto_block 0 with fail
    go_cut [5, 7, 8, 9, 10] from 24 to 39 (fun s5 s7 s8 s9 s10 wx => ∃ (rest : ByteArray) (k G : Nat) (ao : Option Addr) (l : List Lrc), s5 = .slice ao k G ∧ s7 = .string rest ∧ Recs w.heap.size wx ao k G l ∧ Hid (l.map (·.r) = L0 ++ TL.1) ∧ Hid (bytes rest = TL.2) ∧ Blk wx w.heap.size [.slice a1 n1 c1, .slice a2 n2 c2] 27 ∧ Blk wx (w.heap.size + 1) [.slice none 0 0, .slice none 0 0] 27 ∧ Below w.heap.size w wx)
    case first =>
      go_wp2_with fail
      go_loopw [5, 7] (fun s5 s7 wr => ∃ (rest : ByteArray) (k G : Nat) (ao : Option Addr) (l : List Lrc) (more : List Rc), s5 = .slice ao k G ∧ s7 = .string rest ∧ Recs w.heap.size wr ao k G l ∧ k ≤ 60 ∧ rest.size ≤ 60000 ∧ Hid (l.map (·.r) = L0 ++ more) ∧ Hid (TL = (more ++ (tail k (bytes rest)).1, (tail k (bytes rest)).2)) ∧ Blk wr w.heap.size [.slice a1 n1 c1, .slice a2 n2 c2] 27 ∧ Blk wr (w.heap.size + 1) [.slice none 0 0, .slice none 0 0] 27 ∧ Below w.heap.size w wr) (fun _ s7 _ => strLen s7)
      case atStart => exact ⟨_, n3, G3, a3, l3, [], rfl, rfl, R3, h60, by show (ofB d.wait).size ≤ _; rw [ofB_size]; have := h2.out; omega, by show _ = _; rw [hl3.out, List.append_nil], by show _ = _; rw [← hTL.out, show bytes ⟨d.wait.toArray⟩ = d.wait from bytes_ofB _, hn3.out]; rfl, B1, B2, bel⟩
      case round =>
        clear x0 x1 l1 B1 B2 bel hcv3
        obtain ⟨rest, k, G, ao, l, more, rfl, rfl, R, hk, hr, hm, ht, B1, B2, belr⟩ := hrel
        by_cases hk6 : k < 60
        · have hk6' : (k : Int) < 60 := by omega
          have cF := fun W g => first_any rest W g hr
          have gr := hg.call belr
          have hstop : lnE (bytes rest) ≠ 0 → TL = (more, bytes rest) := by
            intro h
            rw [ht.out, tail_stop (fun h' => h h'.2), List.append_nil]
          have hstep : lnE (bytes rest) = 0 → TL = (more ++ [lnR (bytes rest)] ++ (tail (k + 1) (lnB (bytes rest))).1, (tail (k + 1) (lnB (bytes rest))).2) := by
            intro h
            rw [ht.out, tail_step ⟨hk6, h⟩]
            simp
          have hlt : lnE (bytes rest) = 0 → (ofB (lnB (bytes rest))).size < rest.size := by
            intro h
            rw [ofB_size, ← bytes_len rest]
            exact lnB_less h
          have hbB : bytes (ofB (lnB (bytes rest))) = lnB (bytes rest) := bytes_ofB _
          obtain ⟨PB, hPB⟩ : ∃ PB, PB = ofB (lnB (bytes rest)) := ⟨_, rfl⟩
          rw [← hbB] at hstep
          rw [← hPB] at hstep hlt
          simp only [← hPB] at cF
          clear hPB hbB
          generalize lnR (bytes rest) = PR at *
          generalize lnE (bytes rest) = PE at *
          obtain ⟨K, s', m', es⟩ := PR
          simp only at *
          obtain ⟨ln, hln⟩ : ∃ ln, ln = es.length := ⟨_, rfl⟩
          rw [← hln] at cF
          replace hln := hide hln
          go_wp2_with fail
          go_at_call 111
          refine (cF _ gr).mono ?_
          rintro e w4 ⟨a4, G4, rfl, o4, b4⟩
          have bel4 := belowCall belr b4
          have R4 := R.call b4
          have BX := Blk.laid w4 [.int .i64 K, .int .i64 s', .int .i64 m', .slice a4 ln G4] 93 _ rfl
          have bq := newB (Below.refl w4.heap.size w4) (.cells #[.int .i64 K, .int .i64 s', .int .i64 m', .slice a4 ln G4] 93)
          have bel5 := belowCall bel4 bq
          have R5 := R4.call bq
          replace B1 := (B1.keep b4 B1.lt).keep bq (Nat.lt_of_lt_of_le B1.lt b4.size)
          replace B2 := (B2.keep b4 B2.lt).keep bq (Nat.lt_of_lt_of_le B2.lt b4.size)
          have o5 := owndown (o4.alloc (.cells #[.int .i64 K, .int .i64 s', .int .i64 m', .slice a4 ln G4] 93)) belr.size
          by_cases hp0 : PE = 0
          · subst hp0
            have hst := hide (hstep rfl)
            have hlt' := hlt rfl
            clear hstep hstop hlt
            go_upto_region 8 with fail
            generalize w4.heap.size = gX at *
            generalize w4.alloc _ = w5 at *
            have y0 := BX.cell 0
            have y1 := BX.cell 1
            have y2 := BX.cell 2
            have y3 := BX.cell 3
            have lX := BX.lt
            go_wp2_with (at_builtin; refine wpList_append_new w5 rfl (.tmp 35) (.tmp 37) 45 rfl w.heap.size 93 i0 _ 4 48 Tryz.underlying45 hi hz0 hz1 hz2 rfl (by decide) (.slice ao k G) k _ (by rfl) R5.row 1 #[.int .i64 K, .int .i64 s', .int .i64 m', .slice a4 ln G4] 93 (by rfl) (by rfl) (by simp [Value.oneCell']) (by decide) (by unfold maxLen; omega) (by omega) bel5.size ?_)
            intro v7 w7 own7 grow7 went7
            have bel7 := belowGrown bel5 R5.row grow7 (Nat.le_refl _) bel5.size
            have B17 := B1.grown grow7 (fun q e h => ownNe R5.row B1 (by decide) (by rw [e, h]))
            have B27 := B2.grown grow7 (fun q e h => ownNe R5.row B2 (by decide) (by rw [e, h]))
            obtain ⟨a8, G8, rfl, R8⟩ := R5.snoc (x := ⟨⟨K, s', m', es⟩, a4, G4⟩) (by show World.ownsRow _ _ _ _ (.slice a4 es.length G4) es.length _; rw [← hln.out]; exact o5) (by unfold Lrc.cells; simp only; rw [← hln.out]; exact own7) grow7
            go_wp2_with fail
            go_roundw
            case rel => exact ⟨PB, k + 1, G8, a8, l ++ [⟨⟨K, s', m', es⟩, a4, G4⟩], more ++ [⟨K, s', m', es⟩], rfl, rfl, R8, by omega, by omega, by show _ = _; rw [List.map_append, hm.out, List.append_assoc]; rfl, hst, B17, B27, bel7⟩
            case measure => exact hlt'
          · have hd : decide (PE = 0) = false := decide_eq_false hp0
            have hst := hstop hp0
            go_upto_region 7 with fail
            generalize w4.alloc _ = w5 at *
            go_wp2_with fail
            go_meet
            case rel => exact ⟨rest, k, G, ao, l, rfl, rfl, R5, by show _ = _; rw [hm.out, hst], by show _ = _; rw [hst], B1, B2, bel5⟩
        · have hk6' : ¬ (k : Int) < 60 := by omega
          have hst : TL = (more, bytes rest) := by
            rw [ht.out, tail_stop (fun h' => hk6 h'.1), List.append_nil]
          go_wp2_with fail
          go_meet
          case rel => exact ⟨rest, k, G, ao, l, rfl, rfl, R, by show _ = _; rw [hm.out, hst], by show _ = _; rw [hst], B1, B2, belr⟩
    case rest =>
      clear x0 x1 l1 B1 B2 bel hcv3 cC S1 S2 g R3
      obtain ⟨rest, k, G, ao, l, rfl, rfl, R, hm, hrst, B1, B2, bel⟩ := hcut
      obtain ⟨m, hmi, hmi', hmw, hmn, hKP, hml, hJL⟩ := keepM n1 n2 rest d.safe d.wait KP TL.2 h1.out h2.out hkp.out hrst.out (by rw [← hTL.out]; exact tail_suffix d.wait.length L0.length d.wait (Nat.le_refl _)) few'
      have hnm : n1 + m ≤ 1000000 := Nat.le_trans (Nat.add_le_add_left hmn n1) (Nat.le_trans few' (by decide))
      have S1 := s1.keep bel (Nat.le_refl _)
      have S2 := s2.keep bel (Nat.le_refl _)
      have cJ := fun W s t => join_any a1 a2 c1 c2 n1 m d.safe KP W s t h1.out hml hnm
      have x0 : wc.cell? ⟨w.heap.size, 0, none⟩ = some (.slice a1 n1 c1) := B1.cell 0
      have x1 : wc.cell? ⟨w.heap.size, 1, none⟩ = some (.slice a2 n2 c2) := B1.cell 1
      have l1 := B1.lt
      have kJ : ∀ W, Below wc.heap.size wc W → Calls Tryz.prog 112 #[.slice a1 n1 c1, .slice a2 m c2] W fun e w' => e = .returned (.slice (some ⟨W.heap.size, 0, none⟩) (n1 + m) (n1 + m)) ∧ w'.cell? ⟨w.heap.size, 0, none⟩ = some (.slice a1 n1 c1) ∧ w'.cell? ⟨w.heap.size, 1, none⟩ = some (.slice a2 n2 c2) ∧ w'.cell? ⟨w.heap.size + 1, 0, none⟩ = some (.slice none 0 0) ∧ w'.cell? ⟨w.heap.size + 1, 1, none⟩ = some (.slice none 0 0) ∧ w'.frozen? ⟨w.heap.size + 1, 0, none⟩ = false ∧ w'.frozen? ⟨w.heap.size + 1, 1, none⟩ = false ∧ w.heap.size + 1 < w'.heap.size ∧ Blk w' W.heap.size (byteCells (d.safe ++ KP)) 5 ∧ Below wc.heap.size wc w' := by
        intro W h
        refine (cJ W (S1.call h) (hKP ▸ (S2.call h).takeU m)).mono ?_
        rintro e w' ⟨rfl, BJ, b⟩
        have bb := belowCall h b
        have b2' := B2.keep bb B2.lt
        exact ⟨rfl, (B1.keep bb B1.lt).cell 0, (B1.keep bb B1.lt).cell 1, b2'.cell 0, b2'.cell 1, b2'.free 0, b2'.free 1, b2'.lt, BJ, bb⟩
      have k0 : Below wc.heap.size wc wc.drew := belowDrew (Below.refl _ _)
      have hc2 : n2 ≤ c2 := by have := s2.le; rw [Lib.byteCells_length, ← h2.out] at this; exact this
      have hmc : m ≤ c2 := Nat.le_trans hmn hc2
      have hmc' : (m : Int) ≤ c2 := Int.ofNat_le.2 hmc
      clear few few' hl60 hn3 h60 hl3 hcv hkp
      have ne1 : ¬ w.heap.size + 1 = w.heap.size := by omega
      replace hml := hide hml
      replace hJL := hide hJL
      replace hKP := hide hKP
      clear cJ
      go_upto_region 10 with fail
      go_region_held3 (fun w' => w'.cell? ⟨w.heap.size, 0, none⟩ = some (.slice a1 n1 c1) ∧ w'.cell? ⟨w.heap.size, 1, none⟩ = some (.slice a2 n2 c2)) (go_keep)
        (first
          | (go_at_call 112; refine (kJ _ k0).mono ?_; rintro e wB ⟨rfl, p0, p1, q0, q1, fq0, fq1, lq, BB', zB⟩))
      all_goals (
        go_wp2_with fail
        have l2 := B2.lt
        have B9 := put2 (B2.keep zB B2.lt) (.slice (some ⟨wc.heap.size, 0, none⟩) (n1 + m) (n1 + m)) (.slice none 0 0)
        have bel9 := below2s (belowCall bel zB) (Nat.le_succ _) (.slice (some ⟨wc.heap.size, 0, none⟩) (n1 + m) (n1 + m)) (.slice none 0 0)
        have T1 : Blk _ wc.heap.size _ _ := ((BB'.other (g' := w.heap.size + 1) 0 (.slice (some ⟨wc.heap.size, 0, none⟩) (n1 + m) (n1 + m)) (by show _ ≠ wc.heap.size; omega)).other (g' := w.heap.size + 1) 1 (.slice none 0 0) (by show _ ≠ wc.heap.size; omega))
        have R9 := (R.call zB).set2 (B2.keep zB B2.lt) (.slice (some ⟨wc.heap.size, 0, none⟩) (n1 + m) (n1 + m)) (.slice none 0 0)
        have i0 := B9.cell 0
        have i1 := B9.cell 1
        exact bodyPost_ret (v := .tuple #[.agg #[.slice (some ⟨wc.heap.size, 0, none⟩) (n1 + m) (n1 + m), .slice none 0 0], .slice ao k G, .int .i64 0]) (by simp [results, Tryz.results84, go_sem, i0, i1]) rfl ⟨_, none, _, n1 + m, 0, n1 + m, 0, k, G, l, rfl, hJL.out, rfl, ownBlkU T1 hJL.out hnm, Sl.ofNil _, R9, hm.out, bel9⟩)
  · have hD : recD d = dk0 := if_neg h0
    have hL : recL d = [] := if_neg h0
    rw [hD, hL]
    have hd : decide (dkE d = 0) = false := decide_eq_false h0
    generalize dkE d = E at *
    replace h1 := hide h1
    replace h2 := hide h2
    clear hD hL
    go_enter Tryz.func84, Tryz.ntmps84
    go_wp2_with fail
    generalize World.alloc (World.alloc w _) _ = w2 at *
    go_at_call 110
    refine (cC _ g S1).mono ?_
    rintro e w3 ⟨a3, n3, G3, l3, rfl, R3, hl3, b3⟩
    clear x0 x1 l1
    replace B2 := B2.keep b3 B2.lt
    replace bel := belowCall bel b3
    have y0 := B2.cell 0
    have y1 := B2.cell 1
    have f0 := B2.free 0
    have f1 := B2.free 1
    have l2 := B2.lt
    go_wp2_with fail
    have B9 := put2 B2 (.slice none 0 0) (.slice none 0 0)
    have bel9 := below2s bel (Nat.le_succ _) (.slice none 0 0) (.slice none 0 0)
    have i0 := B9.cell 0
    have i1 := B9.cell 1
    exact bodyPost_ret (v := .tuple #[.agg #[.slice none 0 0, .slice none 0 0], .slice none 0 0, .int .i64 E]) (by simp [results, Tryz.results84, go_sem, i0, i1]) rfl ⟨none, none, none, 0, 0, 0, 0, 0, 0, [], rfl, rfl, rfl, Sl.ofNil _, Sl.ofNil _, Recs.nil _ _, rfl, bel9⟩

end Go.Proofs.YtjjfgmcgonkicaaGreatDoor

/-
  Texts cut behind line feeds, as plain lists: strings.SplitAfter at one line feed, line by line. No program is named.
-/
namespace Go.Proofs.YtjjfgmcgonkicaaGreatDoor
open Go.Lib (index splitK count)

/-- The pieces, each with its line feed; the last one without. -/
def pcs : List UInt8 → List (List UInt8)
  | [] => [[]]
  | c :: r => if c = 10 then [10] :: pcs r else (c :: (pcs r).headD []) :: (pcs r).tail

theorem pcs_ne (l : List UInt8) : pcs l ≠ [] := by
  cases l with
  | nil => simp [pcs]
  | cons c r => unfold pcs; split <;> simp

theorem pcs_none : ∀ l : List UInt8, (∀ c ∈ l, c ≠ 10) → pcs l = [l]
  | [], _ => rfl
  | c :: r, h => by
    rw [pcs, if_neg (h c List.mem_cons_self), pcs_none r (fun x hx => h x (List.mem_cons_of_mem _ hx))]
    rfl

theorem pcs_some : ∀ (p q : List UInt8), (∀ c ∈ p, c ≠ 10) → pcs (p ++ 10 :: q) = (p ++ [10]) :: pcs q
  | [], q, _ => by rw [List.nil_append, pcs, if_pos rfl]; rfl
  | c :: r, q, h => by
    rw [List.cons_append, pcs, if_neg (h c List.mem_cons_self), pcs_some r q (fun x hx => h x (List.mem_cons_of_mem _ hx))]
    rfl

theorem split_pcs : ∀ (n : Nat) (l : List UInt8), l.length ≤ n → splitK [10] 1 (count l [10]) l = pcs l := by
  intro n
  induction n with
  | zero =>
    intro l h
    obtain rfl := List.length_eq_zero_iff.1 (Nat.le_zero.1 h)
    rw [Lib.count_miss rfl]
    rfl
  | succ n ih =>
    intro l h
    rcases index_byte 10 l with ⟨h1, h2⟩ | ⟨p, q, rfl, h2, h3⟩
    · rw [Lib.count_miss h1, pcs_none l h2]
      rfl
    · have hd : (p ++ 10 :: q).drop (p.length + 1) = q := by
        rw [show p.length + 1 = (p ++ [10]).length by simp, show p ++ 10 :: q = (p ++ [10]) ++ q by simp, List.drop_left]
      have ht : (p ++ 10 :: q).take (p.length + 1) = p ++ [10] := by
        rw [show p.length + 1 = (p ++ [10]).length by simp, show p ++ 10 :: q = (p ++ [10]) ++ q by simp, List.take_left]
      rw [Lib.count_hit (by simp) h3, Nat.add_comm 1, splitK, h3, pcs_some p q h2]
      have hne : ((p.length : Int) == -1) = false := by simp
      rw [hne]
      simp only [Bool.false_eq_true, if_false, Int.toNat_natCast, List.length_cons, List.length_nil, Nat.zero_add]
      rw [hd, ht, ih q (by simp at h; omega)]

theorem split_pcsB (s : ByteArray) : (Lib.splitB ⟨#[10]⟩ 1 (Lib.countB s ⟨#[10]⟩) s).map bytes = pcs (bytes s) := by
  have h := Lib.splitB_data ⟨#[10]⟩ 1 (Lib.countB s ⟨#[10]⟩) s
  exact h.trans (split_pcs _ (bytes s) (Nat.le_refl _))

/-- The first piece and the rest. -/
theorem pcs_line (l : List UInt8) : pcs l = if lfY l = true then (lfT l ++ [10]) :: pcs (lfB l) else [l] := by
  rcases lf_cases l with ⟨h1, h2, h3, h4⟩ | ⟨h1, h2, h3⟩
  · rw [h1, if_neg (by decide), pcs_none l h4]
  · rw [h1, if_pos rfl]
    conv => lhs; rw [h2]
    exact pcs_some _ _ h3

/-- What is scanned is what the beginning's lines tell. -/
theorem scan_tail : ∀ (n k : Nat) (l : List UInt8), l.length ≤ n → k ≤ 60 → (scan k l).1 = (tail k l).1
  | 0, k, l, h, hk => by
    obtain rfl := List.length_eq_zero_iff.1 (Nat.le_zero.1 h)
    rw [scan_nil, tail_stop (by rw [lnE_nil]; simp)]
  | n + 1, k, l, h, hk => by
    by_cases h0 : l = []
    · subst h0
      rw [scan_nil, tail_stop (by rw [lnE_nil]; simp)]
    by_cases h1 : lnE l = 0
    · by_cases h2 : k = 60
      · subst h2
        rw [scan_many h0 h1, tail_stop (by simp)]
      · have := lnB_less h1
        rw [scan_step h0 h1 h2, tail_step ⟨by omega, h1⟩]
        simp only
        rw [scan_tail n (k + 1) (lnB l) (by omega) (by omega)]
    · rw [scan_bad h0 h1, tail_stop (fun h => h1 h.2)]

end Go.Proofs.YtjjfgmcgonkicaaGreatDoor

/-
  strings.Cut at one blank, as plain lists: the first word, and the rest. No program is named.
-/
namespace Go.Proofs.YtjjfgmcgonkicaaGreatDoor
open Go.Lib (index cut)

theorem cut_sp (l : List UInt8) : sp l = (cut l [32]).1 :: (if (cut l [32]).2.2 = true then sp (cut l [32]).2.1 else []) := by
  unfold cut
  rcases index_blank l with ⟨h1, h2⟩ | ⟨p, q, rfl, h2, h3⟩
  · rw [h1, if_neg (by decide)]
    simp [sp_none l h2]
  · rw [h3, if_pos (by omega)]
    have hd : (p ++ 32 :: q).drop (p.length + 1) = q := by
      rw [show p.length + 1 = (p ++ [32]).length by simp, show p ++ 32 :: q = (p ++ [32]) ++ q by simp, List.drop_left]
    simp only [Int.toNat_natCast, List.length_cons, List.length_nil, Nat.zero_add, List.take_left, hd, if_true]
    exact sp_some p q h2

theorem cut_less (l : List UInt8) : (cut l [32]).1.length ≤ l.length ∧ (cut l [32]).2.1.length ≤ l.length ∧ ((cut l [32]).2.2 = true → (cut l [32]).2.1.length < l.length) := by
  unfold cut
  rcases index_blank l with ⟨h1, h2⟩ | ⟨p, q, rfl, h2, h3⟩
  · rw [h1, if_neg (by decide)]
    simp
  · rw [h3, if_pos (by omega)]
    simp only [Int.toNat_natCast, List.length_cons, List.length_nil, Nat.zero_add, List.length_take, List.length_drop, List.length_append]
    omega

end Go.Proofs.YtjjfgmcgonkicaaGreatDoor

/-
  'in' of the reference: is a number from one to another one; it touches no memory.
-/
namespace Go.Proofs.YtjjfgmcgonkicaaGreatDoor
open Go.RowKit

theorem in_any (n a b : Int) (w : World) :
    Calls Tryz.prog 40 #[.int .i64 n, .int .i64 a, .int .i64 b] w fun e w' => e = .returned (.bool (decide (a ≤ n ∧ n ≤ b))) ∧ w = w' := by
  by_cases h1 : a ≤ n
  · by_cases h2 : n ≤ b
    · have e : decide (a ≤ n ∧ n ≤ b) = true := by simp [h1, h2]
      rw [e]
      clear e
      go_enter Tryz.func40, Tryz.ntmps40
      go_wp2
      go_ret
      exact ⟨rfl, rfl⟩
    · have e : decide (a ≤ n ∧ n ≤ b) = false := by simp [h2]
      rw [e]
      clear e
      go_enter Tryz.func40, Tryz.ntmps40
      go_wp2
      go_ret
      exact ⟨rfl, rfl⟩
  · have e : decide (a ≤ n ∧ n ≤ b) = false := by simp [h1]
    rw [e]
    clear e
    go_enter Tryz.func40, Tryz.ntmps40
    go_wp2
    go_ret
    exact ⟨rfl, rfl⟩

end Go.Proofs.YtjjfgmcgonkicaaGreatDoor

/-
  The reference's CheckPoint: whether a point is in range.
-/
namespace Go.Proofs.YtjjfgmcgonkicaaGreatDoor
open Go.RowKit

theorem refPoint_any (x y : Int) (w : World) :
    Calls Tryz.prog 96 #[.agg #[.int .i64 x, .int .i64 y]] w fun e w' => e = .returned (.int .i64 (if ptOk (x, y) = false then 3 else 0)) ∧ Below w.heap.size w w' := by
  by_cases h1 : 0 ≤ x ∧ x ≤ 100000
  · have i1 := fun W => in_any x 0 100000 W
    rw [decide_eq_true h1] at i1
    by_cases h2 : -1000000 ≤ y ∧ y ≤ 1000000
    · have i2 := fun W => in_any y (-1000000) 1000000 W
      rw [decide_eq_true h2] at i2
      have e : ptOk (x, y) = true := decide_eq_true ⟨h1.1, h1.2, h2⟩
      rw [e, if_neg (by decide)]
      clear e h1 h2
      go_enter Tryz.func96, Tryz.ntmps96
      go_wp2_with fail
      go_at_call 40
      refine (i1 _).mono ?_
      rintro e w1 ⟨rfl, rfl⟩
      go_wp2_with fail
      go_at_call 40
      refine (i2 _).mono ?_
      rintro e w2 ⟨rfl, rfl⟩
      go_wp2_with fail
      go_ret
      exact ⟨rfl, (Below.refl _ _).alloc (Nat.le_refl _) _⟩
    · have i2 := fun W => in_any y (-1000000) 1000000 W
      rw [decide_eq_false h2] at i2
      have e : ptOk (x, y) = false := decide_eq_false (fun h => h2 h.2.2)
      rw [e, if_pos rfl]
      clear e h1 h2
      go_enter Tryz.func96, Tryz.ntmps96
      go_wp2_with fail
      go_at_call 40
      refine (i1 _).mono ?_
      rintro e w1 ⟨rfl, rfl⟩
      go_wp2_with fail
      go_at_call 40
      refine (i2 _).mono ?_
      rintro e w2 ⟨rfl, rfl⟩
      go_wp2_with fail
      go_ret
      exact ⟨rfl, (Below.refl _ _).alloc (Nat.le_refl _) _⟩
  · have i1 := fun W => in_any x 0 100000 W
    rw [decide_eq_false h1] at i1
    have e : ptOk (x, y) = false := decide_eq_false (fun h => h1 ⟨h.1, h.2.1⟩)
    rw [e, if_pos rfl]
    clear e h1
    go_enter Tryz.func96, Tryz.ntmps96
    go_wp2_with fail
    go_at_call 40
    refine (i1 _).mono ?_
    rintro e w1 ⟨rfl, rfl⟩
    go_wp2_with fail
    go_ret
    exact ⟨rfl, (Below.refl _ _).alloc (Nat.le_refl _) _⟩

end Go.Proofs.YtjjfgmcgonkicaaGreatDoor

/-
  The reference's CheckRec: what is wrong with a record.
-/
namespace Go.Proofs.YtjjfgmcgonkicaaGreatDoor
open Go.RowKit

theorem ntOk_split (x : Nt) : ntOk x = (decide (0 ≤ x.1 ∧ x.1 ≤ 3) && ptOk (x.2.1, x.2.2)) := by
  unfold ntOk ptOk
  rw [Bool.eq_iff_iff]
  simp only [decide_eq_true_eq, Bool.and_eq_true]
  omega

set_option maxHeartbeats 1000000 in
set_option maxRecDepth 100000 in
theorem rcheck_loop (l : List Nt) (a : Option Addr) (cap n : Nat) (w : World) (S : SlW ec w a cap l) (hn : n = l.length) (few : n ≤ 10) :
    Calls Tryz.prog 59 #[.agg #[.int .i64 1, .int .i64 0, .int .i64 0, .slice a n cap]] w fun e w' => e = .returned (.int .i64 (if l.all ntOk then 0 else 3)) ∧ Below w.heap.size w w' := by
  obtain ⟨E, hE⟩ : ∃ E : Int, E = if l.all ntOk then 0 else 3 := ⟨_, rfl⟩
  rw [← hE]
  replace hE := hide hE
  replace hn := hide hn
  have bel : Below w.heap.size w (w.alloc (.cells #[.int .i64 1, .int .i64 0, .int .i64 0, .slice a n cap] 93)) := (Below.refl _ _).alloc (Nat.le_refl _) _
  have few' : ¬ (10 : Int) < n := by omega
  have c1 := fun W => in_any 1 1 4 W
  have c2 := fun W => in_any 0 0 3 W
  have c3 := fun W => in_any 0 0 100001 W
  rw [decide_eq_true (by omega)] at c1 c2 c3
  go_enter Tryz.func59, Tryz.ntmps59
  go_wp2_with fail
  go_at_call 40
  refine (c1 _).mono ?_
  rintro e w2 ⟨rfl, rfl⟩
  go_wp2_with fail
  go_at_call 40
  refine (c2 _).mono ?_
  rintro e w2 ⟨rfl, rfl⟩
  go_wp2_with fail
  go_at_call 40
  refine (c3 _).mono ?_
  rintro e w2 ⟨rfl, rfl⟩
  go_wp2_with fail
  generalize w.alloc _ = w1 at *
  go_loopw [59] (fun i wr => ∃ (k : Nat), k ≤ n ∧ i = .int .i64 k ∧ Hid ((l.take k).all ntOk = true) ∧ Below w.heap.size w wr) (fun i _ => n - (intOf i).toNat)
  case atStart => exact ⟨0, Nat.zero_le _, rfl, hide (by simp), bel⟩
  case round =>
    clear bel
    obtain ⟨k, hk, rfl, hA, bel⟩ := hrel
    by_cases hlt : k < n
    · have hkl : k < l.length := by rw [← hn.out]; exact hlt
      obtain ⟨b1, o1, rfl, hb1l⟩ := S.where ec_three (by decide) (by intro h; subst h; simp at hkl)
      obtain ⟨x, hx⟩ : ∃ x, l[k]? = some x := ⟨_, List.getElem?_eq_getElem hkl⟩
      have s1 := S.keep bel (Nat.le_refl _)
      have d0 := s1.cell ec_three k 0 x _ hx rfl
      have d1 := s1.cell ec_three k 1 x _ hx rfl
      have d2 := s1.cell ec_three k 2 x _ hx rfl
      simp only [Nat.add_zero] at d0
      have hno : ntOk x = false → E = 3 := by
        intro h
        rw [hE.out, if_neg]
        intro hall
        have := List.all_eq_true.1 hall x (List.mem_of_getElem? hx)
        rw [h] at this
        cases this
      have hyes : ntOk x = true → Hid ((l.take (k + 1)).all ntOk = true) := by
        intro h
        rw [List.take_add_one, hx, List.all_append, hA.out]
        simpa [Hid] using h
      have hsp := ntOk_split x
      obtain ⟨xs, xt, xv⟩ := x
      simp only at *
      replace hx := hide hx
      clear s1 hkl c1 c2 c3
      have BX := Blk.laid wr [.int .i64 xs, .int .i64 xt, .int .i64 xv] 84 _ rfl
      have bX := newB bel (.cells #[.int .i64 xs, .int .i64 xt, .int .i64 xv] 84)
      have c1 := fun W => in_any xs 0 3 W
      have c2 := fun W => refPoint_any xt xv W
      by_cases hs : 0 ≤ xs ∧ xs ≤ 3
      · rw [decide_eq_true hs] at c1 hsp
        rw [Bool.true_and] at hsp
        rw [← hsp] at c2
        by_cases hok : ntOk (xs, xt, xv) = true
        · rw [hok, if_neg (by decide)] at c2
          have hY := hyes hok
          clear hno hyes hok hs hsp
          go_wp2_with fail
          go_at_call 40
          refine (c1 _).mono ?_
          rintro e w2 ⟨rfl, rfl⟩
          generalize wr.alloc _ = w2 at *
          have z1 : w2.cell? ⟨wr.heap.size, 1, none⟩ = some (.int .i64 xt) := BX.cell 1
          have z2 : w2.cell? ⟨wr.heap.size, 2, none⟩ = some (.int .i64 xv) := BX.cell 2
          have lX := BX.lt
          clear c1
          go_wp2_with fail
          go_at_call 96
          refine (c2 _).mono ?_
          rintro e w3 ⟨rfl, b3⟩
          have bel3 := belowCall bX b3
          go_wp2_with fail
          go_roundw
          case rel => exact ⟨k + 1, by omega, by go_num, hY, bel3⟩
          case measure => simp [intOf]; omega
        · have hok' : ntOk (xs, xt, xv) = false := by simpa using hok
          rw [hok', if_pos rfl] at c2
          obtain rfl := hno hok'
          clear hno hyes hok hs hsp hok'
          go_wp2_with fail
          go_at_call 40
          refine (c1 _).mono ?_
          rintro e w2 ⟨rfl, rfl⟩
          generalize wr.alloc _ = w2 at *
          have z1 : w2.cell? ⟨wr.heap.size, 1, none⟩ = some (.int .i64 xt) := BX.cell 1
          have z2 : w2.cell? ⟨wr.heap.size, 2, none⟩ = some (.int .i64 xv) := BX.cell 2
          have lX := BX.lt
          clear c1
          go_wp2_with fail
          go_at_call 96
          refine (c2 _).mono ?_
          rintro e w3 ⟨rfl, b3⟩
          have bel3 := belowCall bX b3
          go_wp2_with fail
          go_ret
          exact ⟨rfl, bel3⟩
      · rw [decide_eq_false hs] at c1 hsp
        rw [Bool.false_and] at hsp
        obtain rfl := hno hsp
        clear hno hyes hs hsp c2
        go_wp2_with fail
        go_at_call 40
        refine (c1 _).mono ?_
        rintro e w2 ⟨rfl, rfl⟩
        go_wp2_with fail
        go_ret
        exact ⟨rfl, bX⟩
    · obtain rfl : n = k := by omega
      obtain rfl : E = 0 := by
        have := hA.out
        rw [List.take_of_length_le (by rw [← hn.out]; exact Nat.le_refl _)] at this
        rw [hE.out, if_pos this]
      go_wp2_with fail
      go_ret
      exact ⟨rfl, bel⟩

set_option maxHeartbeats 1000000 in
set_option maxRecDepth 100000 in
theorem rcheck_one (s m : Int) (l : List Nt) (a : Option Addr) (cap n : Nat) (w : World) (S : SlW ec w a cap l) (hn : n = l.length) :
    Calls Tryz.prog 59 #[.agg #[.int .i64 1, .int .i64 s, .int .i64 m, .slice a n cap]] w fun e w' => e = .returned (.int .i64 (if s ≠ 0 ∨ m ≠ 0 then 4 else if 10 < l.length then 2 else if l.all ntOk then 0 else 3)) ∧ Below w.heap.size w w' := by
  have c1 := fun W => in_any 1 1 4 W
  rw [decide_eq_true (by omega)] at c1
  have bel := newB (Below.refl w.heap.size w) (.cells #[.int .i64 1, .int .i64 s, .int .i64 m, .slice a n cap] 93)
  by_cases hs : s = 0
  · subst hs
    by_cases hm : m = 0
    · subst hm
      rw [if_neg (by simp)]
      by_cases h10 : 10 < n
      · rw [if_pos (by rw [← hn]; exact h10)]
        have h10' : (10 : Int) < n := by omega
        replace hn := hide hn
        go_enter Tryz.func59, Tryz.ntmps59
        go_wp2_with fail
        go_at_call 40
        refine (c1 _).mono ?_
        rintro e w2 ⟨rfl, rfl⟩
        go_wp2_with fail
        go_ret
        exact ⟨rfl, bel⟩
      · rw [if_neg (by rw [← hn]; exact h10)]
        exact rcheck_loop l a cap n w S hn (by omega)
    · rw [if_pos (.inr hm)]
      replace hn := hide hn
      have hm' : decide (m = 0) = false := decide_eq_false hm
      go_enter Tryz.func59, Tryz.ntmps59
      go_wp2_with fail
      go_at_call 40
      refine (c1 _).mono ?_
      rintro e w2 ⟨rfl, rfl⟩
      go_wp2_with fail
      go_ret
      exact ⟨rfl, bel⟩
  · rw [if_pos (.inl hs)]
    replace hn := hide hn
    have hs' : decide (s = 0) = false := decide_eq_false hs
    go_enter Tryz.func59, Tryz.ntmps59
    go_wp2_with fail
    go_at_call 40
    refine (c1 _).mono ?_
    rintro e w2 ⟨rfl, rfl⟩
    go_wp2_with fail
    go_ret
    exact ⟨rfl, bel⟩

set_option maxHeartbeats 1000000 in
set_option maxRecDepth 100000 in
theorem rcheck_2 (s m : Int) (l : List Nt) (a : Option Addr) (cap n : Nat) (w : World) (hn : n = l.length) :
    Calls Tryz.prog 59 #[.agg #[.int .i64 2, .int .i64 s, .int .i64 m, .slice a n cap]] w fun e w' => e = .returned (.int .i64 (plainE 2 s m l)) ∧ Below w.heap.size w w' := by
  have c1 := fun W => in_any 2 1 4 W
  rw [decide_eq_true (by omega)] at c1
  have c2 := fun W => in_any s 0 3 W
  have c3 := fun W => in_any m 0 100001 W
  have bel := newB (Below.refl w.heap.size w) (.cells #[.int .i64 2, .int .i64 s, .int .i64 m, .slice a n cap] 93)
  obtain ⟨E, hE⟩ : ∃ E, E = plainE 2 s m l := ⟨_, rfl⟩
  rw [← hE]
  unfold plainE at hE
  by_cases h0 : n = 0
  · subst h0
    obtain rfl := List.length_eq_zero_iff.1 hn.symm
    clear hn
    rw [if_neg (by simp)] at hE
    by_cases hs : 0 ≤ s ∧ s ≤ 3
    · rw [decide_eq_true hs] at c2
      by_cases hm : 0 ≤ m ∧ m ≤ 100001
      · rw [decide_eq_true hm] at c3
        obtain rfl : E = 0 := by rw [hE, if_pos (by omega)]
        clear hE hm hs
        go_enter Tryz.func59, Tryz.ntmps59
        go_wp2_with fail
        go_at_call 40
        refine (c1 _).mono ?_
        rintro e w2 ⟨rfl, rfl⟩
        go_wp2_with fail
        go_at_call 40
        refine (c2 _).mono ?_
        rintro e w3 ⟨rfl, rfl⟩
        go_wp2_with fail
        go_at_call 40
        refine (c3 _).mono ?_
        rintro e w4 ⟨rfl, rfl⟩
        go_wp2_with fail
        generalize w.alloc _ = w1 at *
        go_loopw [59] (fun i wr => i = .int .i64 0 ∧ wr = w1) (fun _ _ => 0)
        case atStart => exact ⟨rfl, rfl⟩
        case round =>
          obtain ⟨rfl, rfl⟩ := hrel
          go_wp2_with fail
          go_ret
          exact ⟨rfl, bel⟩
      · rw [decide_eq_false hm] at c3
        obtain rfl : E = 3 := by rw [hE, if_neg (by omega)]
        clear hE hm hs
        go_enter Tryz.func59, Tryz.ntmps59
        go_wp2_with fail
        go_at_call 40
        refine (c1 _).mono ?_
        rintro e w2 ⟨rfl, rfl⟩
        go_wp2_with fail
        go_at_call 40
        refine (c2 _).mono ?_
        rintro e w3 ⟨rfl, rfl⟩
        go_wp2_with fail
        go_at_call 40
        refine (c3 _).mono ?_
        rintro e w4 ⟨rfl, rfl⟩
        go_wp2_with fail
        go_ret
        exact ⟨rfl, bel⟩
    · rw [decide_eq_false hs] at c2
      obtain rfl : E = 3 := by rw [hE, if_neg (by omega)]
      clear hE hs
      go_enter Tryz.func59, Tryz.ntmps59
      go_wp2_with fail
      go_at_call 40
      refine (c1 _).mono ?_
      rintro e w2 ⟨rfl, rfl⟩
      go_wp2_with fail
      go_at_call 40
      refine (c2 _).mono ?_
      rintro e w3 ⟨rfl, rfl⟩
      go_wp2_with fail
      go_ret
      exact ⟨rfl, bel⟩
  · obtain rfl : E = 4 := by rw [hE, if_pos (.inl (by intro h; subst h; exact h0 hn))]
    clear hE
    have hp : (0 : Int) < n := by omega
    have hd : decide (0 < n) = true := decide_eq_true (by omega)
    replace hn := hide hn
    go_enter Tryz.func59, Tryz.ntmps59
    go_wp2_with fail
    go_at_call 40
    refine (c1 _).mono ?_
    rintro e w2 ⟨rfl, rfl⟩
    go_wp2_with fail
    go_ret
    exact ⟨rfl, bel⟩

set_option maxHeartbeats 1000000 in
set_option maxRecDepth 100000 in
theorem rcheck_3 (s m : Int) (l : List Nt) (a : Option Addr) (cap n : Nat) (w : World) (hn : n = l.length) :
    Calls Tryz.prog 59 #[.agg #[.int .i64 3, .int .i64 s, .int .i64 m, .slice a n cap]] w fun e w' => e = .returned (.int .i64 (plainE 3 s m l)) ∧ Below w.heap.size w w' := by
  have c1 := fun W => in_any 3 1 4 W
  rw [decide_eq_true (by omega)] at c1
  have c2 := fun W => in_any s 0 3 W
  have c3 := fun W => in_any m 0 100001 W
  have bel := newB (Below.refl w.heap.size w) (.cells #[.int .i64 3, .int .i64 s, .int .i64 m, .slice a n cap] 93)
  obtain ⟨E, hE⟩ : ∃ E, E = plainE 3 s m l := ⟨_, rfl⟩
  rw [← hE]
  unfold plainE at hE
  by_cases h0 : n = 0
  · subst h0
    obtain rfl := List.length_eq_zero_iff.1 hn.symm
    clear hn
    rw [if_neg (by simp)] at hE
    by_cases hs : 0 ≤ s ∧ s ≤ 3
    · rw [decide_eq_true hs] at c2
      by_cases hm : 0 ≤ m ∧ m ≤ 100001
      · rw [decide_eq_true hm] at c3
        obtain rfl : E = 0 := by rw [hE, if_pos (by omega)]
        clear hE hm hs
        go_enter Tryz.func59, Tryz.ntmps59
        go_wp2_with fail
        go_at_call 40
        refine (c1 _).mono ?_
        rintro e w2 ⟨rfl, rfl⟩
        go_wp2_with fail
        go_at_call 40
        refine (c2 _).mono ?_
        rintro e w3 ⟨rfl, rfl⟩
        go_wp2_with fail
        go_at_call 40
        refine (c3 _).mono ?_
        rintro e w4 ⟨rfl, rfl⟩
        go_wp2_with fail
        generalize w.alloc _ = w1 at *
        go_loopw [59] (fun i wr => i = .int .i64 0 ∧ wr = w1) (fun _ _ => 0)
        case atStart => exact ⟨rfl, rfl⟩
        case round =>
          obtain ⟨rfl, rfl⟩ := hrel
          go_wp2_with fail
          go_ret
          exact ⟨rfl, bel⟩
      · rw [decide_eq_false hm] at c3
        obtain rfl : E = 3 := by rw [hE, if_neg (by omega)]
        clear hE hm hs
        go_enter Tryz.func59, Tryz.ntmps59
        go_wp2_with fail
        go_at_call 40
        refine (c1 _).mono ?_
        rintro e w2 ⟨rfl, rfl⟩
        go_wp2_with fail
        go_at_call 40
        refine (c2 _).mono ?_
        rintro e w3 ⟨rfl, rfl⟩
        go_wp2_with fail
        go_at_call 40
        refine (c3 _).mono ?_
        rintro e w4 ⟨rfl, rfl⟩
        go_wp2_with fail
        go_ret
        exact ⟨rfl, bel⟩
    · rw [decide_eq_false hs] at c2
      obtain rfl : E = 3 := by rw [hE, if_neg (by omega)]
      clear hE hs
      go_enter Tryz.func59, Tryz.ntmps59
      go_wp2_with fail
      go_at_call 40
      refine (c1 _).mono ?_
      rintro e w2 ⟨rfl, rfl⟩
      go_wp2_with fail
      go_at_call 40
      refine (c2 _).mono ?_
      rintro e w3 ⟨rfl, rfl⟩
      go_wp2_with fail
      go_ret
      exact ⟨rfl, bel⟩
  · obtain rfl : E = 4 := by rw [hE, if_pos (.inl (by intro h; subst h; exact h0 hn))]
    clear hE
    have hp : (0 : Int) < n := by omega
    have hd : decide (0 < n) = true := decide_eq_true (by omega)
    replace hn := hide hn
    go_enter Tryz.func59, Tryz.ntmps59
    go_wp2_with fail
    go_at_call 40
    refine (c1 _).mono ?_
    rintro e w2 ⟨rfl, rfl⟩
    go_wp2_with fail
    go_ret
    exact ⟨rfl, bel⟩

set_option maxHeartbeats 1000000 in
set_option maxRecDepth 100000 in
theorem rcheck_4 (s m : Int) (l : List Nt) (a : Option Addr) (cap n : Nat) (w : World) (hn : n = l.length) :
    Calls Tryz.prog 59 #[.agg #[.int .i64 4, .int .i64 s, .int .i64 m, .slice a n cap]] w fun e w' => e = .returned (.int .i64 (plainE 4 s m l)) ∧ Below w.heap.size w w' := by
  have c1 := fun W => in_any 4 1 4 W
  rw [decide_eq_true (by omega)] at c1
  have c2 := fun W => in_any s 0 3 W
  have c3 := fun W => in_any m 0 100001 W
  have bel := newB (Below.refl w.heap.size w) (.cells #[.int .i64 4, .int .i64 s, .int .i64 m, .slice a n cap] 93)
  obtain ⟨E, hE⟩ : ∃ E, E = plainE 4 s m l := ⟨_, rfl⟩
  rw [← hE]
  unfold plainE at hE
  by_cases h0 : n = 0
  · subst h0
    obtain rfl := List.length_eq_zero_iff.1 hn.symm
    clear hn
    by_cases hs : s = 0
    · subst hs
      rw [decide_eq_true (by omega)] at c2
      rw [if_neg (by simp)] at hE
      by_cases hm : 0 ≤ m ∧ m ≤ 100001
      · rw [decide_eq_true hm] at c3
        obtain rfl : E = 0 := by rw [hE, if_pos (by omega)]
        clear hE hm
        go_enter Tryz.func59, Tryz.ntmps59
        go_wp2_with fail
        go_at_call 40
        refine (c1 _).mono ?_
        rintro e w2 ⟨rfl, rfl⟩
        go_wp2_with fail
        go_at_call 40
        refine (c2 _).mono ?_
        rintro e w3 ⟨rfl, rfl⟩
        go_wp2_with fail
        go_at_call 40
        refine (c3 _).mono ?_
        rintro e w4 ⟨rfl, rfl⟩
        go_wp2_with fail
        generalize w.alloc _ = w1 at *
        go_loopw [59] (fun i wr => i = .int .i64 0 ∧ wr = w1) (fun _ _ => 0)
        case atStart => exact ⟨rfl, rfl⟩
        case round =>
          obtain ⟨rfl, rfl⟩ := hrel
          go_wp2_with fail
          go_ret
          exact ⟨rfl, bel⟩
      · rw [decide_eq_false hm] at c3
        obtain rfl : E = 3 := by rw [hE, if_neg (by omega)]
        clear hE hm
        go_enter Tryz.func59, Tryz.ntmps59
        go_wp2_with fail
        go_at_call 40
        refine (c1 _).mono ?_
        rintro e w2 ⟨rfl, rfl⟩
        go_wp2_with fail
        go_at_call 40
        refine (c2 _).mono ?_
        rintro e w3 ⟨rfl, rfl⟩
        go_wp2_with fail
        go_at_call 40
        refine (c3 _).mono ?_
        rintro e w4 ⟨rfl, rfl⟩
        go_wp2_with fail
        go_ret
        exact ⟨rfl, bel⟩
    · obtain rfl : E = 4 := by rw [hE, if_pos (.inr ⟨rfl, hs⟩)]
      have hs' : decide (s = 0) = false := decide_eq_false hs
      clear hE
      go_enter Tryz.func59, Tryz.ntmps59
      go_wp2_with fail
      go_at_call 40
      refine (c1 _).mono ?_
      rintro e w2 ⟨rfl, rfl⟩
      go_wp2_with fail
      go_ret
      exact ⟨rfl, bel⟩
  · obtain rfl : E = 4 := by rw [hE, if_pos (.inl (by intro h; subst h; exact h0 hn))]
    clear hE
    have hp : (0 : Int) < n := by omega
    have hd : decide (0 < n) = true := decide_eq_true (by omega)
    replace hn := hide hn
    go_enter Tryz.func59, Tryz.ntmps59
    go_wp2_with fail
    go_at_call 40
    refine (c1 _).mono ?_
    rintro e w2 ⟨rfl, rfl⟩
    go_wp2_with fail
    go_ret
    exact ⟨rfl, bel⟩

set_option maxHeartbeats 1000000 in
set_option maxRecDepth 100000 in
theorem rcheck_is (r : Rc) (a : Option Addr) (cap n : Nat) (w : World) (S : SlW ec w a cap r.e) (hn : n = r.e.length) :
    Calls Tryz.prog 59 #[.agg #[.int .i64 r.k, .int .i64 r.s, .int .i64 r.n, .slice a n cap]] w fun e w' => e = .returned (.int .i64 (recE r)) ∧ Below w.heap.size w w' := by
  obtain ⟨k, s, m, l⟩ := r
  simp only at *
  by_cases h1 : k = 1
  · subst h1
    exact rcheck_one s m l a cap n w S hn
  by_cases h2 : k = 2 ∨ k = 3 ∨ k = 4
  · rw [show recE ⟨k, s, m, l⟩ = plainE k s m l by unfold recE plainE; rw [if_neg h1, if_pos h2]]
    rcases h2 with rfl | rfl | rfl
    · exact rcheck_2 s m l a cap n w hn
    · exact rcheck_3 s m l a cap n w hn
    · exact rcheck_4 s m l a cap n w hn
  · rw [show recE ⟨k, s, m, l⟩ = 4 by unfold recE; rw [if_neg h1, if_neg h2]]
    have c1 := fun W => in_any k 1 4 W
    rw [decide_eq_false (by omega)] at c1
    have bel := newB (Below.refl w.heap.size w) (.cells #[.int .i64 k, .int .i64 s, .int .i64 m, .slice a n cap] 93)
    clear h1 h2
    replace hn := hide hn
    go_enter Tryz.func59, Tryz.ntmps59
    go_wp2_with fail
    go_at_call 40
    refine (c1 _).mono ?_
    rintro e w2 ⟨rfl, rfl⟩
    go_wp2_with fail
    go_ret
    exact ⟨rfl, bel⟩

end Go.Proofs.YtjjfgmcgonkicaaGreatDoor
