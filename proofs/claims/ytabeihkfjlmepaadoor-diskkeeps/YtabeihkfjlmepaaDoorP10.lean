/-
  disk.Recover: what it answers; nothing that was there is written.
-/
import Derived.Deep.CutBlock
import Derived.Deep.RegionHeld3
import Derived.Lib.AppendZeros
import Derived.Test.YtabeihkfjlmepaaDoorP09
import Derived.Test.YtabeihkfjlmepaaDoorP08
import Derived.Test.YtabeihkfjlmepaaDoorP03
import Derived.Test.YtabeihkfjlmepaaDoorP07
namespace Go.Proofs.YtabeihkfjlmepaaDoor
open Go.RowKit
open Go.Lib (byteCells)

/-- What Recover says. -/
def AnsR (w : World) (D : Dk) (L : List Rc) (E : Int) (e : Ending) (w' : World) : Prop :=
  ∃ (a1 a2 a3 : Option Addr) (n1 n2 c1 c2 n3 G3 : Nat) (l : List Lrc), e = .returned (.tuple #[.agg #[.slice a1 n1 c1, .slice a2 n2 c2], .slice a3 n3 G3, .int .i64 E]) ∧ n1 = D.safe.length ∧ n2 = D.wait.length ∧ Sl w' a1 c1 (byteCells D.safe) ∧ Sl w' a2 c2 (byteCells D.wait) ∧ Recs w.heap.size w' a3 n3 G3 l ∧ l.map (·.r) = L ∧ Below w.heap.size w w'

theorem Recs.set2 {base : Nat} {w : World} {a : Option Addr} {n G g : Nat} {l : List Lrc} {c0 c1 : Value} (h : Recs base w a n G l) (B : Blk w g [c0, c1] 37) (u0 u1 : Value) : Recs base ((w.setCell ⟨g, 0, none⟩ u0).setCell ⟨g, 1, none⟩ u1) a n G l := by
  have one : ∀ {e : TypeId} {size m : Nat} {v : Value} {xs : List Value}, e ≠ 37 → w.ownsRow base e size v m xs → ((w.setCell ⟨g, 0, none⟩ u0).setCell ⟨g, 1, none⟩ u1).ownsRow base e size v m xs := by
    intro e size m v xs he o
    have hne : v.ownBlock ≠ some g := by
      rcases o.2 with ⟨rfl, _⟩ | ⟨g1, c1, cur1, rfl, _, h1, _⟩
      · intro e; cases e
      · intro e'
        have e1 : g1 = g := by simpa [Value.ownBlock] using e'
        subst e1
        have h2 := h1.symm.trans B
        simp only [Option.some.injEq, Obj.cells.injEq] at h2
        exact he h2.2.1
    exact ownsRow_setCell_other (ownsRow_setCell_other o (a := ⟨g, 0, none⟩) hne u0) (a := ⟨g, 1, none⟩) hne u1
  exact ⟨h.len, one (by decide) h.row, fun x hx => one (by decide) (h.own x hx)⟩

theorem tail_suffix : ∀ (n k : Nat) (l : List UInt8), l.length ≤ n → (tail k l).2.length ≤ l.length
  | 0, k, l, h => by
    obtain rfl := List.length_eq_zero_iff.1 (Nat.le_zero.1 h)
    rw [tail_stop (by rw [lnE_nil]; simp)]
    exact Nat.le_refl _
  | n + 1, k, l, h => by
    by_cases hs : k < 60 ∧ lnE l = 0
    · rw [tail_step hs]
      have := lnB_less hs.2
      have := tail_suffix n (k + 1) (lnB l) (by omega)
      simp only
      omega
    · rw [tail_stop hs]
      exact Nat.le_refl _

theorem keepM (n1 n2 : Nat) (rest : ByteArray) (safe wait KP t2 : List UInt8) (h1 : n1 = safe.length) (h2 : n2 = wait.length) (hkp : KP = wait.take (n2 - t2.length)) (hr : bytes rest = t2) (hle : t2.length ≤ wait.length) (few : n1 + n2 ≤ 60000) :
    ∃ m : Nat, IntKind.i64.wrap ((n2 : Int) - (rest.size : Int)) = (m : Int) ∧ (n2 : Int) - (rest.size : Int) = (m : Int) ∧ wrap64 (m : Int) = (m : Int) ∧ m ≤ n2 ∧ KP = wait.take m ∧ m = KP.length ∧ n1 + m = (safe ++ KP).length := by
  have hs : rest.size = t2.length := by rw [← hr, bytes_len]
  refine ⟨n2 - t2.length, ?_, ?_, ?_, Nat.sub_le _ _, hkp, ?_, ?_⟩
  · rw [hs, IntKind.wrap_i64]; omega
  · rw [hs]; omega
  · unfold wrap64; omega
  · rw [hkp, List.length_take]; omega
  · rw [hkp, List.length_append, List.length_take]; omega

set_option maxHeartbeats 2000000 in
set_option maxRecDepth 100000 in
theorem recover_any (d : Dk) (a1 a2 : Option Addr) (c1 c2 n1 n2 : Nat) (w : World) (hg : Gl w) (s1 : Sl w a1 c1 (byteCells d.safe)) (s2 : Sl w a2 c2 (byteCells d.wait)) (h1 : n1 = d.safe.length) (h2 : n2 = d.wait.length) (few : n1 + n2 ≤ 9223372036854775807) :
    Calls Tryd.prog 20 #[.agg #[.slice a1 n1 c1, .slice a2 n2 c2]] w (AnsR w (recD d) (recL d) (dkE d)) := by
  have cC := fun W g s => safe_any d a1 a2 c1 c2 n1 n2 W g s h1 h2 few
  have B1 := (Blk.laid w [.slice a1 n1 c1, .slice a2 n2 c2] 37 _ rfl).alc (.cells #[.slice none 0 0, .slice none 0 0] 37)
  have B2 := Blk.laid (w.alloc (.cells #[.slice a1 n1 c1, .slice a2 n2 c2] 37)) [.slice none 0 0, .slice none 0 0] 37 (w.heap.size + 1) (by simp)
  have bel := newB (newB (Below.refl w.heap.size w) (.cells #[.slice a1 n1 c1, .slice a2 n2 c2] 37)) (.cells #[.slice none 0 0, .slice none 0 0] 37)
  have hsz : w.heap.size ≤ ((w.alloc (.cells #[.slice a1 n1 c1, .slice a2 n2 c2] 37)).alloc (.cells #[.slice none 0 0, .slice none 0 0] 37)).heap.size := bel.size
  have S1 := s1.keep bel (Nat.le_refl _)
  have S2 := s2.keep bel (Nat.le_refl _)
  have g := hg.call bel
  have x0 := B1.cell 0
  have x1 := B1.cell 1
  have l1 := B1.lt
  by_cases h0 : dkE d = 0
  · have few' : n1 + n2 ≤ 60000 := by
      have := h0
      unfold dkE at this
      split at this
      · cases this
      · rw [h1, h2]; omega
    have hD : recD d = ⟨d.safe ++ kept d, []⟩ := if_pos h0
    have hL : recL d = dkL d ++ (tail (dkL d).length d.wait).1 := if_pos h0
    have hkp : kept d = d.wait.take (n2 - (tail (dkL d).length d.wait).2.length) := by unfold kept; rw [h2]
    have hcv := fun (W : World) (S : Sl W a2 c2 (byteCells d.wait)) => run_str S h2
    rw [hD, hL, h0]
    rw [h0] at cC
    obtain ⟨i0, hi, hz0, hz1, hz2⟩ := info_parts infoRec
    have hl60 := dkL_le d
    generalize kept d = KP at *
    generalize dkL d = L0 at *
    generalize hTL : tail L0.length d.wait = TL at *
    clear hD hL h0
    replace h1 := hide h1
    replace h2 := hide h2
    replace hkp := hide hkp
    replace hTL := hide hTL
    go_enter Tryd.func20, Tryd.ntmps20
    go_wp2_with fail
    generalize World.alloc (World.alloc w _) _ = w2 at *
    go_at_call 41
    refine (cC _ g S1).mono ?_
    rintro e w3 ⟨a3, n3, G3, l3, rfl, R3, hl3, b3⟩
    clear x0 x1 l1
    replace B1 := B1.keep b3 B1.lt
    replace B2 := B2.keep b3 B2.lt
    replace S1 := S1.call b3
    replace S2 := S2.call b3
    replace g := g.call b3
    replace bel := belowCall bel b3
    replace R3 := R3.down hsz
    have x0 : w3.cell? ⟨w.heap.size, 0, none⟩ = some (.slice a1 n1 c1) := B1.cell 0
    have x1 : w3.cell? ⟨w.heap.size, 1, none⟩ = some (.slice a2 n2 c2) := B1.cell 1
    have l1 := B1.lt
    have hcv3 := hcv w3 S2
    have hn3 : n3 = L0.length := by rw [R3.len, ← hl3, List.length_map]
    have h60 : n3 ≤ 60 := by rw [hn3]; exact hl60
    replace hl3 := hide hl3
    replace hn3 := hide hn3
    go_upto_block 0 with fail
    go_cut [5, 7, 8, 9, 10] from 24 to 39 (fun s5 s7 s8 s9 s10 wx => ∃ (rest : ByteArray) (k G : Nat) (ao : Option Addr) (l : List Lrc), s5 = .slice ao k G ∧ s7 = .string rest ∧ Recs w.heap.size wx ao k G l ∧ Hid (l.map (·.r) = L0 ++ TL.1) ∧ Hid (bytes rest = TL.2) ∧ Blk wx w.heap.size [.slice a1 n1 c1, .slice a2 n2 c2] 37 ∧ Blk wx (w.heap.size + 1) [.slice none 0 0, .slice none 0 0] 37 ∧ Below w.heap.size w wx)
    case first =>
      go_wp2_with fail
      go_loopw [5, 7] (fun s5 s7 wr => ∃ (rest : ByteArray) (k G : Nat) (ao : Option Addr) (l : List Lrc) (more : List Rc), s5 = .slice ao k G ∧ s7 = .string rest ∧ Recs w.heap.size wr ao k G l ∧ k ≤ 60 ∧ rest.size ≤ 60000 ∧ Hid (l.map (·.r) = L0 ++ more) ∧ Hid (TL = (more ++ (tail k (bytes rest)).1, (tail k (bytes rest)).2)) ∧ Blk wr w.heap.size [.slice a1 n1 c1, .slice a2 n2 c2] 37 ∧ Blk wr (w.heap.size + 1) [.slice none 0 0, .slice none 0 0] 37 ∧ Below w.heap.size w wr) (fun _ s7 _ => strLen s7)
      case atStart => exact ⟨_, n3, G3, a3, l3, [], rfl, rfl, R3, h60, by show (ofB d.wait).size ≤ _; rw [ofB_size]; have := h2.out; omega, by show _ = _; rw [hl3.out, List.append_nil], by show _ = _; rw [← hTL.out, show bytes ⟨d.wait.toArray⟩ = d.wait from bytes_ofB _, hn3.out]; rfl, B1, B2, bel⟩
      case round =>
        clear x0 x1 l1 B1 B2 bel hcv3
        obtain ⟨rest, k, G, ao, l, more, rfl, rfl, R, hk, hr, hm, ht, B1, B2, belr⟩ := hrel
        by_cases hk6 : k < 60
        · have hk6' : (k : Int) < 60 := by omega
          have cF := fun W g => first_any rest W g hr
          have gr := hg.call belr
          have hstop : lnE (bytes rest) ≠ 0 → TL = (more, bytes rest) := by
            intro h
            rw [ht.out, tail_stop (fun h' => h h'.2), List.append_nil]
          have hstep : lnE (bytes rest) = 0 → TL = (more ++ [lnR (bytes rest)] ++ (tail (k + 1) (lnB (bytes rest))).1, (tail (k + 1) (lnB (bytes rest))).2) := by
            intro h
            rw [ht.out, tail_step ⟨hk6, h⟩]
            simp
          have hlt : lnE (bytes rest) = 0 → (ofB (lnB (bytes rest))).size < rest.size := by
            intro h
            rw [ofB_size, ← bytes_len rest]
            exact lnB_less h
          have hbB : bytes (ofB (lnB (bytes rest))) = lnB (bytes rest) := bytes_ofB _
          obtain ⟨PB, hPB⟩ : ∃ PB, PB = ofB (lnB (bytes rest)) := ⟨_, rfl⟩
          rw [← hbB] at hstep
          rw [← hPB] at hstep hlt
          simp only [← hPB] at cF
          clear hPB hbB
          generalize lnR (bytes rest) = PR at *
          generalize lnE (bytes rest) = PE at *
          obtain ⟨K, s', m', es⟩ := PR
          simp only at *
          obtain ⟨ln, hln⟩ : ∃ ln, ln = es.length := ⟨_, rfl⟩
          rw [← hln] at cF
          replace hln := hide hln
          go_wp2_with fail
          go_at_call 42
          refine (cF _ gr).mono ?_
          rintro e w4 ⟨a4, G4, rfl, o4, b4⟩
          have bel4 := belowCall belr b4
          have R4 := R.call b4
          have BX := Blk.laid w4 [.int .i64 K, .int .i64 s', .int .i64 m', .slice a4 ln G4] 24 _ rfl
          have bq := newB (Below.refl w4.heap.size w4) (.cells #[.int .i64 K, .int .i64 s', .int .i64 m', .slice a4 ln G4] 24)
          have bel5 := belowCall bel4 bq
          have R5 := R4.call bq
          replace B1 := (B1.keep b4 B1.lt).keep bq (Nat.lt_of_lt_of_le B1.lt b4.size)
          replace B2 := (B2.keep b4 B2.lt).keep bq (Nat.lt_of_lt_of_le B2.lt b4.size)
          have o5 := owndown (o4.alloc (.cells #[.int .i64 K, .int .i64 s', .int .i64 m', .slice a4 ln G4] 24)) belr.size
          by_cases hp0 : PE = 0
          · subst hp0
            have hst := hide (hstep rfl)
            have hlt' := hlt rfl
            clear hstep hstop hlt
            go_upto_region 8 with fail
            generalize w4.heap.size = gX at *
            generalize w4.alloc _ = w5 at *
            have y0 := BX.cell 0
            have y1 := BX.cell 1
            have y2 := BX.cell 2
            have y3 := BX.cell 3
            have lX := BX.lt
            go_wp2_with (at_builtin; refine wpList_append_new w5 rfl (.tmp 35) (.tmp 37) 34 rfl w.heap.size 24 i0 _ 4 48 Tryd.underlying34 hi hz0 hz1 hz2 rfl (by decide) (.slice ao k G) k _ (by rfl) R5.row 1 #[.int .i64 K, .int .i64 s', .int .i64 m', .slice a4 ln G4] 24 (by rfl) (by rfl) (by simp [Value.oneCell']) (by decide) (by unfold maxLen; omega) (by omega) bel5.size ?_)
            intro v7 w7 own7 grow7 went7
            have bel7 := belowGrown bel5 R5.row grow7 (Nat.le_refl _) bel5.size
            have B17 := B1.grown grow7 (fun q e h => ownNe R5.row B1 (by decide) (by rw [e, h]))
            have B27 := B2.grown grow7 (fun q e h => ownNe R5.row B2 (by decide) (by rw [e, h]))
            obtain ⟨a8, G8, rfl, R8⟩ := R5.snoc (x := ⟨⟨K, s', m', es⟩, a4, G4⟩) (by show World.ownsRow _ _ _ _ (.slice a4 es.length G4) es.length _; rw [← hln.out]; exact o5) (by unfold Lrc.cells; simp only; rw [← hln.out]; exact own7) grow7
            go_wp2_with fail
            go_roundw
            case rel => exact ⟨PB, k + 1, G8, a8, l ++ [⟨⟨K, s', m', es⟩, a4, G4⟩], more ++ [⟨K, s', m', es⟩], rfl, rfl, R8, by omega, by omega, by show _ = _; rw [List.map_append, hm.out, List.append_assoc]; rfl, hst, B17, B27, bel7⟩
            case measure => exact hlt'
          · have hd : decide (PE = 0) = false := decide_eq_false hp0
            have hst := hstop hp0
            go_upto_region 7 with fail
            generalize w4.alloc _ = w5 at *
            go_wp2_with fail
            go_meet
            case rel => exact ⟨rest, k, G, ao, l, rfl, rfl, R5, by show _ = _; rw [hm.out, hst], by show _ = _; rw [hst], B1, B2, bel5⟩
        · have hk6' : ¬ (k : Int) < 60 := by omega
          have hst : TL = (more, bytes rest) := by
            rw [ht.out, tail_stop (fun h' => hk6 h'.1), List.append_nil]
          go_wp2_with fail
          go_meet
          case rel => exact ⟨rest, k, G, ao, l, rfl, rfl, R, by show _ = _; rw [hm.out, hst], by show _ = _; rw [hst], B1, B2, belr⟩
    case rest =>
      clear x0 x1 l1 B1 B2 bel hcv3 cC S1 S2 g R3
      obtain ⟨rest, k, G, ao, l, rfl, rfl, R, hm, hrst, B1, B2, bel⟩ := hcut
      obtain ⟨m, hmi, hmi', hmw, hmn, hKP, hml, hJL⟩ := keepM n1 n2 rest d.safe d.wait KP TL.2 h1.out h2.out hkp.out hrst.out (by rw [← hTL.out]; exact tail_suffix d.wait.length L0.length d.wait (Nat.le_refl _)) few'
      have hnm : n1 + m ≤ 1000000 := Nat.le_trans (Nat.add_le_add_left hmn n1) (Nat.le_trans few' (by decide))
      have S1 := s1.keep bel (Nat.le_refl _)
      have S2 := s2.keep bel (Nat.le_refl _)
      have cJ := fun W s t => join_any a1 a2 c1 c2 n1 m d.safe KP W s t h1.out hml hnm
      have x0 : wc.cell? ⟨w.heap.size, 0, none⟩ = some (.slice a1 n1 c1) := B1.cell 0
      have x1 : wc.cell? ⟨w.heap.size, 1, none⟩ = some (.slice a2 n2 c2) := B1.cell 1
      have l1 := B1.lt
      have kJ : ∀ W, Below wc.heap.size wc W → Calls Tryd.prog 40 #[.slice a1 n1 c1, .slice a2 m c2] W fun e w' => e = .returned (.slice (some ⟨W.heap.size, 0, none⟩) (n1 + m) (n1 + m)) ∧ w'.cell? ⟨w.heap.size, 0, none⟩ = some (.slice a1 n1 c1) ∧ w'.cell? ⟨w.heap.size, 1, none⟩ = some (.slice a2 n2 c2) ∧ w'.cell? ⟨w.heap.size + 1, 0, none⟩ = some (.slice none 0 0) ∧ w'.cell? ⟨w.heap.size + 1, 1, none⟩ = some (.slice none 0 0) ∧ w'.frozen? ⟨w.heap.size + 1, 0, none⟩ = false ∧ w'.frozen? ⟨w.heap.size + 1, 1, none⟩ = false ∧ w.heap.size + 1 < w'.heap.size ∧ Blk w' W.heap.size (byteCells (d.safe ++ KP)) 5 ∧ Below wc.heap.size wc w' := by
        intro W h
        refine (cJ W (S1.call h) (hKP ▸ (S2.call h).takeU m)).mono ?_
        rintro e w' ⟨rfl, BJ, b⟩
        have bb := belowCall h b
        have b2' := B2.keep bb B2.lt
        exact ⟨rfl, (B1.keep bb B1.lt).cell 0, (B1.keep bb B1.lt).cell 1, b2'.cell 0, b2'.cell 1, b2'.free 0, b2'.free 1, b2'.lt, BJ, bb⟩
      have k0 : Below wc.heap.size wc wc.drew := belowDrew (Below.refl _ _)
      have hc2 : n2 ≤ c2 := by have := s2.le; rw [Lib.byteCells_length, ← h2.out] at this; exact this
      have hmc : m ≤ c2 := Nat.le_trans hmn hc2
      have hmc' : (m : Int) ≤ c2 := Int.ofNat_le.2 hmc
      clear few few' hl60 hn3 h60 hl3 hcv hkp
      have ne1 : ¬ w.heap.size + 1 = w.heap.size := by omega
      replace hml := hide hml
      replace hJL := hide hJL
      replace hKP := hide hKP
      clear cJ
      go_upto_region 10 with fail
      go_region_held3 (fun w' => w'.cell? ⟨w.heap.size, 0, none⟩ = some (.slice a1 n1 c1) ∧ w'.cell? ⟨w.heap.size, 1, none⟩ = some (.slice a2 n2 c2)) (go_keep)
        (first
          | (go_at_call 40; refine (kJ _ k0).mono ?_; rintro e wB ⟨rfl, p0, p1, q0, q1, fq0, fq1, lq, BB', zB⟩))
      all_goals (
        go_wp2_with fail
        have l2 := B2.lt
        have B9 := put2 (B2.keep zB B2.lt) (.slice (some ⟨wc.heap.size, 0, none⟩) (n1 + m) (n1 + m)) (.slice none 0 0)
        have bel9 := below2s (belowCall bel zB) (Nat.le_succ _) (.slice (some ⟨wc.heap.size, 0, none⟩) (n1 + m) (n1 + m)) (.slice none 0 0)
        have T1 : Blk _ wc.heap.size _ _ := ((BB'.other (g' := w.heap.size + 1) 0 (.slice (some ⟨wc.heap.size, 0, none⟩) (n1 + m) (n1 + m)) (by show _ ≠ wc.heap.size; omega)).other (g' := w.heap.size + 1) 1 (.slice none 0 0) (by show _ ≠ wc.heap.size; omega))
        have R9 := (R.call zB).set2 (B2.keep zB B2.lt) (.slice (some ⟨wc.heap.size, 0, none⟩) (n1 + m) (n1 + m)) (.slice none 0 0)
        have i0 := B9.cell 0
        have i1 := B9.cell 1
        exact bodyPost_ret (v := .tuple #[.agg #[.slice (some ⟨wc.heap.size, 0, none⟩) (n1 + m) (n1 + m), .slice none 0 0], .slice ao k G, .int .i64 0]) (by simp [results, Tryd.results20, go_sem, i0, i1]) rfl ⟨_, none, _, n1 + m, 0, n1 + m, 0, k, G, l, rfl, hJL.out, rfl, ownBlkU T1 hJL.out hnm, Sl.ofNil _, R9, hm.out, bel9⟩)
  · have hD : recD d = dk0 := if_neg h0
    have hL : recL d = [] := if_neg h0
    rw [hD, hL]
    have hd : decide (dkE d = 0) = false := decide_eq_false h0
    generalize dkE d = E at *
    replace h1 := hide h1
    replace h2 := hide h2
    clear hD hL
    go_enter Tryd.func20, Tryd.ntmps20
    go_wp2_with fail
    generalize World.alloc (World.alloc w _) _ = w2 at *
    go_at_call 41
    refine (cC _ g S1).mono ?_
    rintro e w3 ⟨a3, n3, G3, l3, rfl, R3, hl3, b3⟩
    clear x0 x1 l1
    replace B2 := B2.keep b3 B2.lt
    replace bel := belowCall bel b3
    have y0 := B2.cell 0
    have y1 := B2.cell 1
    have f0 := B2.free 0
    have f1 := B2.free 1
    have l2 := B2.lt
    go_wp2_with fail
    have B9 := put2 B2 (.slice none 0 0) (.slice none 0 0)
    have bel9 := below2s bel (Nat.le_succ _) (.slice none 0 0) (.slice none 0 0)
    have i0 := B9.cell 0
    have i1 := B9.cell 1
    exact bodyPost_ret (v := .tuple #[.agg #[.slice none 0 0, .slice none 0 0], .slice none 0 0, .int .i64 E]) (by simp [results, Tryd.results20, go_sem, i0, i1]) rfl ⟨none, none, none, 0, 0, 0, 0, 0, 0, [], rfl, rfl, rfl, Sl.ofNil _, Sl.ofNil _, Recs.nil _ _, rfl, bel9⟩

end Go.Proofs.YtabeihkfjlmepaaDoor

/-
  The closed fact 'filed': one record is safe, another one half there.
-/
namespace Go.Proofs.YtabeihkfjlmepaaDoor
open Go.RowKit
open Go.Lib (byteCells)

def rD2 : Rc := ⟨4, 0, 2, []⟩
def rD3 : Rc := ⟨4, 0, 3, []⟩
def tD2 : List UInt8 := [100, 114, 111, 112, 32, 50, 10]
def tD3 : List UInt8 := [100, 114, 111, 112, 32, 51, 10]

theorem d2_text : recE rD2 = 0 ∧ recT rD2 ++ [10] = tD2 := by decide +kernel
theorem d3_text : recE rD3 = 0 ∧ recT rD3 ++ [10] = tD3 := by decide +kernel
theorem d2_len : (recT rD2).length = 6 ∧ (recT rD3).length = 6 := by decide +kernel

theorem log2 : logT [rD2] = tD2 := by rw [logT_one]; exact d2_text.2
theorem scan2 : scan 0 tD2 = ([rD2], 0) := by
  rw [← log2]
  refine scan_log0 _ (fun r hr => ?_) (by decide)
  simp only [List.mem_cons, List.not_mem_nil, or_false] at hr
  subst hr
  exact d2_text.1

theorem e0 : dkE dk0 = 0 := rfl
theorem e1 : dkE ⟨[], tD2⟩ = 0 := by unfold dkE; rw [if_neg (by decide)]; rfl
theorem e2 (l : List UInt8) (h : l.length ≤ 10) : dkE ⟨tD2, l⟩ = 0 := by
  unfold dkE
  rw [if_neg (by simp [tD2]; omega), scan2]

theorem f1 : dputE dk0 rD2 = 0 ∧ dputD dk0 rD2 = ⟨[], tD2⟩ := by
  have h : dputE dk0 rD2 = 0 := by
    unfold dputE
    rw [if_neg (by simp [e0]), if_neg (by simp [d2_text.1]), if_neg (by rw [d2_len.1]; decide)]
  refine ⟨h, ?_⟩
  unfold dputD
  rw [if_pos h, d2_text.2]
  rfl

theorem f2 : syncE ⟨[], tD2⟩ = 0 ∧ syncD ⟨[], tD2⟩ = ⟨tD2, []⟩ := by
  have h : syncE ⟨[], tD2⟩ = 0 := by
    unfold syncE
    rw [if_neg (by simp [e1])]
    exact e2 [] (by decide)
  refine ⟨h, ?_⟩
  unfold syncD
  rw [if_pos h]
  rfl

theorem f3 : dputE ⟨tD2, []⟩ rD3 = 0 ∧ dputD ⟨tD2, []⟩ rD3 = ⟨tD2, tD3⟩ := by
  have h : dputE ⟨tD2, []⟩ rD3 = 0 := by
    unfold dputE
    rw [if_neg (by simp [e2]), if_neg (by simp [d3_text.1]), if_neg (by rw [d2_len.2]; decide)]
  refine ⟨h, ?_⟩
  unfold dputD
  rw [if_pos h, d3_text.2]
  rfl

theorem f4 : crashE ⟨tD2, tD3⟩ 4 = 0 ∧ crashD ⟨tD2, tD3⟩ 4 = ⟨tD2, [100, 114, 111, 112]⟩ := by
  have h : crashE ⟨tD2, tD3⟩ 4 = 0 := by
    unfold crashE
    rw [if_neg (by simp [e2, tD3]), if_neg (by decide)]
  refine ⟨h, ?_⟩
  unfold crashD
  rw [if_pos h]
  rfl

theorem f5 : dkE ⟨tD2, [100, 114, 111, 112]⟩ = 0 ∧ recD ⟨tD2, [100, 114, 111, 112]⟩ = ⟨tD2, []⟩ ∧ recL ⟨tD2, [100, 114, 111, 112]⟩ = [rD2] := by
  have h := e2 [100, 114, 111, 112] (by decide)
  have hL : dkL ⟨tD2, [100, 114, 111, 112]⟩ = [rD2] := by
    unfold dkL
    rw [if_pos h, scan2]
  have hl : lnE [100, 114, 111, 112] = 8 := by
    unfold lnE
    rw [show lfY [100, 114, 111, 112] = false by decide +kernel]
    rfl
  have ht : tail 1 [100, 114, 111, 112] = ([], [100, 114, 111, 112]) := tail_stop (by rw [hl]; simp)
  refine ⟨h, ?_, ?_⟩
  · unfold recD kept
    rw [if_pos h, hL]
    simp only [List.length_cons, List.length_nil, Nat.zero_add, ht]
    rfl
  · unfold recL
    rw [if_pos h, hL]
    simp only [List.length_cons, List.length_nil, Nat.zero_add, ht]
    rfl

set_option maxHeartbeats 2000000 in
set_option maxRecDepth 100000 in
theorem filed_any (w : World) (hg : Gl w) : Calls Tryd.prog 14 #[] w fun e w' => e = .returned (.bool true) ∧ Below w.heap.size w w' := by
  have c1 := fun W g => dput_any dk0 rD2 none none none 0 0 0 0 0 0 W g (Sl.ofNil _) (Sl.ofNil _) (SlW.ofNil ec W) rfl rfl rfl (by decide)
  rw [f1.1, f1.2] at c1
  have c2 := fun a1 a2 k1 k2 W g s t => sync_any ⟨[], tD2⟩ a1 a2 k1 k2 0 7 W g s t rfl rfl (by decide)
  rw [f2.1, f2.2] at c2
  have c3 := fun a1 a2 k1 k2 W g s t => dput_any ⟨tD2, []⟩ rD3 a1 a2 none k1 k2 0 7 0 0 W g s t (SlW.ofNil ec W) rfl rfl rfl (by decide)
  rw [f3.1, f3.2] at c3
  have c4 := fun a1 a2 k1 k2 W g s t => crash_any ⟨tD2, tD3⟩ 4 a1 a2 k1 k2 7 7 W g s t rfl rfl (by decide)
  rw [f4.1, f4.2] at c4
  have c5 := fun a1 a2 k1 k2 W g s t => recover_any ⟨tD2, [100, 114, 111, 112]⟩ a1 a2 k1 k2 7 4 W g s t rfl rfl (by decide)
  rw [f5.1, f5.2.1, f5.2.2] at c5
  simp only [rD2, rD3] at c1 c3
  go_enter Tryd.func14, Tryd.ntmps14
  go_wp2_with fail
  go_at_call 16
  refine (c1 _ hg).mono ?_
  rintro e w1 ⟨a1, a2, n1, n2, k1, k2, rfl, hn1, hn2, s1, s2, b1⟩
  obtain rfl : n1 = 0 := hn1
  obtain rfl : n2 = 7 := hn2
  clear c1
  have B := Blk.laid w1 [.slice a1 0 k1, .slice a2 7 k2] 37 _ rfl
  have bel := newB b1 (.cells #[.slice a1 0 k1, .slice a2 7 k2] 37)
  replace s1 := s1.alloc (.cells #[.slice a1 0 k1, .slice a2 7 k2] 37)
  replace s2 := s2.alloc (.cells #[.slice a1 0 k1, .slice a2 7 k2] 37)
  have g := hg.call bel
  have lw : w.heap.size ≤ w1.heap.size := b1.size
  clear b1
  go_upto_region 2 with fail
  generalize w1.heap.size = gD at *
  generalize w1.alloc _ = w2 at *
  have x0 := B.cell 0
  have x1 := B.cell 1
  have lB := B.lt
  go_wp2_with fail
  go_at_call 17
  refine (c2 _ _ _ _ _ g s1 s2).mono ?_
  rintro e w3 ⟨a3, b3, n1, n2, k3, m3, rfl, hn1, hn2, t1, t2, bb⟩
  obtain rfl : n1 = 7 := hn1
  obtain rfl : n2 = 0 := hn2
  clear x0 x1 lB c2
  replace B := B.keep bb B.lt
  replace g := g.call bb
  replace bel := belowCall bel bb
  have x0 := B.cell 0
  have x1 := B.cell 1
  have y0 := B.free 0
  have y1 := B.free 1
  have lB := B.lt
  have B' := put2 B (.slice a3 7 k3) (.slice b3 0 m3)
  have bel' := below2s bel lw (.slice a3 7 k3) (.slice b3 0 m3)
  have s1' := slU_set (i := 1) (slU_set (i := 0) t1 B (slices_plain _ _ _ _ _ _) (.slice a3 7 k3)) (B.set 0 (.slice a3 7 k3)) (slices_plain _ _ _ _ _ _) (.slice b3 0 m3)
  have s2' := slU_set (i := 1) (slU_set (i := 0) t2 B (slices_plain _ _ _ _ _ _) (.slice a3 7 k3)) (B.set 0 (.slice a3 7 k3)) (slices_plain _ _ _ _ _ _) (.slice b3 0 m3)
  clear t1 t2 s1 s2
  go_upto_region 3 with fail
  clear x0 x1 y0 y1 lB B bel bb
  have g' := hg.call bel'
  clear g
  generalize World.setCell (World.setCell w3 _ _) _ _ = v3 at *
  have B := B'
  have bel := bel'
  have s1 := s1'
  have s2 := s2'
  have g := g'
  clear B' bel' s1' s2' g'
  have x0 := B.cell 0
  have x1 := B.cell 1
  have lB := B.lt
  go_wp2_with fail
  go_at_call 16
  refine (c3 _ _ _ _ _ g s1 s2).mono ?_
  rintro e w4 ⟨a4, b4, n1, n2, k4, m4, rfl, hn1, hn2, t1, t2, bb⟩
  obtain rfl : n1 = 7 := hn1
  obtain rfl : n2 = 7 := hn2
  clear x0 x1 lB c3
  replace B := B.keep bb B.lt
  replace g := g.call bb
  replace bel := belowCall bel bb
  have x0 := B.cell 0
  have x1 := B.cell 1
  have y0 := B.free 0
  have y1 := B.free 1
  have lB := B.lt
  have B' := put2 B (.slice a4 7 k4) (.slice b4 7 m4)
  have bel' := below2s bel lw (.slice a4 7 k4) (.slice b4 7 m4)
  have s1' := slU_set (i := 1) (slU_set (i := 0) t1 B (slices_plain _ _ _ _ _ _) (.slice a4 7 k4)) (B.set 0 (.slice a4 7 k4)) (slices_plain _ _ _ _ _ _) (.slice b4 7 m4)
  have s2' := slU_set (i := 1) (slU_set (i := 0) t2 B (slices_plain _ _ _ _ _ _) (.slice a4 7 k4)) (B.set 0 (.slice a4 7 k4)) (slices_plain _ _ _ _ _ _) (.slice b4 7 m4)
  clear t1 t2 s1 s2
  go_upto_region 4 with fail
  clear x0 x1 y0 y1 lB B bel bb
  have g' := hg.call bel'
  clear g
  generalize World.setCell (World.setCell w4 _ _) _ _ = v4 at *
  have B := B'
  have bel := bel'
  have s1 := s1'
  have s2 := s2'
  have g := g'
  clear B' bel' s1' s2' g'
  have x0 := B.cell 0
  have x1 := B.cell 1
  have lB := B.lt
  go_wp2_with fail
  go_at_call 18
  refine (c4 _ _ _ _ _ g s1 s2).mono ?_
  rintro e w5 ⟨a5, b5, n1, n2, k5, m5, rfl, hn1, hn2, t1, t2, bb⟩
  obtain rfl : n1 = 7 := hn1
  obtain rfl : n2 = 4 := hn2
  clear x0 x1 lB c4
  replace B := B.keep bb B.lt
  replace g := g.call bb
  replace bel := belowCall bel bb
  have x0 := B.cell 0
  have x1 := B.cell 1
  have y0 := B.free 0
  have y1 := B.free 1
  have lB := B.lt
  have B' := put2 B (.slice a5 7 k5) (.slice b5 4 m5)
  have bel' := below2s bel lw (.slice a5 7 k5) (.slice b5 4 m5)
  have s1' := slU_set (i := 1) (slU_set (i := 0) t1 B (slices_plain _ _ _ _ _ _) (.slice a5 7 k5)) (B.set 0 (.slice a5 7 k5)) (slices_plain _ _ _ _ _ _) (.slice b5 4 m5)
  have s2' := slU_set (i := 1) (slU_set (i := 0) t2 B (slices_plain _ _ _ _ _ _) (.slice a5 7 k5)) (B.set 0 (.slice a5 7 k5)) (slices_plain _ _ _ _ _ _) (.slice b5 4 m5)
  clear t1 t2 s1 s2
  go_upto_region 5 with fail
  clear x0 x1 y0 y1 lB B bel bb
  have g' := hg.call bel'
  clear g
  generalize World.setCell (World.setCell w5 _ _) _ _ = v5 at *
  have B := B'
  have bel := bel'
  have s1 := s1'
  have s2 := s2'
  have g := g'
  clear B' bel' s1' s2' g'
  have x0 := B.cell 0
  have x1 := B.cell 1
  have lB := B.lt
  go_wp2_with fail
  go_at_call 20
  refine (c5 _ _ _ _ _ g s1 s2).mono ?_
  rintro e w6 ⟨a6, b6, d6, n1, n2, k6, m6, n3, G6, l6, rfl, hn1, hn2, t1, t2, R, hl6, bb⟩
  obtain rfl : n1 = 7 := hn1
  obtain rfl : n2 = 0 := hn2
  obtain ⟨x, rfl, hx⟩ := List.map_eq_singleton_iff.1 hl6
  obtain rfl : n3 = 1 := R.len
  clear x0 x1 lB c5 s1 s2
  replace B := B.keep bb B.lt
  replace bel := belowCall bel bb
  have x0 := B.cell 0
  have x1 := B.cell 1
  have y0 := B.free 0
  have y1 := B.free 1
  have lB := B.lt
  have B' := put2 B (.slice a6 7 k6) (.slice b6 0 m6)
  have bel' := below2s bel lw (.slice a6 7 k6) (.slice b6 0 m6)
  have s1' := slU_set (i := 1) (slU_set (i := 0) t1 B (slices_plain _ _ _ _ _ _) (.slice a6 7 k6)) (B.set 0 (.slice a6 7 k6)) (slices_plain _ _ _ _ _ _) (.slice b6 0 m6)
  have R' := R.set2 B (.slice a6 7 k6) (.slice b6 0 m6)
  clear t1 t2
  go_upto_region 6 with fail
  clear x0 x1 y0 y1 lB B bel bb R
  generalize World.setCell (World.setCell w6 _ _) _ _ = v6 at *
  obtain ⟨a9, G9, e9, S9, _, _⟩ := SlW.ofOwn Lrc.four (by decide) R'.row
  simp only [Value.slice.injEq, true_and] at e9
  obtain ⟨rfl, rfl⟩ := e9
  obtain ⟨bl, ol, rfl, hbl⟩ := S9.where Lrc.four (by decide) (by simp)
  have z2 := S9.cell Lrc.four 0 2 x _ rfl rfl
  rw [hx] at z2
  simp only [Nat.zero_mul, Nat.add_zero, rD2] at z2
  have hcv := run_str s1' (show 7 = _ from rfl)
  have x0 := B'.cell 0
  have x1 := B'.cell 1
  have lB := B'.lt
  go_wp2_with fail
  go_ret
  exact ⟨rfl, bel'⟩

end Go.Proofs.YtabeihkfjlmepaaDoor

/-
  slices.Equal at entries; the reference's SameRec: whether two records are alike.
-/
namespace Go.Proofs.YtabeihkfjlmepaaDoor
open Go.RowKit

set_option maxHeartbeats 1000000 in
set_option maxRecDepth 100000 in
theorem equalE (a1 a2 : Option Addr) (c1 c2 n1 n2 : Nat) (l m : List Nt) (w : World) (r1 : SlW ec w a1 c1 l) (r2 : SlW ec w a2 c2 m) (hn1 : n1 = l.length) (hn2 : n2 = m.length) :
    Calls Tryd.prog 34 #[.slice a1 n1 c1, .slice a2 n2 c2] w fun e w' => e = .returned (.bool (decide (l = m))) ∧ Below w.heap.size w w' := by
  have hl : n1 ≤ 9223372036854775807 := by have := r1.le; have := r1.max; omega
  by_cases hnm : n1 = n2
  · subst hnm
    obtain ⟨E, hE⟩ : ∃ E, E = decide (l = m) := ⟨_, rfl⟩
    rw [← hE]
    replace hE := hide hE
    replace hn1 := hide hn1
    replace hn2 := hide hn2
    go_enter Tryd.func34, Tryd.ntmps34
    go_wp2_with fail
    go_loopw [13] (fun i wr => ∃ (k q : Nat), k ≤ n1 ∧ i = .int .i64 k ∧ wr = w.drewN q ∧ Hid (l.take k = m.take k)) (fun i _ => n1 - (intOf i).toNat)
    case atStart => exact ⟨0, 0, Nat.zero_le _, rfl, rfl, hide (by simp)⟩
    case round =>
      obtain ⟨k, q, hk, rfl, rfl, hA⟩ := hrel
      by_cases hlt : k < n1
      · have hk1 : k < l.length := by rw [← hn1.out]; exact hlt
        have hk2 : k < m.length := by rw [← hn2.out]; exact hlt
        obtain ⟨b1, o1, rfl, -⟩ := r1.where ec_three (by decide) (by intro h; subst h; simp at hk1)
        obtain ⟨b2, o2, rfl, -⟩ := r2.where ec_three (by decide) (by intro h; subst h; simp at hk2)
        obtain ⟨x, hx⟩ : ∃ x, l[k]? = some x := ⟨_, List.getElem?_eq_getElem hk1⟩
        obtain ⟨y, hy⟩ : ∃ y, m[k]? = some y := ⟨_, List.getElem?_eq_getElem hk2⟩
        have s1 := r1.drewN q
        have s2 := r2.drewN q
        have d0 := s1.cell ec_three k 0 x _ hx rfl
        have d1 := s1.cell ec_three k 1 x _ hx rfl
        have d2 := s1.cell ec_three k 2 x _ hx rfl
        have e0 := s2.cell ec_three k 0 y _ hy rfl
        have e1 := s2.cell ec_three k 1 y _ hy rfl
        have e2 := s2.cell ec_three k 2 y _ hy rfl
        simp only [Nat.add_zero] at d0 e0
        have hyes : x = y → Hid (l.take (k + 1) = m.take (k + 1)) := by
          intro h
          rw [List.take_add_one, List.take_add_one, hA.out, hx, hy, h]
          exact hide rfl
        have hno : x ≠ y → E = false := by
          intro h
          rw [hE.out]
          refine decide_eq_false (fun e => h ?_)
          rw [e, hy] at hx
          exact (Option.some.inj hx).symm
        obtain ⟨x0, x1, x2⟩ := x
        obtain ⟨y0, y1, y2⟩ := y
        simp only at *
        clear s1 s2 r1 r2 hk1 hk2 hx hy
        generalize hwq : w.drewN q = wq at *
        replace hwq := hide hwq
        by_cases h0 : x0 = y0
        · by_cases h1 : x1 = y1
          · by_cases h2 : x2 = y2
            · subst h0
              subst h1
              subst h2
              have hY := hyes rfl
              clear hno hyes
              go_wp2_with fail
              go_region
              all_goals go_wp2
              all_goals go_roundw
              case rel => exact ⟨k + 1, q + 1, by omega, by go_num, by rw [← hwq.out]; rfl, hY⟩
              case measure => simp [intOf]; omega
            · obtain rfl := hno (by intro e; simp at e; exact h2 e.2.2)
              subst h0
              subst h1
              clear hyes
              go_wp2_with fail
              go_region
              all_goals go_wp2
              all_goals go_ret
              exact ⟨rfl, by rw [← hwq.out]; exact belowDrewN (Below.refl _ _) (q + 1)⟩
          · obtain rfl := hno (by intro e; simp at e; exact h1 e.2.1)
            subst h0
            clear hyes
            go_wp2_with fail
            go_region
            all_goals go_wp2
            all_goals go_ret
            exact ⟨rfl, by rw [← hwq.out]; exact belowDrewN (Below.refl _ _) (q + 1)⟩
        · obtain rfl := hno (by intro e; simp at e; exact h0 e.1)
          clear hyes
          go_wp2_with fail
          go_region
          all_goals go_wp2
          all_goals go_ret
          exact ⟨rfl, by rw [← hwq.out]; exact belowDrewN (Below.refl _ _) (q + 1)⟩
      · obtain rfl : n1 = k := by omega
        obtain rfl : E = true := by
          rw [hE.out]
          have := hA.out
          rw [List.take_of_length_le (by rw [← hn1.out]; exact Nat.le_refl _), List.take_of_length_le (by rw [← hn2.out]; exact Nat.le_refl _)] at this
          exact decide_eq_true this
        go_wp2
        go_ret
        exact ⟨rfl, belowDrewN (Below.refl _ _) q⟩
  · rw [decide_eq_false (by intro h; subst h; exact hnm (hn1.trans hn2.symm))]
    replace hn1 := hide hn1
    replace hn2 := hide hn2
    have hnm' : ¬ (n1 : Int) = n2 := by omega
    go_enter Tryd.func34, Tryd.ntmps34
    go_wp2
    go_ret
    exact ⟨rfl, Below.refl _ _⟩

set_option maxHeartbeats 1000000 in
set_option maxRecDepth 100000 in
theorem rsame_is (r q : Rc) (a1 a2 : Option Addr) (c1 c2 n1 n2 : Nat) (w : World) (s1 : SlW ec w a1 c1 r.e) (s2 : SlW ec w a2 c2 q.e) (hn1 : n1 = r.e.length) (hn2 : n2 = q.e.length) :
    Calls Tryd.prog 12 #[.agg #[.int .i64 r.k, .int .i64 r.s, .int .i64 r.n, .slice a1 n1 c1], .agg #[.int .i64 q.k, .int .i64 q.s, .int .i64 q.n, .slice a2 n2 c2]] w fun e w' => e = .returned (.bool (decide (r.k = q.k ∧ r.s = q.s ∧ r.n = q.n ∧ r.e = q.e))) ∧ Below w.heap.size w w' := by
  obtain ⟨k, s, m, l⟩ := r
  obtain ⟨k', s', m', l'⟩ := q
  simp only at *
  have S1 := (s1.alloc (.cells #[.int .i64 k, .int .i64 s, .int .i64 m, .slice a1 n1 c1] 24)).alloc (.cells #[.int .i64 k', .int .i64 s', .int .i64 m', .slice a2 n2 c2] 24)
  have S2 := (s2.alloc (.cells #[.int .i64 k, .int .i64 s, .int .i64 m, .slice a1 n1 c1] 24)).alloc (.cells #[.int .i64 k', .int .i64 s', .int .i64 m', .slice a2 n2 c2] 24)
  have bel := newB (newB (Below.refl w.heap.size w) (.cells #[.int .i64 k, .int .i64 s, .int .i64 m, .slice a1 n1 c1] 24)) (.cells #[.int .i64 k', .int .i64 s', .int .i64 m', .slice a2 n2 c2] 24)
  have cE := fun W h1 h2 => equalE a1 a2 c1 c2 n1 n2 l l' W h1 h2 hn1 hn2
  obtain ⟨D, hD⟩ : ∃ D, D = decide (l = l') := ⟨_, rfl⟩
  rw [← hD] at cE
  obtain ⟨R, hR⟩ : ∃ R, R = decide (k = k' ∧ s = s' ∧ m = m' ∧ l = l') := ⟨_, rfl⟩
  rw [← hR]
  replace hn1 := hide hn1
  replace hn2 := hide hn2
  by_cases h0 : k = k'
  · by_cases h1 : s = s'
    · by_cases h2 : m = m'
      · obtain rfl : R = D := by rw [hR, hD]; simp [h0, h1, h2]
        subst h0
        subst h1
        subst h2
        clear hD hR
        go_enter Tryd.func12, Tryd.ntmps12
        go_wp2_with fail
        go_at_call 34
        refine (cE _ S1 S2).mono ?_
        rintro e w2 ⟨rfl, b2⟩
        go_wp2_with fail
        go_ret
        exact ⟨by simp, belowCall bel b2⟩
      · obtain rfl : R = false := by rw [hR]; simp [h2]
        subst h0
        subst h1
        have d : decide (m = m') = false := decide_eq_false h2
        clear hD hR
        go_enter Tryd.func12, Tryd.ntmps12
        go_wp2_with fail
        go_ret
        exact ⟨rfl, bel⟩
    · obtain rfl : R = false := by rw [hR]; simp [h1]
      subst h0
      have d : decide (s = s') = false := decide_eq_false h1
      clear hD hR
      go_enter Tryd.func12, Tryd.ntmps12
      go_wp2_with fail
      go_ret
      exact ⟨rfl, bel⟩
  · obtain rfl : R = false := by rw [hR]; simp [h0]
    have d : decide (k = k') = false := decide_eq_false h0
    clear hD hR
    go_enter Tryd.func12, Tryd.ntmps12
    go_wp2_with fail
    go_ret
    exact ⟨rfl, bel⟩

end Go.Proofs.YtabeihkfjlmepaaDoor

/-
  note.Same: whether two records are alike.
-/
namespace Go.Proofs.YtabeihkfjlmepaaDoor
open Go.RowKit

set_option maxHeartbeats 1000000 in
set_option maxRecDepth 100000 in
theorem same_is (r q : Rc) (a1 a2 : Option Addr) (c1 c2 n1 n2 : Nat) (w : World) (s1 : SlW ec w a1 c1 r.e) (s2 : SlW ec w a2 c2 q.e) (hn1 : n1 = r.e.length) (hn2 : n2 = q.e.length) :
    Calls Tryd.prog 11 #[.agg #[.int .i64 r.k, .int .i64 r.s, .int .i64 r.n, .slice a1 n1 c1], .agg #[.int .i64 q.k, .int .i64 q.s, .int .i64 q.n, .slice a2 n2 c2]] w fun e w' => e = .returned (.bool (decide (r.k = q.k ∧ r.s = q.s ∧ r.n = q.n ∧ r.e = q.e))) ∧ Below w.heap.size w w' := by
  obtain ⟨k, s, m, l⟩ := r
  obtain ⟨k', s', m', l'⟩ := q
  simp only at *
  have S1 := (s1.alloc (.cells #[.int .i64 k, .int .i64 s, .int .i64 m, .slice a1 n1 c1] 24)).alloc (.cells #[.int .i64 k', .int .i64 s', .int .i64 m', .slice a2 n2 c2] 24)
  have S2 := (s2.alloc (.cells #[.int .i64 k, .int .i64 s, .int .i64 m, .slice a1 n1 c1] 24)).alloc (.cells #[.int .i64 k', .int .i64 s', .int .i64 m', .slice a2 n2 c2] 24)
  have bel := newB (newB (Below.refl w.heap.size w) (.cells #[.int .i64 k, .int .i64 s, .int .i64 m, .slice a1 n1 c1] 24)) (.cells #[.int .i64 k', .int .i64 s', .int .i64 m', .slice a2 n2 c2] 24)
  have cE := fun W h1 h2 => equalE a1 a2 c1 c2 n1 n2 l l' W h1 h2 hn1 hn2
  obtain ⟨D, hD⟩ : ∃ D, D = decide (l = l') := ⟨_, rfl⟩
  rw [← hD] at cE
  obtain ⟨R, hR⟩ : ∃ R, R = decide (k = k' ∧ s = s' ∧ m = m' ∧ l = l') := ⟨_, rfl⟩
  rw [← hR]
  replace hn1 := hide hn1
  replace hn2 := hide hn2
  by_cases h0 : k = k'
  · by_cases h1 : s = s'
    · by_cases h2 : m = m'
      · obtain rfl : R = D := by rw [hR, hD]; simp [h0, h1, h2]
        subst h0
        subst h1
        subst h2
        clear hD hR
        go_enter Tryd.func11, Tryd.ntmps11
        go_wp2_with fail
        go_at_call 34
        refine (cE _ S1 S2).mono ?_
        rintro e w2 ⟨rfl, b2⟩
        go_wp2_with fail
        go_ret
        exact ⟨by simp, belowCall bel b2⟩
      · obtain rfl : R = false := by rw [hR]; simp [h2]
        subst h0
        subst h1
        have d : decide (m = m') = false := decide_eq_false h2
        clear hD hR
        go_enter Tryd.func11, Tryd.ntmps11
        go_wp2_with fail
        go_ret
        exact ⟨rfl, bel⟩
    · obtain rfl : R = false := by rw [hR]; simp [h1]
      subst h0
      have d : decide (s = s') = false := decide_eq_false h1
      clear hD hR
      go_enter Tryd.func11, Tryd.ntmps11
      go_wp2_with fail
      go_ret
      exact ⟨rfl, bel⟩
  · obtain rfl : R = false := by rw [hR]; simp [h0]
    have d : decide (k = k') = false := decide_eq_false h0
    clear hD hR
    go_enter Tryd.func11, Tryd.ntmps11
    go_wp2_with fail
    go_ret
    exact ⟨rfl, bel⟩

end Go.Proofs.YtabeihkfjlmepaaDoor

/-
  slices.EqualFunc at records, with the program's note.Same.
-/
namespace Go.Proofs.YtabeihkfjlmepaaDoor
open Go.RowKit

set_option maxHeartbeats 1000000 in
set_option maxRecDepth 100000 in
theorem eqFuncN (xs ys : List Lrc) (a1 a2 : Option Addr) (c1 c2 n1 n2 : Nat) (w : World) (r1 : SlRec w a1 c1 xs) (r2 : SlRec w a2 c2 ys) (hn1 : n1 = xs.length) (hn2 : n2 = ys.length) :
    Calls Tryd.prog 21 #[.slice a1 n1 c1, .slice a2 n2 c2, .func (.func 11) #[] #[]] w (AnsB (xs.map (·.r) = ys.map (·.r)) w) := by
  have hl : n1 ≤ 9223372036854775807 := by have := r1.row.le; have := r1.row.max; omega
  by_cases hnm : n1 = n2
  · subst hnm
    replace hn1 := hide hn1
    replace hn2 := hide hn2
    go_enter Tryd.func21, Tryd.ntmps21
    go_wp2_with fail
    go_loopw [17] (fun i wr => ∃ (k : Nat), k ≤ n1 ∧ i = .int .i64 k ∧ Below w.heap.size w wr ∧ Hid ((xs.take k).map (·.r) = (ys.take k).map (·.r))) (fun i _ => n1 - (intOf i).toNat)
    case atStart => exact ⟨0, Nat.zero_le _, rfl, Below.refl _ _, hide (by simp)⟩
    case round =>
      obtain ⟨k, hk, rfl, bel, hA⟩ := hrel
      by_cases hlt : k < n1
      · have hk1 : k < xs.length := by rw [← hn1.out]; exact hlt
        have hk2 : k < ys.length := by rw [← hn2.out]; exact hlt
        obtain ⟨b1, o1, rfl, hb1⟩ := r1.row.where Lrc.four (by decide) (by intro h; subst h; simp at hk1)
        obtain ⟨b2, o2, rfl, hb2⟩ := r2.row.where Lrc.four (by decide) (by intro h; subst h; simp at hk2)
        obtain ⟨x, hx⟩ : ∃ x, xs[k]? = some x := ⟨_, List.getElem?_eq_getElem hk1⟩
        obtain ⟨y, hy⟩ : ∃ y, ys[k]? = some y := ⟨_, List.getElem?_eq_getElem hk2⟩
        have s1 := r1.row.keep bel (Nat.le_refl _)
        have s2 := r2.row.keep bel (Nat.le_refl _)
        have d0 := s1.cell Lrc.four k 0 x _ hx rfl
        have d1 := s1.cell Lrc.four k 1 x _ hx rfl
        have d2 := s1.cell Lrc.four k 2 x _ hx rfl
        have d3 := s1.cell Lrc.four k 3 x _ hx rfl
        simp only [Nat.add_zero] at d0
        have hnx := (r1.ent x (List.mem_of_getElem? hx)).keep bel (Nat.le_refl _)
        have hny := (r2.ent y (List.mem_of_getElem? hy)).keep bel (Nat.le_refl _)
        have hyes : x.r = y.r → Hid ((xs.take (k + 1)).map (·.r) = (ys.take (k + 1)).map (·.r)) := by
          intro h
          have := hA.out
          rw [List.take_add_one, List.take_add_one, hx, hy, List.map_append, List.map_append, this]
          simp [h, Hid]
        have hno : x.r ≠ y.r → ¬ xs.map (·.r) = ys.map (·.r) := by
          intro h e
          refine h ?_
          have h1 : (xs.map (·.r))[k]? = some x.r := by rw [List.getElem?_map, hx]; rfl
          have h2 : (ys.map (·.r))[k]? = some y.r := by rw [List.getElem?_map, hy]; rfl
          rw [e, h2] at h1
          exact (Option.some.inj h1).symm
        have cS := fun W h1 h2 => same_is x.r y.r x.a y.a x.c y.c x.r.e.length y.r.e.length W h1 h2 rfl rfl
        have e0 : wr.cell? ⟨b2, o2 + k * 4, none⟩ = some (.int .i64 y.r.k) := by have := s2.cell Lrc.four k 0 y _ hy rfl; simpa using this
        have e1 := s2.cell Lrc.four k 1 y _ hy rfl
        have e2 := s2.cell Lrc.four k 2 y _ hy rfl
        have e3 := s2.cell Lrc.four k 3 y _ hy rfl
        replace hx := hide hx
        replace hy := hide hy
        have lb1 := Nat.lt_of_lt_of_le hb1 bel.size
        have lb2 := Nat.lt_of_lt_of_le hb2 bel.size
        clear s1 s2 hk1 hk2
        generalize hD : decide (x.r.k = y.r.k ∧ x.r.s = y.r.s ∧ x.r.n = y.r.n ∧ x.r.e = y.r.e) = D at *
        have hDt : x.r = y.r → D = true := fun h => by rw [← hD]; exact decide_eq_true ((rc_eta _ _).2 h)
        have hDf : x.r ≠ y.r → D = false := fun h => by rw [← hD]; exact decide_eq_false (fun h' => h ((rc_eta _ _).1 h'))
        clear hD
        obtain ⟨X1, hX1⟩ : ∃ X1 : List Value, X1 = [.int .i64 x.r.k, .int .i64 x.r.s, .int .i64 x.r.n, .slice x.a x.r.e.length x.c] := ⟨_, rfl⟩
        have BX := (Blk.laid wr [.int .i64 x.r.k, .int .i64 x.r.s, .int .i64 x.r.n, .slice x.a x.r.e.length x.c] 24 _ rfl).keep (newB (Below.refl _ _) (.cells #[.int .i64 y.r.k, .int .i64 y.r.s, .int .i64 y.r.n, .slice y.a y.r.e.length y.c] 24)) (by simp)
        have BY := Blk.laid (wr.alloc (.cells #[.int .i64 x.r.k, .int .i64 x.r.s, .int .i64 x.r.n, .slice x.a x.r.e.length x.c] 24)) [.int .i64 y.r.k, .int .i64 y.r.s, .int .i64 y.r.n, .slice y.a y.r.e.length y.c] 24 (wr.heap.size + 1) (by simp)
        have bq := newB (newB (Below.refl wr.heap.size wr) (.cells #[.int .i64 x.r.k, .int .i64 x.r.s, .int .i64 x.r.n, .slice x.a x.r.e.length x.c] 24)) (.cells #[.int .i64 y.r.k, .int .i64 y.r.s, .int .i64 y.r.n, .slice y.a y.r.e.length y.c] 24)
        have hnx' := hnx.call bq
        have hny' := hny.call bq
        have bel2 := belowCall bel bq
        clear hX1
        go_upto_region 7 with fail
        generalize World.alloc (World.alloc wr _) _ = w3 at *
        have y0 := BX.cell 0
        have y1 := BX.cell 1
        have y2 := BX.cell 2
        have y3 := BX.cell 3
        have z0 := BY.cell 0
        have z1 := BY.cell 1
        have z2 := BY.cell 2
        have z3 := BY.cell 3
        have lX := BX.lt
        have lY := BY.lt
        go_wp2_with fail
        go_at_call 11
        refine (cS _ hnx' hny').mono ?_
        rintro e w4 ⟨rfl, b4⟩
        have bel4 := belowCall bel2 b4
        by_cases hxy : x.r = y.r
        · obtain rfl := hDt hxy
          have hY := hyes hxy
          clear hDt hDf hyes hno
          go_wp2_with fail
          go_roundw
          case rel => exact ⟨k + 1, hlt, by go_num, bel4, hY⟩
          case measure => simp [intOf]; omega
        · obtain rfl := hDf hxy
          have hN := hide (hno hxy)
          clear hDt hDf hyes hno
          go_wp2_with fail
          go_ret
          exact ⟨false, rfl, ⟨fun h => Bool.noConfusion h, fun h => absurd h hN.out⟩, bel4⟩
      · obtain rfl : n1 = k := by omega
        have hT : Hid (xs.map (·.r) = ys.map (·.r)) := by
          have := hA.out
          rw [List.take_of_length_le (by rw [← hn1.out]; exact Nat.le_refl _), List.take_of_length_le (by rw [← hn2.out]; exact Nat.le_refl _)] at this
          exact this
        go_wp2_with fail
        go_ret
        exact ⟨true, rfl, ⟨fun _ => hT.out, fun _ => rfl⟩, bel⟩
  · have hne : Hid (¬ xs.map (·.r) = ys.map (·.r)) := by
      intro h
      have := congrArg List.length h
      rw [List.length_map, List.length_map] at this
      exact hnm (hn1.trans (this.trans hn2.symm))
    replace hn1 := hide hn1
    replace hn2 := hide hn2
    have hnm' : ¬ (n1 : Int) = n2 := by omega
    go_enter Tryd.func21, Tryd.ntmps21
    go_wp2_with fail
    go_ret
    exact ⟨false, rfl, ⟨fun h => Bool.noConfusion h, fun h => absurd h hne.out⟩, Below.refl _ _⟩

end Go.Proofs.YtabeihkfjlmepaaDoor

/-
  slices.Grow of a nil slice and slices.Concat of two, at records: the new row, in new memory; the entries stay where they lie.
-/
namespace Go.Proofs.YtabeihkfjlmepaaDoor
open Go.RowKit

theorem growRec_none (w : World) : Calls Tryd.prog 43 #[.slice none 0 0, .int .i64 0] w fun e w' => e = .returned (.slice none 0 0) ∧ w = w' := by
  go_enter Tryd.func43, Tryd.ntmps43
  go_wp2
  go_ret
  exact ⟨rfl, rfl⟩

theorem size_zeros (z : Array Value) (n : Nat) : (Builtin.zeroCells z n).size = n * z.size := by
  unfold Builtin.zeroCells
  simp

set_option maxHeartbeats 400000 in
set_option maxRecDepth 100000 in
theorem growRec (n : Nat) (w : World) (h0 : 0 < n) (hn : n ≤ 1000000) :
    Calls Tryd.prog 43 #[.slice none 0 0, .int .i64 n] w fun e w' => ∃ G, e = .returned (.slice (some ⟨w.heap.size, 0, none⟩) 0 G) ∧ n ≤ G ∧ G ≤ maxLen ∧ w'.ownsRow w.heap.size 24 4 (.slice (some ⟨w.heap.size, 0, none⟩) 0 G) 0 [] ∧ Below w.heap.size w w' := by
  obtain ⟨i0, hi, hz0, hz1, hz2⟩ := info_parts infoRec
  have hrz := fun ty => Lib.run_append_nil_zeros (P := Tryd.prog) w 34 3 ty 24 i0 (.agg #[.int .i64 0, .int .i64 0, .int .i64 0, .slice none 0 0]) .i64 .i64 Tryd.underlying34 Tryd.underlying3 hi hz0 n h0 (by omega) (by omega) (by rw [hz2]; omega)
  have hG1 : n ≤ grownCap w n 0 24 := grownCap_ge w _ _ _
  have hG2 : grownCap w n 0 24 ≤ maxLen := grownCap_le_maxLen w n 0 _ (by unfold maxLen; omega)
  generalize grownCap w n 0 24 = G at *
  have hG3 := hG2
  unfold maxLen at hG3
  go_enter Tryd.func43, Tryd.ntmps43
  go_wp2_with (at_builtin; refine Lib.wpList_append_run _ rfl _ _ _ _ rfl _ _ rfl rfl _ _ (hrz _) ?_)
  go_ret
  refine ⟨G, rfl, hG1, hG2, ?_, ?_⟩
  · refine ⟨rfl, .inr ⟨w.heap.size, G, _, rfl, Nat.le_refl _, heap_alloc_new _ _, Nat.zero_le _, hG2, ?_, by simp⟩⟩
    rw [Array.size_append, size_zeros, size_zeros]
    show n * 4 + (G - n) * 4 = G * 4
    omega
  · repeat (first | exact Below.refl _ _ | apply Below.drew | refine Below.alloc ?_ (by simp) _)

theorem append_noneR (w : World) (ty : TypeId) (ao : Option Addr) (c : Nat) :
    (Builtin.append_ #[34, 34] ty #[.slice none 0 0, .slice ao 0 c]).run Tryd.prog w = .ok (.slice none 0 0) w := by
  obtain ⟨i0, hi, hz0, hz1, hz2⟩ := info_parts infoRec
  cases ao with
  | none => simp [Builtin.append_, run_underlying Tryd.underlying34, sizeOf, typeInfo, hi, Builtin.lenOf, run_firstCells_none]
  | some a =>
    have hf := run_firstCells_some (P := Tryd.prog) w i0.size 0 a 0 c [] (by simp) (fun j v h => by simp at h)
    simp [Builtin.append_, run_underlying Tryd.underlying34, sizeOf, typeInfo, hi, Builtin.lenOf, hf]

set_option maxHeartbeats 1000000 in
set_option maxRecDepth 100000 in
theorem concatR_none (B : Nat) (a1 a2 : Option Addr) (c1 c2 : Nat) (w : World) (e0 : w.cell? ⟨B, 0, none⟩ = some (.slice a1 0 c1)) (e1 : w.cell? ⟨B, 1, none⟩ = some (.slice a2 0 c2)) :
    Calls Tryd.prog 22 #[.slice (some ⟨B, 0, none⟩) 2 2] w fun e w' => e = .returned (.slice none 0 0) ∧ w = w' := by
  go_enter Tryd.func22, Tryd.ntmps22
  go_wp2_with fail
  refine wp_loop_rounds 3 ?_
  rw [rounds_succ]
  go_wp2_with fail
  rw [rounds_succ]
  go_wp2_with fail
  rw [rounds_succ]
  go_wp2_with (go_at_call 43; refine (growRec_none _).mono ?_; rintro e w' ⟨rfl, rfl⟩)
  refine wp_loop_rounds 3 ?_
  rw [rounds_succ]
  go_wp2_with (at_builtin; refine Lib.wpList_append_run _ rfl _ _ _ _ rfl _ _ rfl rfl _ _ (append_noneR _ _ _ _) ?_)
  rw [rounds_succ]
  go_wp2_with (at_builtin; refine Lib.wpList_append_run _ rfl _ _ _ _ rfl _ _ rfl rfl _ _ (append_noneR _ _ _ _) ?_)
  rw [rounds_succ]
  go_wp2_with fail
  go_ret
  exact ⟨rfl, rfl⟩

theorem Row.srcR {w : World} {ao : Option Addr} {cs : List Value} (h : Row w ao cs) : ∀ ad, ao = some ad → ∀ j u, cs[j]? = some u → w.cell? (ad.add j) = some u := by
  intro ad had j u hu
  obtain ⟨b, off, e, _, hc⟩ := h.at (by intro e; rw [e] at hu; simp at hu)
  rw [e] at had
  obtain rfl := Option.some.inj had
  rw [Addr.add_lit]
  exact hc j u hu

set_option maxHeartbeats 1000000 in
set_option maxRecDepth 100000 in
theorem concatR_some (B : Nat) (a1 a2 : Option Addr) (c1 c2 n1 n2 : Nat) (C1 C2 : List Value) (w : World) (e0 : w.cell? ⟨B, 0, none⟩ = some (.slice a1 n1 c1)) (e1 : w.cell? ⟨B, 1, none⟩ = some (.slice a2 n2 c2))
    (s1 : Row w a1 C1) (s2 : Row w a2 C2) (h1 : C1.length = n1 * 4) (h2 : C2.length = n2 * 4) (y1 : a1 = none → n1 = 0 ∧ c1 = 0) (y2 : a2 = none → n2 = 0 ∧ c2 = 0)
    (o1 : ∀ v ∈ C1, v.oneCell' = true) (o2 : ∀ v ∈ C2, v.oneCell' = true) (h0 : 0 < n1 + n2) (hm : n1 + n2 ≤ 1000000) (hB : B < w.heap.size) :
    Calls Tryd.prog 22 #[.slice (some ⟨B, 0, none⟩) 2 2] w fun e w' => ∃ g G, e = .returned (.slice (some ⟨g, 0, none⟩) (n1 + n2) G) ∧ w'.ownsRow w.heap.size 24 4 (.slice (some ⟨g, 0, none⟩) (n1 + n2) G) (n1 + n2) (C1 ++ C2) ∧ Below w.heap.size w w' := by
  obtain ⟨i0, hi, hz0, hz1, hz2⟩ := info_parts infoRec
  replace h1 := hide h1
  replace h2 := hide h2
  go_enter Tryd.func22, Tryd.ntmps22
  go_wp2_with fail
  refine wp_loop_rounds 3 ?_
  rw [rounds_succ]
  go_wp2_with fail
  rw [rounds_succ]
  go_wp2_with fail
  rw [rounds_succ]
  go_wp2_with fail
  have hg := growRec (n1 + n2) w h0 hm
  rw [Int.natCast_add] at hg
  refine hg.mono ?_
  rintro e w1 ⟨G, rfl, hG1, hG2, own0, bel⟩
  clear hg
  have f0 : w1.cell? ⟨B, 0, none⟩ = some (.slice a1 n1 c1) := (bel.cell (p := ⟨B, 0, none⟩) hB).trans e0
  have f1 : w1.cell? ⟨B, 1, none⟩ = some (.slice a2 n2 c2) := (bel.cell (p := ⟨B, 1, none⟩) hB).trans e1
  have t1 := (s1.keep bel (Nat.le_refl _)).srcR
  have hlt := (own0.lt w.heap.size rfl).2
  clear e0 e1
  have b1 : 0 + n1 ≤ G := by omega
  go_wp2_with fail
  refine wp_loop_rounds 3 ?_
  rw [rounds_succ]
  go_wp2_with (at_builtin; refine wpList_append_fits_any _ rfl (.tmp 31) (.tmp 32) 34 rfl w.heap.size 24 i0 4 Tryd.underlying34 hi hz1 w.heap.size 0 G [] rfl own0 a1 n1 c1 C1 rfl h1.out y1 t1 o1 b1 ?_)
  intro w2 own1 grow1
  have bel2 : Below w.heap.size w w2 := bel.grown grow1 (by omega) (fun k h => by cases h; exact Nat.le_refl _)
  have f3 : w2.cell? ⟨B, 1, none⟩ = some (.slice a2 n2 c2) := grow1.cell f1 (by intro e; have h : B = w.heap.size := Option.some.inj e; omega)
  have t2 := (s2.keep bel2 (Nat.le_refl _)).srcR
  clear f0 f1 t1 own0 bel grow1 b1
  have b2 : n1 + n2 ≤ G := by omega
  go_wp2_with fail
  rw [rounds_succ]
  go_wp2_with (at_builtin; refine wpList_append_fits_any _ rfl (.tmp 31) (.tmp 32) 34 rfl w.heap.size 24 i0 4 Tryd.underlying34 hi hz1 w.heap.size n1 G C1 rfl own1 a2 n2 c2 C2 rfl h2.out y2 t2 o2 b2 ?_)
  intro w3 own2 grow2
  have bel3 : Below w.heap.size w w3 := bel2.grown grow2 (bel2.size) (fun k h => by cases h; exact Nat.le_refl _)
  go_wp2_with fail
  rw [rounds_succ]
  go_wp2_with fail
  go_ret
  exact ⟨w.heap.size, G, rfl, own2, bel3⟩

theorem cells_one4 (l : List Lrc) : ∀ v ∈ l.flatMap Lrc.cells, v.oneCell' = true := by
  intro v hv
  obtain ⟨x, _, h⟩ := List.mem_flatMap.1 hv
  simp only [Lrc.cells, List.mem_cons, List.not_mem_nil, or_false] at h
  rcases h with rfl | rfl | rfl | rfl <;> rfl

theorem cells_len4 (l : List Lrc) : (l.flatMap Lrc.cells).length = l.length * 4 := by
  induction l with
  | nil => rfl
  | cons x r ih => rw [List.flatMap_cons, List.length_append, ih, Lrc.four, List.length_cons]; omega

/-- slices.Concat of two lists of records. -/
theorem concatRec (B : Nat) (a1 a2 : Option Addr) (c1 c2 n1 n2 : Nat) (l m : List Lrc) (w : World) (e0 : w.cell? ⟨B, 0, none⟩ = some (.slice a1 n1 c1)) (e1 : w.cell? ⟨B, 1, none⟩ = some (.slice a2 n2 c2)) (s1 : SlRec w a1 c1 l) (s2 : SlRec w a2 c2 m) (h1 : n1 = l.length) (h2 : n2 = m.length) (few : n1 + n2 ≤ 1000000) (hB : B < w.heap.size) :
    Calls Tryd.prog 22 #[.slice (some ⟨B, 0, none⟩) 2 2] w fun e w' => ∃ ao G, e = .returned (.slice ao (n1 + n2) G) ∧ SlRec w' ao G (l ++ m) ∧ Below w.heap.size w w' := by
  by_cases h0 : 0 < n1 + n2
  · refine (concatR_some B a1 a2 c1 c2 n1 n2 (l.flatMap Lrc.cells) (m.flatMap Lrc.cells) w e0 e1 s1.row.row s2.row.row (by rw [cells_len4, h1]) (by rw [cells_len4, h2]) (fun h => ⟨by have := s1.row.nil h; have := s1.row.le; omega, s1.row.nil h⟩) (fun h => ⟨by have := s2.row.nil h; have := s2.row.le; omega, s2.row.nil h⟩) (cells_one4 l) (cells_one4 m) h0 few hB).mono ?_
    rintro e w' ⟨g, G, rfl, own, b⟩
    rw [← List.flatMap_append] at own
    obtain ⟨a9, G9, e9, S9, _, _⟩ := SlW.ofOwn Lrc.four (by decide) own
    simp only [Value.slice.injEq, true_and] at e9
    obtain ⟨rfl, rfl⟩ := e9
    refine ⟨_, _, rfl, ⟨S9, fun x hx => ?_⟩, b⟩
    rcases List.mem_append.1 hx with hx | hx
    · exact (s1.ent x hx).call b
    · exact (s2.ent x hx).call b
  · obtain rfl : n1 = 0 := by omega
    obtain rfl : n2 = 0 := by omega
    obtain rfl := List.length_eq_zero_iff.1 h1.symm
    obtain rfl := List.length_eq_zero_iff.1 h2.symm
    refine (concatR_none B a1 a2 c1 c2 w e0 e1).mono ?_
    rintro e w' ⟨rfl, rfl⟩
    exact ⟨none, 0, rfl, ⟨SlW.ofNil _ _, fun x h => by simp at h⟩, Below.refl _ _⟩

end Go.Proofs.YtabeihkfjlmepaaDoor
