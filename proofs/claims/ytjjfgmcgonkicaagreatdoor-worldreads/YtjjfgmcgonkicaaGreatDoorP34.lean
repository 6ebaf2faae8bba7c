/-
  The reference's linesOf: records as far as they are whole; how many bytes these have; what is wrong with the next one.
-/
import Derived.Lib.AppendZeros
import Derived.Test.YtjjfgmcgonkicaaGreatDoorP32
import Derived.Test.YtjjfgmcgonkicaaGreatDoorP10
import Derived.Test.YtjjfgmcgonkicaaGreatDoorP33
import Derived.Test.YtjjfgmcgonkicaaGreatDoorP30
import Derived.Test.YtjjfgmcgonkicaaGreatDoorP05
import Derived.Test.YtjjfgmcgonkicaaGreatDoorP31
namespace Go.Proofs.YtjjfgmcgonkicaaGreatDoor
open Go.RowKit

set_option maxRecDepth 100000 in
theorem after_any (s : ByteArray) (w : World) (hg : Gl w) (hs : s.size ≤ 100000) :
    Calls Tryz.prog 91 #[.string s, .string ⟨#[10]⟩] w fun e w' => ∃ (PS : List ByteArray) (n : Nat), e = .returned (.slice (some ⟨w.heap.size, 0, none⟩) n n) ∧ n = PS.length ∧ n ≤ 100001 ∧ PS.map bytes = pcs (bytes s) ∧ w' = w.alloc (.cells (PS.map Value.string).toArray 9) := by
  obtain ⟨m, hm⟩ := hg.max
  have h1 : 1 ≤ (⟨#[10]⟩ : ByteArray).size := by decide
  have hle := Lib.countB_le ⟨#[10]⟩ h1 s.size s (Nat.le_refl _)
  have hlen := Lib.splitB_all ⟨#[10]⟩ h1 1 _ s rfl
  have c := Tryz.strings_genSplit s ⟨#[10]⟩ 1 (-1) (Lib.countB s ⟨#[10]⟩ + 1) m w (by omega) hm h1 (by decide) (by decide) (by decide) (by rw [if_pos (by decide)]; omega)
  rw [Nat.add_sub_cancel, hlen] at c
  have e2 : Lib.cellsOf (Lib.splitB ⟨#[10]⟩ 1 (Lib.countB s ⟨#[10]⟩) s) (Lib.countB s ⟨#[10]⟩ + 1) = ((Lib.splitB ⟨#[10]⟩ 1 (Lib.countB s ⟨#[10]⟩) s).map Value.string).toArray := by rw [← hlen]; exact Lib.cellsOf_full _
  rw [e2] at c
  have hp := split_pcsB s
  obtain ⟨n, hn⟩ : ∃ n, n = Lib.countB s ⟨#[10]⟩ + 1 := ⟨_, rfl⟩
  rw [← hn] at c hlen
  generalize Lib.splitB ⟨#[10]⟩ 1 (Lib.countB s ⟨#[10]⟩) s = PS at *
  have hn1 : n ≤ 100001 := by omega
  replace hn := hide hn
  replace hlen := hide hlen
  replace hp := hide hp
  clear hle e2
  go_enter Tryz.func91, Tryz.ntmps91
  go_wp2_with fail
  go_at_call 122
  refine c.mono ?_
  rintro e w' ⟨rfl, rfl⟩
  go_wp2_with fail
  go_ret
  exact ⟨PS, n, rfl, hlen.out.symm, hn1, hp.out, rfl⟩

theorem bytes_extract (s : ByteArray) (a b : Nat) : bytes (s.extract a b) = ((bytes s).drop a).take (b - a) := by
  simp [bytes, ByteArray.data_extract, Array.toList_extract, List.extract_eq_take_drop]

set_option maxRecDepth 100000 in
theorem suffix_any (s : ByteArray) (w : World) (h0 : 0 < s.size) (hs : s.size ≤ 100000) :
    Calls Tryz.prog 123 #[.string s, .string ⟨#[10]⟩] w fun e w' => e = .returned (.bool (decide ((bytes s).drop (s.size - 1) = [10]))) ∧ w' = w := by
  have h1 : (1 : Int) ≤ s.size := by omega
  have h2 : (s.size : Int) - 1 ≤ s.size := by omega
  have h3 : (0 : Int) ≤ (s.size : Int) - 1 := by omega
  go_enter Tryz.func123, Tryz.ntmps123
  go_wp2_with fail
  go_ret
  refine ⟨?_, rfl⟩
  show Ending.returned (Value.bool ((s.extract (s.size - 1) s.size).toList == [10])) = _
  rw [toList_bytes, bytes_extract, List.take_of_length_le (by rw [List.length_drop, bytes_len]; omega)]
  congr 2
  rw [Bool.eq_iff_iff]
  simp

set_option maxRecDepth 100000 in
theorem hasLF_any (s : ByteArray) (w : World) (h0 : 0 < s.size) (hs : s.size ≤ 100000) :
    Calls Tryz.prog 92 #[.string s, .string ⟨#[10]⟩] w fun e w' => e = .returned (.bool (decide ((bytes s).drop (s.size - 1) = [10]))) ∧ w' = w := by
  have c := fun W => suffix_any s W h0 hs
  generalize decide ((bytes s).drop (s.size - 1) = [10]) = D at *
  go_enter Tryz.func92, Tryz.ntmps92
  go_wp2_with fail
  go_at_call 123
  refine (c _).mono ?_
  rintro e w2 ⟨rfl, rfl⟩
  go_wp2_with fail
  go_ret
  exact ⟨rfl, rfl⟩

theorem intOf_nat (n : Nat) : (intOf (.int .i64 (n : Int))).toNat = n := by simp [intOf]

set_option maxHeartbeats 2000000 in
set_option maxRecDepth 100000 in
theorem lines_any (s : ByteArray) (k0 most : Nat) (w : World) (hg : Gl w) (hs : s.size ≤ 60000) (hk0 : most + k0 = 60) :
    Calls Tryz.prog 56 #[.string s, .int .i64 (most : Int)] w fun e w' => ∃ (a : Option Addr) (n G N : Nat) (l : List Lrc), e = .returned (.tuple #[.slice a n G, .int .i64 (N : Int), .int .i64 (scan k0 (bytes s)).2]) ∧ Recs w.heap.size w' a n G l ∧ l.map (·.r) = (tail k0 (bytes s)).1 ∧ N + (tail k0 (bytes s)).2.length = (bytes s).length ∧ Below w.heap.size w w' := by
  obtain ⟨i0, hi, hz0, hz1, hz2⟩ := info_parts infoRec
  generalize hSC : (scan k0 (bytes s)).2 = SE at *
  generalize hTL : tail k0 (bytes s) = TL at *
  replace hSC := hide hSC
  replace hTL := hide hTL
  go_enter Tryz.func56, Tryz.ntmps56
  go_wp2_with fail
  go_at_call 91
  refine (after_any s w hg (by omega)).mono ?_
  rintro e w1 ⟨PS, n, rfl, hn, hn1, hps, rfl⟩
  have BP := Blk.laid w (PS.map Value.string) 9 _ rfl
  have bel := newB (Below.refl w.heap.size w) (.cells (PS.map Value.string).toArray 9)
  replace hn := hide hn
  replace hps := hide hps
  generalize w.alloc _ = w1 at *
  go_wp2_with fail
  go_loopw [7, 8, 16] (fun s7 s8 s16 wr => ∃ (i j G N : Nat) (ao : Option Addr) (l : List Lrc) (rest : List UInt8), s7 = .slice ao j G ∧ s8 = .int .i64 (N : Int) ∧ s16 = .int .i64 (i : Int) ∧ Recs w.heap.size wr ao j G l ∧ j ≤ most ∧ Hid ((PS.drop i).map bytes = pcs rest) ∧ Hid (SE = (scan (k0 + j) rest).2) ∧ Hid (TL = (l.map (·.r) ++ (tail (k0 + j) rest).1, (tail (k0 + j) rest).2)) ∧ N + rest.length = s.size ∧ Blk wr w.heap.size (PS.map Value.string) 9 ∧ Below w.heap.size w wr) (fun _ _ s16 _ => n - (intOf s16).toNat)
  case atStart => exact ⟨0, 0, 0, 0, none, [], bytes s, rfl, rfl, rfl, Recs.nil _ _, Nat.zero_le _, hps, hSC.out.symm, by show _ = _; rw [← hTL.out]; rfl, by rw [bytes_len]; omega, BP, bel⟩
  case round =>
    clear BP bel hps
    obtain ⟨i, j, G, N, ao, l, rest, rfl, rfl, rfl, R, hj, hps, hsc, htl, hN, BP, bel⟩ := hrel
    obtain ⟨t, ht, hit⟩ : ∃ t, PS[i]? = some t ∧ (pcs rest) = bytes t :: ((PS.drop (i + 1)).map bytes) := by
      have hp := hps.out
      cases hd : PS.drop i with
      | nil =>
        rw [hd] at hp
        exact absurd hp.symm (pcs_ne rest)
      | cons t r =>
        have hi' : PS[i]? = some t := by
          have := congrArg (·[0]?) hd
          simpa using this
        have hr' : PS.drop (i + 1) = r := by rw [← List.tail_drop, hd]; rfl
        refine ⟨t, hi', ?_⟩
        rw [← hp, hd, hr']
        rfl
    have hil : i < n := by rw [hn.out]; exact (List.getElem?_eq_some_iff.1 ht).1
    have c0 : wr.cell? ⟨w.heap.size, i, none⟩ = some (.string t) := (BP.cell i).trans (by rw [List.getElem?_map, ht]; rfl)
    have lP := BP.lt
    have hil' : (i : Int) < n := by omega
    have hline := pcs_line rest
    rw [hit] at hline
    replace ht := hide ht
    by_cases hr0 : rest = []
    · subst hr0
      have htb : bytes t = [] := by
        have : lfY [] = false := rfl
        rw [this] at hline
        exact (List.cons.inj hline).1
      obtain rfl : t = ⟨#[]⟩ := by rw [← ofB_bytes t, htb]; rfl
      have hsc' : SE = 0 := by rw [hsc.out, scan_nil]
      have htl' : TL = (l.map (·.r), []) := by rw [htl.out, tail_stop (by rw [lnE_nil]; simp), List.append_nil]
      subst hsc'
      clear hline hit hps hsc htl
      go_wp2_with fail
      go_ret3
      exact ⟨_, _, _, N, l, rfl, R, by rw [htl'], by rw [htl', bytes_len]; exact hN, bel⟩
    · have ht0 : bytes t ≠ [] := by
        intro h
        rw [h] at hline
        split at hline
        · have := congrArg List.length (List.cons.inj hline).1
          simp at this
        · exact hr0 (List.cons.inj hline).1.symm
      have hts : 0 < t.size := by
        rw [← bytes_len]
        exact List.length_pos_iff.2 ht0
      have htl2 : (bytes t).length ≤ rest.length := by
        cases hy : lfY rest with
        | false =>
          rw [hy, if_neg (by decide)] at hline
          rw [(List.cons.inj hline).1]
          exact Nat.le_refl _
        | true =>
          rw [hy, if_pos rfl] at hline
          rw [(List.cons.inj hline).1]
          rcases lf_cases rest with ⟨h1, _⟩ | ⟨_, h2, _⟩
          · rw [hy] at h1; cases h1
          · conv => rhs; rw [h2]
            simp
      have hts6 : t.size ≤ 60000 := by rw [← bytes_len]; omega
      have hne3 : (t.toList == []) = false := by rw [toList_bytes]; exact beq_eq_false_iff_ne.2 ht0
      have hne4 : ¬ t.toList = [] := by rw [toList_bytes]; exact ht0
      have hne5 : ¬ t = ⟨#[]⟩ := by intro h; subst h; exact ht0 rfl
      have cH := fun W => hasLF_any t W hts (by omega)
      replace ht0 := hide ht0
      cases hy : lfY rest with
      | false =>
        rw [hy, if_neg (by decide)] at hline
        have htb : bytes t = rest := (List.cons.inj hline).1
        have hno : ∀ c ∈ rest, c ≠ 10 := by
          rcases lf_cases rest with ⟨_, _, _, h4⟩ | ⟨h1, _⟩
          · exact h4
          · rw [hy] at h1; cases h1
        have hD : decide ((bytes t).drop (t.size - 1) = [10]) = false := by
          refine decide_eq_false (fun h => ?_)
          have : (10 : UInt8) ∈ (bytes t).drop (t.size - 1) := by rw [h]; simp
          exact hno 10 (by rw [← htb]; exact List.mem_of_mem_drop this) rfl
        rw [hD] at cH
        have hE : lnE rest = 8 := by unfold lnE; rw [hy]; rfl
        have hsc' : SE = 8 := by rw [hsc.out, scan_bad hr0 (by rw [hE]; decide), hE]
        have htl' : TL = (l.map (·.r), rest) := by rw [htl.out, tail_stop (by rw [hE]; simp), List.append_nil]
        subst hsc'
        clear hline hit hps hsc htl hD hE htl2 hno
        go_wp2_with fail
        go_at_call 92
        refine (cH _).mono ?_
        rintro e w2 ⟨rfl, rfl⟩
        go_wp2_with fail
        go_ret3
        exact ⟨_, _, _, N, l, rfl, R, by rw [htl'], by rw [htl', bytes_len]; exact hN, bel⟩
      | true =>
        rw [hy, if_pos rfl] at hline
        obtain ⟨htb, hpn⟩ := List.cons.inj hline
        have hrest : rest = lfT rest ++ 10 :: lfB rest := by
          rcases lf_cases rest with ⟨h1, _⟩ | ⟨_, h2, _⟩
          · rw [hy] at h1; cases h1
          · exact h2
        have hszT : t.size = (lfT rest).length + 1 := by rw [← bytes_len, htb]; simp
        have hD : decide ((bytes t).drop (t.size - 1) = [10]) = true := by
          refine decide_eq_true ?_
          rw [htb, hszT, Nat.add_sub_cancel, List.drop_left]
        rw [hD] at cH
        have hex : t.extract 0 (t.size - 1) = ofB (lfT rest) := by
          rw [← ofB_bytes (t.extract 0 (t.size - 1)), bytes_extract, htb, hszT]
          simp
        have hE : lnE rest = parseE (ofB (lfT rest)) := by unfold lnE; rw [hy]; rfl
        have hR : lnR rest = parseR (ofB (lfT rest)) := by unfold lnR; rw [hy]; rfl
        have hB : lnB rest = lfB rest := by unfold lnB; rw [hy]; rfl
        have cR := fun W g => rread_is (ofB (lfT rest)) W g (by rw [ofB_size]; omega)
        rw [← hE, ← hR] at cR
        have hlen : rest.length = t.size + (lfB rest).length := by
          have := congrArg List.length hrest
          simp at this
          omega
        have hbadE : lnE rest ≠ 0 → SE = lnE rest ∧ TL = (l.map (·.r), rest) := by
          intro h
          exact ⟨by rw [hsc.out, scan_bad hr0 h], by rw [htl.out, tail_stop (fun h' => h h'.2), List.append_nil]⟩
        have hmany : lnE rest = 0 → j = most → SE = 2 ∧ TL = (l.map (·.r), rest) := by
          rintro h rfl
          have e60 : k0 + j = 60 := by omega
          exact ⟨by rw [hsc.out, e60, scan_many hr0 h], by rw [htl.out, tail_stop (fun h' => by omega), List.append_nil]⟩
        have hstep : lnE rest = 0 → j ≠ most → SE = (scan (k0 + (j + 1)) (lfB rest)).2 ∧ TL = (l.map (·.r) ++ [lnR rest] ++ (tail (k0 + (j + 1)) (lfB rest)).1, (tail (k0 + (j + 1)) (lfB rest)).2) := by
          intro h h'
          refine ⟨by rw [hsc.out, scan_step hr0 h (by omega), hB, Nat.add_assoc], ?_⟩
          rw [htl.out, tail_step ⟨by omega, h⟩, hB, Nat.add_assoc]
          simp
        have hi1 : (t.size : Int) - 1 = ((t.size - 1 : Nat) : Int) := by omega
        generalize lnR rest = PR at *
        generalize lnE rest = PE at *
        obtain ⟨K, s', m', es⟩ := PR
        simp only at *
        obtain ⟨ln, hln⟩ : ∃ ln, ln = es.length := ⟨_, rfl⟩
        rw [← hln] at cR
        replace hln := hide hln
        replace hpn := hide hpn
        replace hlen := hide hlen
        clear hline hit hps hsc htl hD hE hR hB htl2 hszT hrest htb
        go_wp2_with fail
        go_at_call 92
        refine (cH _).mono ?_
        rintro e w2 ⟨rfl, rfl⟩
        go_wp2_with fail
        go_at_call 93
        have gr := hg.call bel
        refine (cR _ gr).mono ?_
        rintro e w4 ⟨a4, G4, rfl, o4, b4⟩
        have bel4 := belowCall bel b4
        have R4 := R.call b4
        have BX := Blk.laid w4 [.int .i64 K, .int .i64 s', .int .i64 m', .slice a4 ln G4] 93 _ rfl
        have bq := newB (Below.refl w4.heap.size w4) (.cells #[.int .i64 K, .int .i64 s', .int .i64 m', .slice a4 ln G4] 93)
        have bel5 := belowCall bel4 bq
        have R5 := R4.call bq
        replace BP := (BP.keep b4 BP.lt).keep bq (Nat.lt_of_lt_of_le BP.lt b4.size)
        have o5 := owndown (o4.alloc (.cells #[.int .i64 K, .int .i64 s', .int .i64 m', .slice a4 ln G4] 93)) bel.size
        by_cases hp0 : PE = 0
        · subst hp0
          by_cases h6 : j = most
          · obtain ⟨hse, htl'⟩ := hmany rfl h6
            subst hse
            subst h6
            have h6' : (j : Int) ≤ j := Int.le_refl _
            have h6d : decide ((j : Int) ≤ j) = true := decide_eq_true h6'
            clear hbadE hmany hstep
            go_upto_region 10 with fail
            generalize w4.alloc _ = w5 at *
            go_wp2_with fail
            go_ret3
            exact ⟨_, _, _, N, l, rfl, R5, by rw [htl'], by rw [htl', bytes_len]; exact hN, bel5⟩
          · obtain ⟨hse, htl'⟩ := hstep rfl h6
            have hjm : j < most := by omega
            have h6' : ¬ (most : Int) ≤ j := by omega
            have h6d : decide ((most : Int) ≤ j) = false := decide_eq_false h6'
            have hNs : N + t.size + (lfB rest).length = s.size := by have := hlen.out; omega
            have hNb : N + t.size ≤ 60000 := by omega
            have hNi : IntKind.i64.wrap ((N : Int) + (t.size : Int)) = ((N + t.size : Nat) : Int) := by rw [IntKind.wrap_i64]; omega
            have hNi' : (N : Int) + (t.size : Int) = ((N + t.size : Nat) : Int) := by omega
            have hNw : wrap64 ((N + t.size : Nat) : Int) = ((N + t.size : Nat) : Int) := by unfold wrap64; omega
            have hj61 : (j + 1) * 48 ≤ 140737488355328 := by omega
            have hj62 : j + 1 ≤ maxLen := by unfold maxLen; omega
            obtain ⟨N', hN'⟩ : ∃ N', N' = N + t.size := ⟨_, rfl⟩
            rw [← hN'] at hNi hNi' hNw hNs
            have hin1 : i + 1 ≤ n := hil
            have hmea : n - (i + 1) < n - i := by omega
            replace hse := hide hse
            replace htl' := hide htl'
            replace hN' := hide hN'
            clear hbadE hmany hstep hNb hex cH cR hi1
            go_upto_region 14 with fail
            generalize w4.heap.size = gX at *
            generalize w4.alloc _ = w5 at *
            have y0 := BX.cell 0
            have y1 := BX.cell 1
            have y2 := BX.cell 2
            have y3 := BX.cell 3
            have lX := BX.lt
            go_wp2_with (at_builtin; refine wpList_append_new w5 rfl (.tmp 49) (.tmp 51) 45 rfl w.heap.size 93 i0 _ 4 48 Tryz.underlying45 hi hz0 hz1 hz2 rfl (by decide) (.slice ao j G) j _ (by rfl) R5.row 1 #[.int .i64 K, .int .i64 s', .int .i64 m', .slice a4 ln G4] 93 (by rfl) (by rfl) (by simp [Value.oneCell']) (by decide) hj62 hj61 bel5.size ?_)
            intro v7 w7 own7 grow7 went7
            have bel7 := belowGrown bel5 R5.row grow7 (Nat.le_refl _) bel5.size
            have BP7 := BP.grown grow7 (fun q e h => ownNe R5.row BP (by decide) (by rw [e, h]))
            obtain ⟨a8, G8, rfl, R8⟩ := R5.snoc (x := ⟨⟨K, s', m', es⟩, a4, G4⟩) (by show World.ownsRow _ _ _ _ (.slice a4 es.length G4) es.length _; rw [← hln.out]; exact o5) (by unfold Lrc.cells; simp only; rw [← hln.out]; exact own7) grow7
            go_wp2_with fail
            go_roundw
            case rel => exact ⟨i + 1, j + 1, G8, N', a8, l ++ [⟨⟨K, s', m', es⟩, a4, G4⟩], lfB rest, rfl, by first | rfl | exact congrArg (Value.int .i64) hNw, by go_num, R8, hjm, hpn, hse, by show _ = _; rw [htl'.out, List.map_append]; rfl, hNs, BP7, bel7⟩
            case measure =>
              show n - (intOf _).toNat < n - (intOf _).toNat
              simp only [intOf]
              omega
        · obtain ⟨hse, htl'⟩ := hbadE hp0
          subst hse
          have hd : decide (SE = 0) = false := decide_eq_false hp0
          clear hmany hstep
          go_upto_region 10 with fail
          generalize w4.alloc _ = w5 at *
          go_wp2_with fail
          go_ret3
          exact ⟨_, _, _, N, l, rfl, R5, by rw [htl'], by rw [htl', bytes_len]; exact hN, bel5⟩

end Go.Proofs.YtjjfgmcgonkicaaGreatDoor

/-
  slices.Equal at bytes; the reference's SameDisk; the reference's CheckDisk.
-/
namespace Go.Proofs.YtjjfgmcgonkicaaGreatDoor
open Go.RowKit
open Go.Lib (byteCells)

set_option maxHeartbeats 1000000 in
set_option maxRecDepth 100000 in
theorem equalU (a1 a2 : Option Addr) (c1 c2 n1 n2 : Nat) (l m : List UInt8) (w : World) (r1 : Sl w a1 c1 (byteCells l)) (r2 : Sl w a2 c2 (byteCells m)) (hn1 : n1 = l.length) (hn2 : n2 = m.length) :
    Calls Tryz.prog 86 #[.slice a1 n1 c1, .slice a2 n2 c2] w fun e w' => e = .returned (.bool (decide (l = m))) ∧ Below w.heap.size w w' := by
  have hl : n1 ≤ 9223372036854775807 := by have := r1.le; have := r1.max; rw [Lib.byteCells_length] at *; omega
  by_cases hnm : n1 = n2
  · subst hnm
    obtain ⟨E, hE⟩ : ∃ E, E = decide (l = m) := ⟨_, rfl⟩
    rw [← hE]
    replace hE := hide hE
    replace hn1 := hide hn1
    replace hn2 := hide hn2
    go_enter Tryz.func86, Tryz.ntmps86
    go_wp2_with fail
    go_loopw [13] (fun i wr => ∃ (k q : Nat), k ≤ n1 ∧ i = .int .i64 k ∧ wr = w.drewN q ∧ Hid (l.take k = m.take k)) (fun i _ => n1 - (intOf i).toNat)
    case atStart => exact ⟨0, 0, Nat.zero_le _, rfl, rfl, hide (by simp)⟩
    case round =>
      obtain ⟨k, q, hk, rfl, rfl, hA⟩ := hrel
      by_cases hlt : k < n1
      · have hk1 : k < l.length := by rw [← hn1.out]; exact hlt
        have hk2 : k < m.length := by rw [← hn2.out]; exact hlt
        obtain ⟨b1, o1, rfl, -, g1⟩ := r1.row.at (by intro h; have := congrArg List.length h; rw [Lib.byteCells_length] at this; simp at this; subst this; simp at hk1)
        obtain ⟨b2, o2, rfl, -, g2⟩ := r2.row.at (by intro h; have := congrArg List.length h; rw [Lib.byteCells_length] at this; simp at this; subst this; simp at hk2)
        obtain ⟨x, hx⟩ : ∃ x, l[k]? = some x := ⟨_, List.getElem?_eq_getElem hk1⟩
        obtain ⟨y, hy⟩ : ∃ y, m[k]? = some y := ⟨_, List.getElem?_eq_getElem hk2⟩
        have d0 : (w.drewN q).cell? ⟨b1, o1 + k, none⟩ = some (.int .u8 x.toNat) := by
          rw [World.cell?_drewN]
          exact g1 k _ (by simp [byteCells, hx])
        have e0 : (w.drewN q).cell? ⟨b2, o2 + k, none⟩ = some (.int .u8 y.toNat) := by
          rw [World.cell?_drewN]
          exact g2 k _ (by simp [byteCells, hy])
        have hyes : x = y → Hid (l.take (k + 1) = m.take (k + 1)) := by
          intro h
          rw [List.take_add_one, List.take_add_one, hA.out, hx, hy, h]
          exact hide rfl
        have hno : x ≠ y → E = false := by
          intro h
          rw [hE.out]
          refine decide_eq_false (fun e => h ?_)
          rw [e, hy] at hx
          exact (Option.some.inj hx).symm
        clear r1 r2 g1 g2 hk1 hk2 hx hy
        generalize hwq : w.drewN q = wq at *
        replace hwq := hide hwq
        by_cases h0 : x = y
        · subst h0
          have hY := hyes rfl
          clear hno hyes
          go_wp2_with fail
          go_region
          all_goals go_wp2
          all_goals go_roundw
          case rel => exact ⟨k + 1, q + 1, by omega, by go_num, by rw [← hwq.out]; rfl, hY⟩
          case measure => simp [intOf]; omega
        · obtain rfl := hno h0
          have hne : ¬ ((x.toNat : Int) = (y.toNat : Int)) := fun h => h0 (UInt8.toNat_inj.1 (Int.ofNat_inj.1 h))
          have hne' : ¬ (x.toNat = y.toNat) := fun h => h0 (UInt8.toNat_inj.1 h)
          clear hyes
          go_wp2_with fail
          go_region
          all_goals go_wp2
          all_goals go_ret
          exact ⟨rfl, by rw [← hwq.out]; exact belowDrewN (Below.refl _ _) (q + 1)⟩
      · obtain rfl : n1 = k := by omega
        obtain rfl : E = true := by
          rw [hE.out]
          have := hA.out
          rw [List.take_of_length_le (by rw [← hn1.out]; exact Nat.le_refl _), List.take_of_length_le (by rw [← hn2.out]; exact Nat.le_refl _)] at this
          exact decide_eq_true this
        go_wp2
        go_ret
        exact ⟨rfl, belowDrewN (Below.refl _ _) q⟩
  · rw [decide_eq_false (by intro h; subst h; exact hnm (hn1.trans hn2.symm))]
    replace hn1 := hide hn1
    replace hn2 := hide hn2
    have hnm' : ¬ (n1 : Int) = n2 := by omega
    go_enter Tryz.func86, Tryz.ntmps86
    go_wp2
    go_ret
    exact ⟨rfl, Below.refl _ _⟩

set_option maxRecDepth 100000 in
theorem rsameD_any (d x : Dk) (a1 a2 b1 b2 : Option Addr) (c1 c2 e1 e2 n1 n2 m1 m2 : Nat) (w : World) (s1 : Sl w a1 c1 (byteCells d.safe)) (s2 : Sl w a2 c2 (byteCells d.wait)) (t1 : Sl w b1 e1 (byteCells x.safe)) (t2 : Sl w b2 e2 (byteCells x.wait))
    (h1 : n1 = d.safe.length) (h2 : n2 = d.wait.length) (k1 : m1 = x.safe.length) (k2 : m2 = x.wait.length) :
    Calls Tryz.prog 44 #[.agg #[.slice a1 n1 c1, .slice a2 n2 c2], .agg #[.slice b1 m1 e1, .slice b2 m2 e2]] w fun e w' => e = .returned (.bool (decide (d.safe = x.safe ∧ d.wait = x.wait))) ∧ Below w.heap.size w w' := by
  have bel := newB (newB (Below.refl w.heap.size w) (.cells #[.slice a1 n1 c1, .slice a2 n2 c2] 27)) (.cells #[.slice b1 m1 e1, .slice b2 m2 e2] 27)
  have B1 := (Blk.laid w [.slice a1 n1 c1, .slice a2 n2 c2] 27 _ rfl).alc (.cells #[.slice b1 m1 e1, .slice b2 m2 e2] 27)
  have B2 := Blk.laid (w.alloc (.cells #[.slice a1 n1 c1, .slice a2 n2 c2] 27)) [.slice b1 m1 e1, .slice b2 m2 e2] 27 (w.heap.size + 1) (by simp)
  have cE1 := fun W h h' => equalU a1 b1 c1 e1 n1 m1 d.safe x.safe W h h' h1 k1
  have cE2 := fun W h h' => equalU a2 b2 c2 e2 n2 m2 d.wait x.wait W h h' h2 k2
  have S1 := s1.keep bel (Nat.le_refl _)
  have S2 := s2.keep bel (Nat.le_refl _)
  have T1 := t1.keep bel (Nat.le_refl _)
  have T2 := t2.keep bel (Nat.le_refl _)
  replace h1 := hide h1
  replace h2 := hide h2
  replace k1 := hide k1
  replace k2 := hide k2
  have x0 := B1.cell 0
  have x1 := B1.cell 1
  have y0 := B2.cell 0
  have y1 := B2.cell 1
  have l1 := B1.lt
  have l2 := B2.lt
  by_cases hs : d.safe = x.safe
  · have hd : decide (d.safe = x.safe ∧ d.wait = x.wait) = decide (d.wait = x.wait) := by simp [hs]
    rw [hd]
    rw [decide_eq_true hs] at cE1
    generalize decide (d.wait = x.wait) = D at *
    clear hs hd
    go_enter Tryz.func44, Tryz.ntmps44
    go_wp2_with fail
    generalize World.alloc (World.alloc w _) _ = w1 at *
    go_at_call 86
    refine (cE1 _ S1 T1).mono ?_
    rintro e w2 ⟨rfl, b2⟩
    clear x0 x1 y0 y1 l1 l2
    replace B1 := B1.keep b2 B1.lt
    replace B2 := B2.keep b2 B2.lt
    have x0 := B1.cell 0
    have x1 := B1.cell 1
    have y0 := B2.cell 0
    have y1 := B2.cell 1
    have l1 := B1.lt
    have l2 := B2.lt
    go_wp2_with fail
    go_at_call 86
    refine (cE2 _ (S2.call b2) (T2.call b2)).mono ?_
    rintro e w3 ⟨rfl, b3⟩
    go_wp2_with fail
    go_ret
    exact ⟨by simp, belowCall (belowCall bel b2) b3⟩
  · have hd : decide (d.safe = x.safe ∧ d.wait = x.wait) = false := by simp [hs]
    rw [hd]
    rw [decide_eq_false hs] at cE1
    clear hs hd
    go_enter Tryz.func44, Tryz.ntmps44
    go_wp2_with fail
    generalize World.alloc (World.alloc w _) _ = w1 at *
    go_at_call 86
    refine (cE1 _ S1 T1).mono ?_
    rintro e w2 ⟨rfl, b2⟩
    go_wp2_with fail
    go_ret
    exact ⟨rfl, belowCall bel b2⟩

set_option maxRecDepth 100000 in
theorem rcheckD_any (d : Dk) (a1 a2 : Option Addr) (c1 c2 n1 n2 : Nat) (w : World) (hg : Gl w) (s1 : Sl w a1 c1 (byteCells d.safe)) (h1 : n1 = d.safe.length) (h2 : n2 = d.wait.length) :
    Calls Tryz.prog 38 #[.agg #[.slice a1 n1 c1, .slice a2 n2 c2]] w fun e w' => e = .returned (.int .i64 (dkE d)) ∧ Below w.heap.size w w' := by
  have B0 := Blk.laid w [.slice a1 n1 c1, .slice a2 n2 c2] 27 _ rfl
  have bel := newB (Below.refl w.heap.size w) (.cells #[.slice a1 n1 c1, .slice a2 n2 c2] 27)
  have hE : dkE d = if 60000 < n1 + n2 then 2 else (scan 0 d.safe).2 := by unfold dkE; rw [h1, h2]
  have x0 := B0.cell 0
  have x1 := B0.cell 1
  have l1 := B0.lt
  by_cases hb : 60000 < n1 + n2
  · rw [if_pos hb] at hE
    rw [hE]
    clear hE
    replace h1 := hide h1
    replace h2 := hide h2
    by_cases hb1 : 60000 < n1
    · have hb1' : (60000 : Int) < n1 := by omega
      have hd1 : decide ((60000 : Int) < n1) = true := decide_eq_true hb1'
      go_enter Tryz.func38, Tryz.ntmps38
      go_wp2_with fail
      go_ret
      exact ⟨rfl, bel⟩
    · have hd1 : decide ((60000 : Int) < n1) = false := decide_eq_false (by omega)
      have hb1' : ¬ (60000 : Int) < n1 := by omega
      have hw : IntKind.i64.wrap ((60000 : Int) - n1) = 60000 - n1 := by rw [IntKind.wrap_i64]; omega
      have hw2 : wrap64 ((60000 : Int) - n1) = 60000 - n1 := by unfold wrap64; omega
      have hd2 : decide ((60000 : Int) - n1 < n2) = true := decide_eq_true (by omega)
      have hb2' : (60000 : Int) - n1 < n2 := by omega
      go_enter Tryz.func38, Tryz.ntmps38
      go_wp2_with fail
      go_ret
      exact ⟨rfl, bel⟩
  · rw [if_neg hb] at hE
    rw [hE]
    have hsl : d.safe.length ≤ 60000 := by omega
    have c := fun W g => lines_any (ofB d.safe) 0 60 W g (by rw [ofB_size]; exact hsl) rfl
    rw [bytes_ofB] at c
    generalize (scan 0 d.safe).2 = E at *
    have hcv := run_str (s1.alloc (.cells #[.slice a1 n1 c1, .slice a2 n2 c2] 27)) h1
    have hd1 : decide ((60000 : Int) < n1) = false := decide_eq_false (by omega)
    have hb1' : ¬ (60000 : Int) < n1 := by omega
    have hw : IntKind.i64.wrap ((60000 : Int) - n1) = 60000 - n1 := by rw [IntKind.wrap_i64]; omega
    have hw2 : wrap64 ((60000 : Int) - n1) = 60000 - n1 := by unfold wrap64; omega
    have hd2 : decide ((60000 : Int) - n1 < n2) = false := decide_eq_false (by omega)
    have hb2' : ¬ (60000 : Int) - n1 < n2 := by omega
    have g1 := hg.call bel
    clear hE
    replace h1 := hide h1
    replace h2 := hide h2
    go_enter Tryz.func38, Tryz.ntmps38
    go_wp2_with fail
    go_at_call 56
    refine (c _ g1).mono ?_
    rintro e w2 ⟨a, n, G, N, l, rfl, -, -, -, b2⟩
    go_wp2_with fail
    go_ret
    exact ⟨rfl, belowCall bel b2⟩

end Go.Proofs.YtjjfgmcgonkicaaGreatDoor

/-
  slices.Grow of a nil slice and slices.Concat of two, at bytes: the new row, in new memory.
-/
namespace Go.Proofs.YtjjfgmcgonkicaaGreatDoor
open Go.RowKit

theorem grow_noneU (w : World) :
    Calls Tryz.prog 94 #[.slice none 0 0, .int .i64 0] w fun e w' => e = .returned (.slice none 0 0) ∧ w = w' := by
  go_enter Tryz.func94, Tryz.ntmps94
  go_wp2
  go_ret
  exact ⟨rfl, rfl⟩

theorem zeroCells_listU (z : Value) (n : Nat) : (Builtin.zeroCells #[z] n) = (List.replicate n z).toArray := by
  unfold Builtin.zeroCells
  apply Array.ext
  · simp
  · intro i h1 h2
    simp [Nat.mod_one]

set_option maxHeartbeats 1000000 in
set_option maxRecDepth 100000 in
theorem grow_someU (n : Nat) (w : World) (h0 : 0 < n) (hn : n ≤ 140737488355328) :
    Calls Tryz.prog 94 #[.slice none 0 0, .int .i64 n] w fun e w' => ∃ G, e = .returned (.slice (some ⟨w.heap.size, 0, none⟩) 0 G) ∧ n ≤ G ∧ G ≤ maxLen ∧ Blk w' w.heap.size (List.replicate G (.int .u8 0)) 5 ∧ Below w.heap.size w w' := by
  obtain ⟨i0, hi, hz0, hz1, hz2⟩ := info_parts infoU
  have hrz := fun ty => Lib.run_append_nil_zeros (P := Tryz.prog) w 25 3 ty 5 i0 (.int .u8 0) .i64 .i64 Tryz.underlying25 Tryz.underlying3 hi hz0 n h0 (by omega) (by omega) (by rw [hz2]; omega)
  have hG1 : n ≤ grownCap w n 0 5 := grownCap_ge w _ _ _
  have hG2 : grownCap w n 0 5 ≤ maxLen := grownCap_le_maxLen w n 0 _ (by unfold maxLen; omega)
  generalize grownCap w n 0 5 = G at *
  have hG3 := hG2
  unfold maxLen at hG3
  go_enter Tryz.func94, Tryz.ntmps94
  go_wp2_with (at_builtin; refine Lib.wpList_append_run _ rfl _ _ _ _ rfl _ _ rfl rfl _ _ (hrz _) ?_)
  go_ret
  refine ⟨G, rfl, hG1, hG2, ?_, ?_⟩
  · have e : Builtin.zeroCells #[Value.int .u8 0] n ++ Builtin.zeroCells #[Value.int .u8 0] (G - n) = (List.replicate G (Value.int .u8 0)).toArray := by
      rw [zeroCells_listU, zeroCells_listU, List.append_toArray, List.replicate_append_replicate]
      congr 2
      omega
    have h := Blk.laid w (List.replicate G (Value.int .u8 0)) 5 _ rfl
    rw [← e] at h
    exact h
  · repeat (first | exact Below.refl _ _ | apply Below.drew | refine Below.alloc ?_ (by simp) _)

set_option maxHeartbeats 1000000 in
set_option maxRecDepth 100000 in
theorem concat_someU (B : Nat) (a1 a2 : Option Addr) (c1 c2 : Nat) (l1 l2 : List Value) (w : World) (e0 : w.cell? ⟨B, 0, none⟩ = some (.slice a1 l1.length c1)) (e1 : w.cell? ⟨B, 1, none⟩ = some (.slice a2 l2.length c2))
    (s1 : Sl w a1 c1 l1) (s2 : Sl w a2 c2 l2) (o1 : ∀ v ∈ l1, v.oneCell' = true) (o2 : ∀ v ∈ l2, v.oneCell' = true) (h0 : 0 < l1.length + l2.length) (hm : l1.length + l2.length ≤ 140737488355328) (hB : B < w.heap.size) :
    Calls Tryz.prog 57 #[.slice (some ⟨B, 0, none⟩) 2 2] w fun e w' => ∃ g G, e = .returned (.slice (some ⟨g, 0, none⟩) (l1.length + l2.length) G) ∧ Sl w' (some ⟨g, 0, none⟩) G (l1 ++ l2) ∧ Below w.heap.size w w' := by
  obtain ⟨i0, hi, hz0, hz1, hz2⟩ := info_parts infoU
  go_enter Tryz.func57, Tryz.ntmps57
  go_wp2_with fail
  refine wp_loop_rounds 3 ?_
  rw [rounds_succ]
  go_wp2_with fail
  rw [rounds_succ]
  go_wp2_with fail
  rw [rounds_succ]
  go_wp2_with fail
  have hg := grow_someU (l1.length + l2.length) w h0 hm
  rw [Int.natCast_add] at hg
  refine hg.mono ?_
  rintro e w1 ⟨G, rfl, hG1, hG2, B0, bel⟩
  clear hg
  have f0 : w1.cell? ⟨B, 0, none⟩ = some (.slice a1 l1.length c1) := (bel.cell (p := ⟨B, 0, none⟩) hB).trans e0
  have f1 : w1.cell? ⟨B, 1, none⟩ = some (.slice a2 l2.length c2) := (bel.cell (p := ⟨B, 1, none⟩) hB).trans e1
  have t1 := s1.keep bel (Nat.le_refl _)
  have own0 : w1.ownsRow w.heap.size 5 1 (.slice (some ⟨w.heap.size, 0, none⟩) 0 G) 0 [] := by
    have h := ownOfBlk B0 w.heap.size (Nat.le_refl _) 0 (Nat.zero_le _) (by simpa using hG2)
    simpa using h
  have hlt := B0.lt
  clear e0 e1 B0
  have b1 : 0 + l1.length ≤ G := by omega
  have x1 := t1.src
  have y1 := t1.src0
  go_wp2_with fail
  refine wp_loop_rounds 3 ?_
  rw [rounds_succ]
  go_wp2_with (at_builtin; refine wpList_append_fits_any _ rfl (.tmp 31) (.tmp 32) 25 rfl w.heap.size 5 i0 1 Tryz.underlying25 hi hz1 w.heap.size 0 G [] rfl own0 a1 l1.length c1 l1 rfl (Nat.mul_one _).symm y1 x1 o1 b1 ?_)
  intro w2 own1 grow1
  have bel2 : Below w.heap.size w w2 := bel.grown grow1 (by omega) (fun k h => by cases h; exact Nat.le_refl _)
  have f2 : w2.cell? ⟨B, 1, none⟩ = some (.slice a2 l2.length c2) := grow1.cell f1 (by intro e; have h : B = w.heap.size := Option.some.inj e; omega)
  have t2 := s2.keep bel2 (Nat.le_refl _)
  have x2 := t2.src
  have y2 := t2.src0
  clear f0 f1 x1 y1 t1 own0 bel grow1 b1
  have b2 : l1.length + l2.length ≤ G := by omega
  go_wp2_with fail
  rw [rounds_succ]
  go_wp2_with (at_builtin; refine wpList_append_fits_any _ rfl (.tmp 31) (.tmp 32) 25 rfl w.heap.size 5 i0 1 Tryz.underlying25 hi hz1 w.heap.size l1.length G l1 rfl own1 a2 l2.length c2 l2 rfl (Nat.mul_one _).symm y2 x2 o2 b2 ?_)
  intro w3 own2 grow2
  have bel3 : Below w.heap.size w w3 := bel2.grown grow2 (bel2.size) (fun k h => by cases h; exact Nat.le_refl _)
  clear f2 x2 y2 t2 own1 bel2 grow2
  go_wp2_with fail
  rw [rounds_succ]
  go_wp2_with fail
  go_ret
  exact ⟨w.heap.size, G, rfl, (slOfOwn own2).1, bel3⟩

/-- Nothing behind a nil slice: nil. -/
theorem append_nothingU (w : World) (ty : TypeId) (ao : Option Addr) (c : Nat) :
    (Builtin.append_ #[25, 25] ty #[.slice none 0 0, .slice ao 0 c]).run Tryz.prog w = .ok (.slice none 0 0) w := by
  obtain ⟨i0, hi, hz0, hz1, hz2⟩ := info_parts infoU
  cases ao with
  | none => simp [Builtin.append_, run_underlying Tryz.underlying25, sizeOf, typeInfo, hi, Builtin.lenOf, run_firstCells_none]
  | some a =>
    have hf := run_firstCells_some (P := Tryz.prog) w i0.size 0 a 0 c [] (by simp) (fun j v h => by simp at h)
    simp [Builtin.append_, run_underlying Tryz.underlying25, sizeOf, typeInfo, hi, Builtin.lenOf, hf]

set_option maxHeartbeats 1000000 in
set_option maxRecDepth 100000 in
theorem concat_noneU (B : Nat) (a1 a2 : Option Addr) (c1 c2 : Nat) (w : World) (e0 : w.cell? ⟨B, 0, none⟩ = some (.slice a1 0 c1)) (e1 : w.cell? ⟨B, 1, none⟩ = some (.slice a2 0 c2)) :
    Calls Tryz.prog 57 #[.slice (some ⟨B, 0, none⟩) 2 2] w fun e w' => e = .returned (.slice none 0 0) ∧ w = w' := by
  go_enter Tryz.func57, Tryz.ntmps57
  go_wp2_with fail
  refine wp_loop_rounds 3 ?_
  rw [rounds_succ]
  go_wp2_with fail
  rw [rounds_succ]
  go_wp2_with fail
  rw [rounds_succ]
  go_wp2_with (go_at_call 94; refine (grow_noneU _).mono ?_; rintro e w' ⟨rfl, rfl⟩)
  refine wp_loop_rounds 3 ?_
  rw [rounds_succ]
  go_wp2_with (at_builtin; refine Lib.wpList_append_run _ rfl _ _ _ _ rfl _ _ rfl rfl _ _ (append_nothingU _ _ _ _) ?_)
  rw [rounds_succ]
  go_wp2_with (at_builtin; refine Lib.wpList_append_run _ rfl _ _ _ _ rfl _ _ rfl rfl _ _ (append_nothingU _ _ _ _) ?_)
  rw [rounds_succ]
  go_wp2_with fail
  go_ret
  exact ⟨rfl, rfl⟩

/-- slices.Concat of two, whatever they are. -/
theorem concat_anyU (B : Nat) (a1 a2 : Option Addr) (c1 c2 : Nat) (l1 l2 : List Value) (w : World) (e0 : w.cell? ⟨B, 0, none⟩ = some (.slice a1 l1.length c1)) (e1 : w.cell? ⟨B, 1, none⟩ = some (.slice a2 l2.length c2))
    (s1 : Sl w a1 c1 l1) (s2 : Sl w a2 c2 l2) (o1 : ∀ v ∈ l1, v.oneCell' = true) (o2 : ∀ v ∈ l2, v.oneCell' = true) (hm : l1.length + l2.length ≤ 140737488355328) (hB : B < w.heap.size) :
    Calls Tryz.prog 57 #[.slice (some ⟨B, 0, none⟩) 2 2] w fun e w' => ∃ ao G, e = .returned (.slice ao (l1 ++ l2).length G) ∧ Sl w' ao G (l1 ++ l2) ∧ Below w.heap.size w w' := by
  rw [List.length_append]
  by_cases h0 : 0 < l1.length + l2.length
  · refine (concat_someU B a1 a2 c1 c2 l1 l2 w e0 e1 s1 s2 o1 o2 h0 hm hB).mono ?_
    rintro e w' ⟨g, G, he, hs, hb⟩
    exact ⟨_, G, he, hs, hb⟩
  · obtain rfl : l1 = [] := List.eq_nil_of_length_eq_zero (by omega)
    obtain rfl : l2 = [] := List.eq_nil_of_length_eq_zero (by omega)
    refine (concat_noneU B a1 a2 c1 c2 w e0 e1).mono ?_
    rintro e w' ⟨he, rfl⟩
    exact ⟨none, 0, he, Sl.ofNil _, Below.refl _ _⟩

end Go.Proofs.YtjjfgmcgonkicaaGreatDoor

/-
  The reference's Synced, of a right disk.
-/
namespace Go.Proofs.YtjjfgmcgonkicaaGreatDoor
open Go.RowKit
open Go.Lib (byteCells)

theorem few_of {d : Dk} (h : dkE d = 0) : d.safe.length + d.wait.length ≤ 60000 := by
  unfold dkE at h
  split at h
  · cases h
  · omega

/-- slices.Concat of two slices of bytes. -/
theorem concat2 (B : Nat) (a1 a2 : Option Addr) (c1 c2 n1 n2 : Nat) (l m : List UInt8) (w : World) (e0 : w.cell? ⟨B, 0, none⟩ = some (.slice a1 n1 c1)) (e1 : w.cell? ⟨B, 1, none⟩ = some (.slice a2 n2 c2)) (s1 : Sl w a1 c1 (byteCells l)) (s2 : Sl w a2 c2 (byteCells m)) (h1 : n1 = l.length) (h2 : n2 = m.length) (few : n1 + n2 ≤ 1000000) (hB : B < w.heap.size) :
    Calls Tryz.prog 57 #[.slice (some ⟨B, 0, none⟩) 2 2] w fun e w' => ∃ ao G, e = .returned (.slice ao (n1 + n2) G) ∧ Sl w' ao G (byteCells (l ++ m)) ∧ Below w.heap.size w w' := by
  have k1 : n1 = (byteCells l).length := by rw [Lib.byteCells_length]; exact h1
  have k2 : n2 = (byteCells m).length := by rw [Lib.byteCells_length]; exact h2
  have e : byteCells (l ++ m) = byteCells l ++ byteCells m := by simp [byteCells]
  rw [e]
  have c := concat_anyU B a1 a2 c1 c2 (byteCells l) (byteCells m) w (by rw [← k1]; exact e0) (by rw [← k2]; exact e1) s1 s2 (byteCells_one l) (byteCells_one m) (by rw [← k1, ← k2]; omega) hB
  rw [List.length_append, ← k1, ← k2] at c
  exact c

set_option maxHeartbeats 1000000 in
set_option maxRecDepth 100000 in
theorem rsync_any (d : Dk) (a1 a2 : Option Addr) (c1 c2 n1 n2 : Nat) (w : World) (hg : Gl w) (s1 : Sl w a1 c1 (byteCells d.safe)) (s2 : Sl w a2 c2 (byteCells d.wait)) (h1 : n1 = d.safe.length) (h2 : n2 = d.wait.length) (h0 : dkE d = 0) :
    Calls Tryz.prog 53 #[.agg #[.slice a1 n1 c1, .slice a2 n2 c2]] w (AnsD w (syncD d) (syncE d)) := by
  have B1 := (Blk.laid w [.slice a1 n1 c1, .slice a2 n2 c2] 27 _ rfl).alc (.cells #[.slice none 0 0, .slice none 0 0] 27)
  have B2 := Blk.laid (w.alloc (.cells #[.slice a1 n1 c1, .slice a2 n2 c2] 27)) [.slice none 0 0, .slice none 0 0] 27 (w.heap.size + 1) (by simp)
  have bel := newB (newB (Below.refl w.heap.size w) (.cells #[.slice a1 n1 c1, .slice a2 n2 c2] 27)) (.cells #[.slice none 0 0, .slice none 0 0] 27)
  have S1 := s1.keep bel (Nat.le_refl _)
  have S2 := s2.keep bel (Nat.le_refl _)
  have hf := few_of h0
  have few : n1 + n2 ≤ 60000 := by rw [h1, h2]; exact hf
  have hE : syncE d = dkE ⟨d.safe ++ d.wait, []⟩ := if_neg (by simp [h0])
  have hD0 : syncE d ≠ 0 → syncD d = dk0 := fun h => if_neg h
  have hD1 : syncE d = 0 → syncD d = ⟨d.safe ++ d.wait, []⟩ := fun h => if_pos h
  have hJL : n1 + n2 = (d.safe ++ d.wait).length := by rw [List.length_append, h1, h2]
  have cJ := fun B W e0 e1 s t hB => concat2 B a1 a2 c1 c2 n1 n2 d.safe d.wait W e0 e1 s t h1 h2 (by omega) hB
  have cK := fun ao G W g s => rcheckD_any ⟨d.safe ++ d.wait, []⟩ ao none G 0 (n1 + n2) 0 W g s hJL rfl
  rw [← hE] at cK
  generalize syncE d = E at *
  generalize syncD d = D at *
  obtain ⟨N, hN⟩ : ∃ N, N = n1 + n2 := ⟨_, rfl⟩
  rw [← hN] at cK cJ hJL few
  replace h1 := hide h1
  replace h2 := hide h2
  replace hN := hide hN
  replace hJL := hide hJL
  clear hE h0 hf
  have x0 := B1.cell 0
  have x1 := B1.cell 1
  have l1 := B1.lt
  go_enter Tryz.func53, Tryz.ntmps53
  go_upto_region 1 with fail
  generalize World.alloc (World.alloc w _) _ = w2 at *
  have BC := Blk.laid w2 [.slice a1 n1 c1, .slice a2 n2 c2] 25 _ rfl
  have bc := newB (Below.refl w2.heap.size w2) (.cells #[.slice a1 n1 c1, .slice a2 n2 c2] 25)
  go_wp2_with fail
  go_at_call 57
  refine (cJ _ _ (BC.cell 0) (BC.cell 1) (S1.call bc) (S2.call bc) BC.lt).mono ?_
  rintro e w4 ⟨ao, G, rfl, SJ, b4⟩
  have bb := belowCall bc b4
  clear x0 x1 l1
  replace B1 := B1.keep bb B1.lt
  replace B2 := B2.keep bb B2.lt
  replace bel := belowCall bel bb
  have x0 := B1.cell 0
  have x1 := B1.cell 1
  have f0 := B1.free 0
  have f1 := B1.free 1
  have l1 := B1.lt
  have B1' := put2 B1 (.slice ao N G) (.slice none 0 0)
  have bel' := below2s bel (Nat.le_refl _) (.slice ao N G) (.slice none 0 0)
  have SJ' := slU_set (i := 1) (slU_set (i := 0) SJ B1 (slices_plain _ _ _ _ _ _) (.slice ao N G)) (B1.set 0 (.slice ao N G)) (slices_plain _ _ _ _ _ _) (.slice none 0 0)
  have B2' := (B2.other (g' := w.heap.size) 0 (.slice ao N G) (by omega)).other (g' := w.heap.size) 1 (.slice none 0 0) (by omega)
  go_upto_region 2 with fail
  clear x0 x1 f0 f1 l1 B1 bel SJ B2
  generalize World.setCell (World.setCell w4 _ _) _ _ = w5 at *
  have x0 := B1'.cell 0
  have x1 := B1'.cell 1
  have l1 := B1'.lt
  go_wp2_with fail
  go_at_call 38
  refine (cK _ _ _ (hg.call bel') SJ').mono ?_
  rintro e w6 ⟨rfl, b6⟩
  clear x0 x1 l1
  replace B1' := B1'.keep b6 B1'.lt
  replace B2' := B2'.keep b6 B2'.lt
  replace SJ' := SJ'.call b6
  replace bel' := belowCall bel' b6
  have x0 := B1'.cell 0
  have x1 := B1'.cell 1
  have l1 := B1'.lt
  have y0 := B2'.cell 0
  have y1 := B2'.cell 1
  have f0 := B2'.free 0
  have f1 := B2'.free 1
  have l2 := B2'.lt
  by_cases hE0 : E = 0
  · obtain rfl := hD1 hE0
    subst hE0
    clear hD0 hD1
    go_wp2_with fail
    have B9 := put2 B2' (.slice ao N G) (.slice none 0 0)
    have bel9 := below2s bel' (Nat.le_succ _) (.slice ao N G) (.slice none 0 0)
    have S9 := slU_set (i := 1) (slU_set (i := 0) SJ' B2' (slices_plain _ _ _ _ _ _) (.slice ao N G)) (B2'.set 0 (.slice ao N G)) (slices_plain _ _ _ _ _ _) (.slice none 0 0)
    have i0 := B9.cell 0
    have i1 := B9.cell 1
    exact bodyPost_ret (v := .tuple #[.agg #[.slice ao N G, .slice none 0 0], .int .i64 0]) (by simp [results, Tryz.results53, go_sem, i0, i1]) rfl ⟨_, none, N, 0, G, 0, rfl, hJL.out, rfl, S9, Sl.ofNil _, bel9⟩
  · obtain rfl := hD0 hE0
    have hd : decide (E = 0) = false := decide_eq_false hE0
    clear hD0 hD1
    go_wp2_with fail
    have B9 := put2 B2' (.slice none 0 0) (.slice none 0 0)
    have bel9 := below2s bel' (Nat.le_succ _) (.slice none 0 0) (.slice none 0 0)
    have i0 := B9.cell 0
    have i1 := B9.cell 1
    exact bodyPost_ret (v := .tuple #[.agg #[.slice none 0 0, .slice none 0 0], .int .i64 E]) (by simp [results, Tryz.results53, go_sem, i0, i1]) rfl (ans0 bel9)

end Go.Proofs.YtjjfgmcgonkicaaGreatDoor

/-
  slices.Grow of a nil slice and slices.Concat of two, at records: the new row, in new memory; the entries stay where they lie.
-/
namespace Go.Proofs.YtjjfgmcgonkicaaGreatDoor
open Go.RowKit

theorem growRec_none (w : World) : Calls Tryz.prog 95 #[.slice none 0 0, .int .i64 0] w fun e w' => e = .returned (.slice none 0 0) ∧ w = w' := by
  go_enter Tryz.func95, Tryz.ntmps95
  go_wp2
  go_ret
  exact ⟨rfl, rfl⟩

theorem size_zeros (z : Array Value) (n : Nat) : (Builtin.zeroCells z n).size = n * z.size := by
  unfold Builtin.zeroCells
  simp

set_option maxHeartbeats 400000 in
set_option maxRecDepth 100000 in
theorem growRec (n : Nat) (w : World) (h0 : 0 < n) (hn : n ≤ 1000000) :
    Calls Tryz.prog 95 #[.slice none 0 0, .int .i64 n] w fun e w' => ∃ G, e = .returned (.slice (some ⟨w.heap.size, 0, none⟩) 0 G) ∧ n ≤ G ∧ G ≤ maxLen ∧ w'.ownsRow w.heap.size 93 4 (.slice (some ⟨w.heap.size, 0, none⟩) 0 G) 0 [] ∧ Below w.heap.size w w' := by
  obtain ⟨i0, hi, hz0, hz1, hz2⟩ := info_parts infoRec
  have hrz := fun ty => Lib.run_append_nil_zeros (P := Tryz.prog) w 45 3 ty 93 i0 (.agg #[.int .i64 0, .int .i64 0, .int .i64 0, .slice none 0 0]) .i64 .i64 Tryz.underlying45 Tryz.underlying3 hi hz0 n h0 (by omega) (by omega) (by rw [hz2]; omega)
  have hG1 : n ≤ grownCap w n 0 93 := grownCap_ge w _ _ _
  have hG2 : grownCap w n 0 93 ≤ maxLen := grownCap_le_maxLen w n 0 _ (by unfold maxLen; omega)
  generalize grownCap w n 0 93 = G at *
  have hG3 := hG2
  unfold maxLen at hG3
  go_enter Tryz.func95, Tryz.ntmps95
  go_wp2_with (at_builtin; refine Lib.wpList_append_run _ rfl _ _ _ _ rfl _ _ rfl rfl _ _ (hrz _) ?_)
  go_ret
  refine ⟨G, rfl, hG1, hG2, ?_, ?_⟩
  · refine ⟨rfl, .inr ⟨w.heap.size, G, _, rfl, Nat.le_refl _, heap_alloc_new _ _, Nat.zero_le _, hG2, ?_, by simp⟩⟩
    rw [Array.size_append, size_zeros, size_zeros]
    show n * 4 + (G - n) * 4 = G * 4
    omega
  · repeat (first | exact Below.refl _ _ | apply Below.drew | refine Below.alloc ?_ (by simp) _)

theorem append_noneR (w : World) (ty : TypeId) (ao : Option Addr) (c : Nat) :
    (Builtin.append_ #[45, 45] ty #[.slice none 0 0, .slice ao 0 c]).run Tryz.prog w = .ok (.slice none 0 0) w := by
  obtain ⟨i0, hi, hz0, hz1, hz2⟩ := info_parts infoRec
  cases ao with
  | none => simp [Builtin.append_, run_underlying Tryz.underlying45, sizeOf, typeInfo, hi, Builtin.lenOf, run_firstCells_none]
  | some a =>
    have hf := run_firstCells_some (P := Tryz.prog) w i0.size 0 a 0 c [] (by simp) (fun j v h => by simp at h)
    simp [Builtin.append_, run_underlying Tryz.underlying45, sizeOf, typeInfo, hi, Builtin.lenOf, hf]

set_option maxHeartbeats 1000000 in
set_option maxRecDepth 100000 in
theorem concatR_none (B : Nat) (a1 a2 : Option Addr) (c1 c2 : Nat) (w : World) (e0 : w.cell? ⟨B, 0, none⟩ = some (.slice a1 0 c1)) (e1 : w.cell? ⟨B, 1, none⟩ = some (.slice a2 0 c2)) :
    Calls Tryz.prog 58 #[.slice (some ⟨B, 0, none⟩) 2 2] w fun e w' => e = .returned (.slice none 0 0) ∧ w = w' := by
  go_enter Tryz.func58, Tryz.ntmps58
  go_wp2_with fail
  refine wp_loop_rounds 3 ?_
  rw [rounds_succ]
  go_wp2_with fail
  rw [rounds_succ]
  go_wp2_with fail
  rw [rounds_succ]
  go_wp2_with (go_at_call 95; refine (growRec_none _).mono ?_; rintro e w' ⟨rfl, rfl⟩)
  refine wp_loop_rounds 3 ?_
  rw [rounds_succ]
  go_wp2_with (at_builtin; refine Lib.wpList_append_run _ rfl _ _ _ _ rfl _ _ rfl rfl _ _ (append_noneR _ _ _ _) ?_)
  rw [rounds_succ]
  go_wp2_with (at_builtin; refine Lib.wpList_append_run _ rfl _ _ _ _ rfl _ _ rfl rfl _ _ (append_noneR _ _ _ _) ?_)
  rw [rounds_succ]
  go_wp2_with fail
  go_ret
  exact ⟨rfl, rfl⟩

theorem Row.srcR {w : World} {ao : Option Addr} {cs : List Value} (h : Row w ao cs) : ∀ ad, ao = some ad → ∀ j u, cs[j]? = some u → w.cell? (ad.add j) = some u := by
  intro ad had j u hu
  obtain ⟨b, off, e, _, hc⟩ := h.at (by intro e; rw [e] at hu; simp at hu)
  rw [e] at had
  obtain rfl := Option.some.inj had
  rw [Addr.add_lit]
  exact hc j u hu

set_option maxHeartbeats 1000000 in
set_option maxRecDepth 100000 in
theorem concatR_some (B : Nat) (a1 a2 : Option Addr) (c1 c2 n1 n2 : Nat) (C1 C2 : List Value) (w : World) (e0 : w.cell? ⟨B, 0, none⟩ = some (.slice a1 n1 c1)) (e1 : w.cell? ⟨B, 1, none⟩ = some (.slice a2 n2 c2))
    (s1 : Row w a1 C1) (s2 : Row w a2 C2) (h1 : C1.length = n1 * 4) (h2 : C2.length = n2 * 4) (y1 : a1 = none → n1 = 0 ∧ c1 = 0) (y2 : a2 = none → n2 = 0 ∧ c2 = 0)
    (o1 : ∀ v ∈ C1, v.oneCell' = true) (o2 : ∀ v ∈ C2, v.oneCell' = true) (h0 : 0 < n1 + n2) (hm : n1 + n2 ≤ 1000000) (hB : B < w.heap.size) :
    Calls Tryz.prog 58 #[.slice (some ⟨B, 0, none⟩) 2 2] w fun e w' => ∃ g G, e = .returned (.slice (some ⟨g, 0, none⟩) (n1 + n2) G) ∧ w'.ownsRow w.heap.size 93 4 (.slice (some ⟨g, 0, none⟩) (n1 + n2) G) (n1 + n2) (C1 ++ C2) ∧ Below w.heap.size w w' := by
  obtain ⟨i0, hi, hz0, hz1, hz2⟩ := info_parts infoRec
  replace h1 := hide h1
  replace h2 := hide h2
  go_enter Tryz.func58, Tryz.ntmps58
  go_wp2_with fail
  refine wp_loop_rounds 3 ?_
  rw [rounds_succ]
  go_wp2_with fail
  rw [rounds_succ]
  go_wp2_with fail
  rw [rounds_succ]
  go_wp2_with fail
  have hg := growRec (n1 + n2) w h0 hm
  rw [Int.natCast_add] at hg
  refine hg.mono ?_
  rintro e w1 ⟨G, rfl, hG1, hG2, own0, bel⟩
  clear hg
  have f0 : w1.cell? ⟨B, 0, none⟩ = some (.slice a1 n1 c1) := (bel.cell (p := ⟨B, 0, none⟩) hB).trans e0
  have f1 : w1.cell? ⟨B, 1, none⟩ = some (.slice a2 n2 c2) := (bel.cell (p := ⟨B, 1, none⟩) hB).trans e1
  have t1 := (s1.keep bel (Nat.le_refl _)).srcR
  have hlt := (own0.lt w.heap.size rfl).2
  clear e0 e1
  have b1 : 0 + n1 ≤ G := by omega
  go_wp2_with fail
  refine wp_loop_rounds 3 ?_
  rw [rounds_succ]
  go_wp2_with (at_builtin; refine wpList_append_fits_any _ rfl (.tmp 31) (.tmp 32) 45 rfl w.heap.size 93 i0 4 Tryz.underlying45 hi hz1 w.heap.size 0 G [] rfl own0 a1 n1 c1 C1 rfl h1.out y1 t1 o1 b1 ?_)
  intro w2 own1 grow1
  have bel2 : Below w.heap.size w w2 := bel.grown grow1 (by omega) (fun k h => by cases h; exact Nat.le_refl _)
  have f3 : w2.cell? ⟨B, 1, none⟩ = some (.slice a2 n2 c2) := grow1.cell f1 (by intro e; have h : B = w.heap.size := Option.some.inj e; omega)
  have t2 := (s2.keep bel2 (Nat.le_refl _)).srcR
  clear f0 f1 t1 own0 bel grow1 b1
  have b2 : n1 + n2 ≤ G := by omega
  go_wp2_with fail
  rw [rounds_succ]
  go_wp2_with (at_builtin; refine wpList_append_fits_any _ rfl (.tmp 31) (.tmp 32) 45 rfl w.heap.size 93 i0 4 Tryz.underlying45 hi hz1 w.heap.size n1 G C1 rfl own1 a2 n2 c2 C2 rfl h2.out y2 t2 o2 b2 ?_)
  intro w3 own2 grow2
  have bel3 : Below w.heap.size w w3 := bel2.grown grow2 (bel2.size) (fun k h => by cases h; exact Nat.le_refl _)
  go_wp2_with fail
  rw [rounds_succ]
  go_wp2_with fail
  go_ret
  exact ⟨w.heap.size, G, rfl, own2, bel3⟩

theorem cells_one4 (l : List Lrc) : ∀ v ∈ l.flatMap Lrc.cells, v.oneCell' = true := by
  intro v hv
  obtain ⟨x, _, h⟩ := List.mem_flatMap.1 hv
  simp only [Lrc.cells, List.mem_cons, List.not_mem_nil, or_false] at h
  rcases h with rfl | rfl | rfl | rfl <;> rfl

theorem cells_len4 (l : List Lrc) : (l.flatMap Lrc.cells).length = l.length * 4 := by
  induction l with
  | nil => rfl
  | cons x r ih => rw [List.flatMap_cons, List.length_append, ih, Lrc.four, List.length_cons]; omega

/-- slices.Concat of two lists of records. -/
theorem concatRec (B : Nat) (a1 a2 : Option Addr) (c1 c2 n1 n2 : Nat) (l m : List Lrc) (w : World) (e0 : w.cell? ⟨B, 0, none⟩ = some (.slice a1 n1 c1)) (e1 : w.cell? ⟨B, 1, none⟩ = some (.slice a2 n2 c2)) (s1 : SlRec w a1 c1 l) (s2 : SlRec w a2 c2 m) (h1 : n1 = l.length) (h2 : n2 = m.length) (few : n1 + n2 ≤ 1000000) (hB : B < w.heap.size) :
    Calls Tryz.prog 58 #[.slice (some ⟨B, 0, none⟩) 2 2] w fun e w' => ∃ ao G, e = .returned (.slice ao (n1 + n2) G) ∧ SlRec w' ao G (l ++ m) ∧ Below w.heap.size w w' := by
  by_cases h0 : 0 < n1 + n2
  · refine (concatR_some B a1 a2 c1 c2 n1 n2 (l.flatMap Lrc.cells) (m.flatMap Lrc.cells) w e0 e1 s1.row.row s2.row.row (by rw [cells_len4, h1]) (by rw [cells_len4, h2]) (fun h => ⟨by have := s1.row.nil h; have := s1.row.le; omega, s1.row.nil h⟩) (fun h => ⟨by have := s2.row.nil h; have := s2.row.le; omega, s2.row.nil h⟩) (cells_one4 l) (cells_one4 m) h0 few hB).mono ?_
    rintro e w' ⟨g, G, rfl, own, b⟩
    rw [← List.flatMap_append] at own
    obtain ⟨a9, G9, e9, S9, _, _⟩ := SlW.ofOwn Lrc.four (by decide) own
    simp only [Value.slice.injEq, true_and] at e9
    obtain ⟨rfl, rfl⟩ := e9
    refine ⟨_, _, rfl, ⟨S9, fun x hx => ?_⟩, b⟩
    rcases List.mem_append.1 hx with hx | hx
    · exact (s1.ent x hx).call b
    · exact (s2.ent x hx).call b
  · obtain rfl : n1 = 0 := by omega
    obtain rfl : n2 = 0 := by omega
    obtain rfl := List.length_eq_zero_iff.1 h1.symm
    obtain rfl := List.length_eq_zero_iff.1 h2.symm
    refine (concatR_none B a1 a2 c1 c2 w e0 e1).mono ?_
    rintro e w' ⟨rfl, rfl⟩
    exact ⟨none, 0, rfl, ⟨SlW.ofNil _ _, fun x h => by simp at h⟩, Below.refl _ _⟩

end Go.Proofs.YtjjfgmcgonkicaaGreatDoor

/-
  The reference's Recovered, of a right disk.
-/
namespace Go.Proofs.YtjjfgmcgonkicaaGreatDoor
open Go.RowKit
open Go.Lib (byteCells)

/-- What Recovered says. -/
def AnsQ (w : World) (D : Dk) (L : List Rc) (e : Ending) (w' : World) : Prop :=
  ∃ (a1 a2 a3 : Option Addr) (n1 n2 c1 c2 n3 G3 : Nat) (l : List Lrc), e = .returned (.tuple #[.agg #[.slice a1 n1 c1, .slice a2 n2 c2], .slice a3 n3 G3]) ∧ n1 = D.safe.length ∧ n2 = D.wait.length ∧ Sl w' a1 c1 (byteCells D.safe) ∧ Sl w' a2 c2 (byteCells D.wait) ∧ SlRec w' a3 G3 l ∧ n3 = l.length ∧ l.map (·.r) = L ∧ Below w.heap.size w w'

theorem SlRec.set2 {w : World} {a : Option Addr} {G g : Nat} {l : List Lrc} {a1 a2 : Option Addr} {n1 n2 c1 c2 : Nat} (h : SlRec w a G l) (B : Blk w g [.slice a1 n1 c1, .slice a2 n2 c2] 27) (u0 u1 : Value) : SlRec ((w.setCell ⟨g, 0, none⟩ u0).setCell ⟨g, 1, none⟩ u1) a G l := by
  have one : ∀ {α : Type} {f : α → List Value} {a : Option Addr} {cap : Nat} {xs : List α} (sz : Nat), (∀ x, (f x).length = sz) → 0 < sz → (∀ x, ∃ v, (f x)[0]? = some (.int .i64 v)) → SlW f w a cap xs → SlW f ((w.setCell ⟨g, 0, none⟩ u0).setCell ⟨g, 1, none⟩ u1) a cap xs := by
    intro α f a cap xs sz hsz h0 hk S
    obtain ⟨hr, h1, h2, h3⟩ := S
    refine ⟨?_, h1, h2, h3⟩
    rcases hr with hr | ⟨b, off, e, hb, hc⟩
    · exact .inl hr
    · by_cases hx : xs = []
      · subst hx
        exact .inl rfl
      · refine .inr ⟨b, off, e, by simpa using hb, fun j u hu => ?_⟩
        have hne : b ≠ g := by
          rintro rfl
          obtain ⟨x, r, rfl⟩ := List.exists_cons_of_ne_nil hx
          obtain ⟨v, hv⟩ := hk x
          have hv' : ((x :: r).flatMap f)[0]? = some (.int .i64 v) := by
            rw [List.flatMap_cons, List.getElem?_append_left (by rw [hsz]; exact h0)]
            exact hv
          have hcell := hc 0 _ hv'
          rw [B.cell] at hcell
          have := List.mem_of_getElem? hcell
          simp at this
        rw [← hc j u hu]
        simp only [World.cell?]
        rw [heap_setCell_other _ ⟨g, 1, none⟩ b u1 hne, heap_setCell_other _ ⟨g, 0, none⟩ b u0 hne]
  exact ⟨one 4 Lrc.four (by decide) (fun x => ⟨_, rfl⟩) h.row, fun x hx => one 3 ec_three (by decide) (fun y => ⟨_, rfl⟩) (h.ent x hx)⟩

theorem keptN (n2 N k : Nat) (wait KP : List UInt8) (h2 : n2 = wait.length) (hN : N + (tail k wait).2.length = wait.length) (hKP : KP = wait.take (wait.length - (tail k wait).2.length)) : N ≤ n2 ∧ KP = wait.take N ∧ N = KP.length := by
  have e : wait.length - (tail k wait).2.length = N := by omega
  rw [e] at hKP
  exact ⟨by omega, hKP, by rw [hKP, List.length_take]; omega⟩

set_option maxHeartbeats 2000000 in
set_option maxRecDepth 100000 in
theorem rrecov_any (d : Dk) (a1 a2 : Option Addr) (c1 c2 n1 n2 : Nat) (w : World) (hg : Gl w) (s1 : Sl w a1 c1 (byteCells d.safe)) (s2 : Sl w a2 c2 (byteCells d.wait)) (h1 : n1 = d.safe.length) (h2 : n2 = d.wait.length) (h0 : dkE d = 0) :
    Calls Tryz.prog 21 #[.agg #[.slice a1 n1 c1, .slice a2 n2 c2]] w (AnsQ w (recD d) (recL d)) := by
  have B1 := (Blk.laid w [.slice a1 n1 c1, .slice a2 n2 c2] 27 _ rfl).alc (.cells #[.slice none 0 0, .slice none 0 0] 27)
  have B2 := Blk.laid (w.alloc (.cells #[.slice a1 n1 c1, .slice a2 n2 c2] 27)) [.slice none 0 0, .slice none 0 0] 27 (w.heap.size + 1) (by simp)
  have bel := newB (newB (Below.refl w.heap.size w) (.cells #[.slice a1 n1 c1, .slice a2 n2 c2] 27)) (.cells #[.slice none 0 0, .slice none 0 0] 27)
  have S1 := s1.keep bel (Nat.le_refl _)
  have S2 := s2.keep bel (Nat.le_refl _)
  have g := hg.call bel
  have hf := few_of h0
  have few : n1 + n2 ≤ 60000 := by rw [h1, h2]; exact hf
  have hD : recD d = ⟨d.safe ++ kept d, []⟩ := if_pos h0
  have hL : recL d = dkL d ++ (tail (dkL d).length d.wait).1 := if_pos h0
  have hdl : dkL d = (tail 0 d.safe).1 := by
    unfold dkL
    rw [if_pos h0, scan_tail d.safe.length 0 d.safe (Nat.le_refl _) (by decide)]
  have hl60 := dkL_le d
  have hkp : kept d = d.wait.take (d.wait.length - (tail (dkL d).length d.wait).2.length) := rfl
  have cv1 := fun W (S : Sl W a1 c1 (byteCells d.safe)) => run_str S h1
  have cv2 := fun W (S : Sl W a2 c2 (byteCells d.wait)) => run_str S h2
  have cL1 := fun W g => lines_any (ofB d.safe) 0 60 W g (by rw [ofB_size]; omega) rfl
  have cL2 := fun k most W g (h : most + k = 60) => lines_any (ofB d.wait) k most W g (by rw [ofB_size]; omega) h
  simp only [bytes_ofB] at cL1 cL2
  rw [← hdl] at cL1
  rw [hD, hL]
  generalize kept d = KP at *
  generalize dkL d = L0 at *
  generalize (scan 0 d.safe).2 = E1 at *
  have x0 := B1.cell 0
  have x1 := B1.cell 1
  have l1 := B1.lt
  have hcv1 := cv1 _ S1
  have hsz : w.heap.size ≤ ((w.alloc (.cells #[.slice a1 n1 c1, .slice a2 n2 c2] 27)).alloc (.cells #[.slice none 0 0, .slice none 0 0] 27)).heap.size := bel.size
  replace h1 := hide h1
  replace h2 := hide h2
  replace hkp := hide hkp
  clear hD hL hdl hf h0
  go_enter Tryz.func21, Tryz.ntmps21
  go_wp2_with fail
  generalize World.alloc (World.alloc w _) _ = w2 at *
  go_at_call 56
  refine (cL1 _ g).mono ?_
  rintro e w3 ⟨aL, nL, GL, N0, lL, rfl, RL, hlL, hN0, b3⟩
  clear x0 x1 l1 hcv1 cL1
  replace B1 := B1.keep b3 B1.lt
  replace B2 := B2.keep b3 B2.lt
  replace S1 := S1.call b3
  replace S2 := S2.call b3
  replace g := g.call b3
  replace bel := belowCall bel b3
  have hnL : nL = L0.length := by rw [RL.len, ← hlL, List.length_map]
  have hcv2 := cv2 _ S2
  have hnL6 : nL ≤ 60 := by rw [hnL]; exact hl60
  have hmo : (60 - nL) + nL = 60 := Nat.sub_add_cancel hnL6
  have hmi : (60 : Int) - (nL : Int) = ((60 - nL : Nat) : Int) := by rw [Int.ofNat_sub hnL6]; rfl
  have hmw : wrap64 ((60 - nL : Nat) : Int) = ((60 - nL : Nat) : Int) := by unfold wrap64; omega
  have cL3 := fun W g => cL2 nL (60 - nL) W g hmo
  generalize hmost : 60 - nL = most at *
  generalize (scan nL d.wait).2 = E2 at *
  have x0 := B1.cell 0
  have x1 := B1.cell 1
  have l1 := B1.lt
  clear cL2 hmo hmost
  replace hnL := hide hnL
  replace hlL := hide hlL
  go_wp2_with fail
  go_at_call 56
  refine (cL3 _ g).mono ?_
  rintro e w5 ⟨aM, nM, GM, N, lM, rfl, RM, hlM, hN, b5⟩
  clear x0 x1 l1 hcv2 cL3 cv1 cv2
  replace B1 := B1.keep b5 B1.lt
  replace B2 := B2.keep b5 B2.lt
  replace S1 := S1.call b5
  replace S2 := S2.call b5
  replace bel := belowCall bel b5
  have SL := (RL.call b5).sl
  have SM := RM.sl
  rw [hnL.out] at hlM hN
  obtain ⟨hNn, hKP, hNl⟩ := keptN n2 N L0.length d.wait KP h2.out hN hkp.out
  have hnM : nM = lM.length := RM.len
  have hnL' : nL = lL.length := RL.len
  have hNi : (N : Int) ≤ n2 := Int.ofNat_le.2 hNn
  have hJL : n1 + N = (d.safe ++ KP).length := by rw [List.length_append, ← h1.out, ← hNl]
  have hnn : n1 + N ≤ 1000000 := Nat.le_trans (Nat.add_le_add_left hNn n1) (Nat.le_trans few (by decide))
  have hc2 : n2 ≤ c2 := by have := s2.le; rw [Lib.byteCells_length, ← h2.out] at this; exact this
  have hNc : N ≤ c2 := Nat.le_trans hNn hc2
  have hNc' : (N : Int) ≤ c2 := Int.ofNat_le.2 hNc
  have hrl : (lL ++ lM).map (·.r) = L0 ++ (tail L0.length d.wait).1 := by rw [List.map_append, hlL.out, hlM]
  have hM6 : nM ≤ 60 := by
    have h' : nM = (tail L0.length d.wait).1.length := by rw [hnM, ← hlM, List.length_map]
    have h'' := scan_tail d.wait.length L0.length d.wait (Nat.le_refl _) hl60
    have h3 := scan_le d.wait.length L0.length d.wait (Nat.le_refl _) hl60
    rw [h'] 
    rw [← h'']
    omega
  have hLM : nL + nM ≤ 1000000 := Nat.le_trans (Nat.add_le_add hnL6 hM6) (by decide)
  have hLMl : nL + nM = (lL ++ lM).length := by rw [List.length_append, ← hnL', ← hnM]
  have kC : ∀ W B, Below w5.heap.size w5 W → W.cell? ⟨B, 0, none⟩ = some (.slice a1 n1 c1) → W.cell? ⟨B, 1, none⟩ = some (.slice a2 N c2) → B < W.heap.size → Calls Tryz.prog 57 #[.slice (some ⟨B, 0, none⟩) 2 2] W fun e w' => ∃ ao G, e = .returned (.slice ao (n1 + N) G) ∧ w'.cell? ⟨w.heap.size, 0, none⟩ = some (.slice a1 n1 c1) ∧ w'.cell? ⟨w.heap.size, 1, none⟩ = some (.slice a2 n2 c2) ∧ Sl w' ao G (byteCells (d.safe ++ KP)) ∧ Below W.heap.size W w' ∧ Below w5.heap.size w5 w' := by
    intro W B h e0 e1 hB
    refine (concat2 B a1 a2 c1 c2 n1 N d.safe KP W e0 e1 (S1.call h) (hKP ▸ (S2.call h).takeU N) h1.out hNl hnn hB).mono ?_
    rintro e w' ⟨ao, G, rfl, s9, b9⟩
    have bb := belowCall h b9
    exact ⟨ao, G, rfl, (B1.keep bb B1.lt).cell 0, (B1.keep bb B1.lt).cell 1, s9, b9, bb⟩
  have kR : ∀ W B, Below w5.heap.size w5 W → W.cell? ⟨B, 0, none⟩ = some (.slice aL nL GL) → W.cell? ⟨B, 1, none⟩ = some (.slice aM nM GM) → B < W.heap.size → Calls Tryz.prog 58 #[.slice (some ⟨B, 0, none⟩) 2 2] W fun e w' => ∃ ao G, e = .returned (.slice ao (nL + nM) G) ∧ w'.cell? ⟨w.heap.size, 0, none⟩ = some (.slice a1 n1 c1) ∧ w'.cell? ⟨w.heap.size, 1, none⟩ = some (.slice a2 n2 c2) ∧ w'.cell? ⟨w.heap.size + 1, 0, none⟩ = some (.slice none 0 0) ∧ w'.cell? ⟨w.heap.size + 1, 1, none⟩ = some (.slice none 0 0) ∧ w'.frozen? ⟨w.heap.size + 1, 0, none⟩ = false ∧ w'.frozen? ⟨w.heap.size + 1, 1, none⟩ = false ∧ w.heap.size + 1 < w'.heap.size ∧ SlRec w' ao G (lL ++ lM) ∧ Below W.heap.size W w' ∧ Below w5.heap.size w5 w' := by
    intro W B h e0 e1 hB
    refine (concatRec B aL aM GL GM nL nM lL lM W e0 e1 (SL.keep h (Nat.le_refl _)) (SM.keep h (Nat.le_refl _)) hnL' hnM hLM hB).mono ?_
    rintro e w' ⟨ao, G, rfl, s9, b9⟩
    have bb := belowCall h b9
    have b2' := B2.keep bb B2.lt
    exact ⟨ao, G, rfl, (B1.keep bb B1.lt).cell 0, (B1.keep bb B1.lt).cell 1, b2'.cell 0, b2'.cell 1, b2'.free 0, b2'.free 1, b2'.lt, s9, b9, bb⟩
  have x0 : w5.cell? ⟨w.heap.size, 0, none⟩ = some (.slice a1 n1 c1) := B1.cell 0
  have x1 : w5.cell? ⟨w.heap.size, 1, none⟩ = some (.slice a2 n2 c2) := B1.cell 1
  have l1 := B1.lt
  have l2 := B2.lt
  have ne1 : ¬ w.heap.size + 1 = w.heap.size := by omega
  have nlt1 : ¬ w.heap.size = w5.heap.size := Nat.ne_of_lt l1
  replace hKP := hide hKP
  replace hNl := hide hNl
  replace hnM := hide hnM
  replace hnL' := hide hnL'
  replace hN := hide hN
  replace hlM := hide hlM
  replace hJL := hide hJL
  replace hrl := hide hrl
  replace hLMl := hide hLMl
  clear hmi hmw few hl60 RL RM hN0
  go_upto_region 3 with fail
  go_region_held3 (fun w' => w'.cell? ⟨w.heap.size, 0, none⟩ = some (.slice a1 n1 c1) ∧ w'.cell? ⟨w.heap.size, 1, none⟩ = some (.slice a2 n2 c2)) (go_keep)
    (first
      | (have hzA := zA; go_at_call 58; refine (kR _ _ ?r1 ?r2 ?r3 ?r4).mono ?_; (case r1 => first | exact zA | exact newB zA _ | exact belowDrew (newB zA _)); (case r2 => first | (simp; done) | exact (bA.cell (by first | (simp; done) | (simp; omega))).trans (by simp)); (case r3 => first | (simp; done) | exact (bA.cell (by first | (simp; done) | (simp; omega))).trans (by simp)); (case r4 => first | (simp; done) | exact Nat.lt_of_lt_of_le (by first | (simp; done) | (simp; omega)) bA.size); rintro e wB ⟨aB, GB, rfl, p0, p1, q0, q1, fq0, fq1, lq, sB, bB, zB⟩)
      | (go_at_call 57; refine (kC _ _ ?c1 ?c2 ?c3 ?c4).mono ?_; (case c1 => (repeat (first | exact Below.refl _ _ | refine belowDrew ?_ | refine newB ?_ _))); (case c2 => (simp; done)); (case c3 => (simp; done)); (case c4 => first | (simp; done) | (simp; omega)); rintro e wA ⟨aA, GA, rfl, z0, z1, sA, bA, zA⟩))
  all_goals (
    go_wp2_with fail
    have B2B := B2.keep zB B2.lt
    have B9 := put2 B2B (.slice aA (n1 + N) GA) (.slice none 0 0)
    have bel9 := below2s (belowCall bel zB) (Nat.le_succ _) (.slice aA (n1 + N) GA) (.slice none 0 0)
    have sA' : Sl wB aA GA (byteCells (d.safe ++ KP)) := by first | exact sA.call bB | exact (sA.alloc _).call bB
    have S9 := slU_set (i := 1) (slU_set (i := 0) sA' B2B (slices_plain _ _ _ _ _ _) (.slice aA (n1 + N) GA)) (B2B.set 0 (.slice aA (n1 + N) GA)) (slices_plain _ _ _ _ _ _) (.slice none 0 0)
    have R9 := sB.set2 B2B (.slice aA (n1 + N) GA) (.slice none 0 0)
    have i0 := B9.cell 0
    have i1 := B9.cell 1
    exact bodyPost_ret (v := .tuple #[.agg #[.slice aA (n1 + N) GA, .slice none 0 0], .slice aB (nL + nM) GB]) (by simp [results, Tryz.results21, go_sem, i0, i1]) rfl ⟨_, none, _, n1 + N, 0, GA, 0, nL + nM, GB, lL ++ lM, rfl, hJL.out, rfl, S9, Sl.ofNil _, R9, hLMl.out, hrl.out, bel9⟩)

end Go.Proofs.YtjjfgmcgonkicaaGreatDoor
