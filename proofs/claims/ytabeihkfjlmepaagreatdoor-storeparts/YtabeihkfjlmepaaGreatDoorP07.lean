/-
  Lists of records of the call's own; disk.safeRecords, disk.Check.
-/
import Derived.Lib.SmallJoins
import Derived.Lib.Split
import Derived.Test.YtabeihkfjlmepaaGreatDoorP06
import Derived.Test.YtabeihkfjlmepaaGreatDoorP03
import Derived.Test.YtabeihkfjlmepaaGreatDoorP04
namespace Go.Proofs.YtabeihkfjlmepaaGreatDoor
open Go.RowKit
open Go.Lib (byteCells)

def strLen : Value → Nat
  | .string b => b.size
  | _ => 0

set_option maxHeartbeats 2000000 in
set_option maxRecDepth 100000 in
theorem safe_any (d : Dk) (a1 a2 : Option Addr) (c1 c2 n1 n2 : Nat) (w : World) (hg : Gl w) (s1 : Sl w a1 c1 (byteCells d.safe)) (h1 : n1 = d.safe.length) (h2 : n2 = d.wait.length) (few : n1 + n2 ≤ 9223372036854775807) :
    Calls Tryz.prog 28 #[.agg #[.slice a1 n1 c1, .slice a2 n2 c2]] w fun e w' => ∃ (a : Option Addr) (n G : Nat) (l : List Lrc), e = .returned (.tuple #[.slice a n G, .int .i64 (dkE d)]) ∧ Recs w.heap.size w' a n G l ∧ l.map (·.r) = dkL d ∧ Below w.heap.size w w' := by
  have B0 := Blk.laid w [.slice a1 n1 c1, .slice a2 n2 c2] 24 _ rfl
  have bel := newB (Below.refl w.heap.size w) (.cells #[.slice a1 n1 c1, .slice a2 n2 c2] 24)
  have cs := fun W => size_any a1 a2 c1 c2 n1 n2 W few
  have hE : dkE d = if 60000 < n1 + n2 then 2 else (scan 0 d.safe).2 := by unfold dkE; rw [h1, h2]
  have hL : dkE d ≠ 0 → dkL d = [] := fun h => if_neg h
  obtain ⟨N, hN⟩ : ∃ N, N = n1 + n2 := ⟨_, rfl⟩
  rw [← hN] at cs hE
  by_cases hb : 60000 < N
  · rw [if_pos hb] at hE
    rw [hL (by rw [hE]; decide), hE]
    have hb' : (60000 : Int) < N := by omega
    replace h1 := hide h1
    replace h2 := hide h2
    replace hN := hide hN
    clear hE hL
    go_enter Tryz.func28, Tryz.ntmps28
    go_wp2_with fail
    generalize w.alloc _ = w1 at *
    go_at_call 26
    refine (cs _).mono ?_
    rintro e w2 ⟨rfl, b2⟩
    go_wp2_with fail
    go_ret2
    exact ⟨none, 0, 0, [], rfl, Recs.nil _ _, rfl, belowCall bel b2⟩
  · rw [if_neg hb] at hE
    have hb' : ¬ (60000 : Int) < N := by omega
    have hL0 : dkE d = 0 → dkL d = (scan 0 d.safe).1 := fun h => if_pos h
    have hsl : d.safe.length ≤ 60000 := by omega
    have hcv := fun (W : World) (S : Sl W a1 c1 (byteCells d.safe)) => run_str S h1
    obtain ⟨i0, hi, hz0, hz1, hz2⟩ := info_parts infoRec
    generalize dkE d = E at *
    generalize dkL d = DL at *
    generalize hSC : scan 0 d.safe = SC at *
    replace hE := hide hE
    replace hSC := hide hSC
    replace h1 := hide h1
    replace h2 := hide h2
    replace hN := hide hN
    go_enter Tryz.func28, Tryz.ntmps28
    go_wp2_with fail
    generalize w.alloc _ = w1 at *
    go_at_call 26
    refine (cs _).mono ?_
    rintro e w2 ⟨rfl, b2⟩
    have bel2 := belowCall bel b2
    have B2 := B0.keep b2 B0.lt
    have q0 : w2.cell? ⟨w.heap.size, 0, none⟩ = some (.slice a1 n1 c1) := B2.cell 0
    have l2 := B2.lt
    have g2 := hg.call bel2
    have hcv2 := hcv w2 (s1.keep bel2 (Nat.le_refl _))
    go_wp2_with fail
    go_loopw [4, 5] (fun s4 s5 wr => ∃ (rest : ByteArray) (k G : Nat) (ao : Option Addr) (l : List Lrc), s4 = .slice ao k G ∧ s5 = .string rest ∧ Recs w.heap.size wr ao k G l ∧ k ≤ 60 ∧ rest.size ≤ 60000 ∧ Hid (SC = (l.map (·.r) ++ (scan k (bytes rest)).1, (scan k (bytes rest)).2)) ∧ Below w.heap.size w wr) (fun _ s5 _ => strLen s5)
    case atStart => exact ⟨_, 0, 0, none, [], rfl, rfl, Recs.nil _ _, by omega, by show (ofB d.safe).size ≤ _; rw [ofB_size]; exact hsl, by show SC = _; rw [show bytes ⟨d.safe.toArray⟩ = d.safe from bytes_ofB _]; exact hSC.out.symm, bel2⟩
    case round =>
      obtain ⟨rest, k, G, ao, l, rfl, rfl, R, hk, hr, hsc, belr⟩ := hrel
      by_cases hne : rest = ⟨#[]⟩
      · subst hne
        have hs : SC = (l.map (·.r), 0) := by
          rw [hsc.out]
          show ((l.map (·.r)) ++ (scan k []).1, (scan k []).2) = _
          rw [scan_nil, List.append_nil]
        obtain rfl : E = 0 := by rw [hE.out, hs]
        have hDL : l.map (·.r) = DL := by rw [hL0 rfl, hs]
        go_wp2_with fail
        go_ret2
        exact ⟨_, _, _, l, rfl, R, hDL, belr⟩
      · have hne2 : bytes rest ≠ [] := fun h => hne (by rw [← ofB_bytes rest, h]; rfl)
        have hne3 : (rest.toList == []) = false := by rw [toList_bytes]; exact beq_eq_false_iff_ne.2 hne2
        have hne4 : ¬ rest.toList = [] := by rw [toList_bytes]; exact hne2
        have cF := fun W g => first_any rest W g hr
        have gr := hg.call belr
        have hbadE : lnE (bytes rest) ≠ 0 → E = lnE (bytes rest) := by
          intro h
          rw [hE.out, hsc.out, scan_bad hne2 h]
        have hmany : lnE (bytes rest) = 0 → k = 60 → E = 2 := by
          rintro h rfl
          rw [hE.out, hsc.out, scan_many hne2 h]
        have hstep : lnE (bytes rest) = 0 → k ≠ 60 → SC = (l.map (·.r) ++ [lnR (bytes rest)] ++ (scan (k + 1) (lnB (bytes rest))).1, (scan (k + 1) (lnB (bytes rest))).2) := by
          intro h h'
          rw [hsc.out, scan_step hne2 h h']
          simp
        have hlt : lnE (bytes rest) = 0 → (ofB (lnB (bytes rest))).size < rest.size := by
          intro h
          rw [ofB_size, ← bytes_len rest]
          exact lnB_less h
        have hbB : bytes (ofB (lnB (bytes rest))) = lnB (bytes rest) := bytes_ofB _
        obtain ⟨PB, hPB⟩ : ∃ PB, PB = ofB (lnB (bytes rest)) := ⟨_, rfl⟩
        rw [← hbB] at hstep
        rw [← hPB] at hstep hlt
        simp only [← hPB] at cF
        clear hPB hbB
        generalize lnR (bytes rest) = PR at *
        generalize lnE (bytes rest) = PE at *
        obtain ⟨K, s', m', es⟩ := PR
        simp only at *
        obtain ⟨ln, hln⟩ : ∃ ln, ln = es.length := ⟨_, rfl⟩
        rw [← hln] at cF
        replace hln := hide hln
        replace hne2 := hide hne2
        go_wp2_with fail
        go_at_call 29
        refine (cF _ gr).mono ?_
        rintro e w4 ⟨a4, G4, rfl, o4, b4⟩
        have bel4 := belowCall belr b4
        have R4 := R.call b4
        by_cases h0 : PE = 0
        · subst h0
          have BX := Blk.laid w4 [.int .i64 K, .int .i64 s', .int .i64 m', .slice a4 ln G4] 27 _ rfl
          have bq := newB (Below.refl w4.heap.size w4) (.cells #[.int .i64 K, .int .i64 s', .int .i64 m', .slice a4 ln G4] 27)
          have bel5 := belowCall bel4 bq
          have R5 := R4.call bq
          have o5 := owndown (o4.alloc (.cells #[.int .i64 K, .int .i64 s', .int .i64 m', .slice a4 ln G4] 27)) belr.size
          by_cases h6 : k = 60
          · subst h6
            obtain rfl := hmany rfl rfl
            have hDL := hL (by decide)
            go_upto_region 9 with fail
            generalize w4.alloc _ = w5 at *
            go_wp2_with fail
            go_ret2
            exact ⟨none, 0, 0, [], rfl, Recs.nil _ _, hDL.symm, bel5⟩
          · have h6' : ¬ (k : Int) = 60 := by omega
            have hst := hide (hstep rfl h6)
            have hlt' := hlt rfl
            clear hstep hmany hbadE hlt
            go_upto_region 11 with fail
            generalize w4.heap.size = gX at *
            generalize w4.alloc _ = w5 at *
            have x0 := BX.cell 0
            have x1 := BX.cell 1
            have x2 := BX.cell 2
            have x3 := BX.cell 3
            have lX := BX.lt
            go_wp2_with (at_builtin; refine wpList_append_new w5 rfl (.tmp 29) (.tmp 31) 33 rfl w.heap.size 27 i0 _ 4 48 Tryz.underlying33 hi hz0 hz1 hz2 rfl (by decide) (.slice ao k G) k _ (by rfl) R5.row 1 #[.int .i64 K, .int .i64 s', .int .i64 m', .slice a4 ln G4] 27 (by rfl) (by rfl) (by simp [Value.oneCell']) (by decide) (by unfold maxLen; omega) (by omega) bel5.size ?_)
            intro v7 w7 own7 grow7 went7
            have bel7 := belowGrown bel5 R5.row grow7 (Nat.le_refl _) bel5.size
            obtain ⟨a8, G8, rfl, R8⟩ := R5.snoc (x := ⟨⟨K, s', m', es⟩, a4, G4⟩) (by show World.ownsRow _ _ _ _ (.slice a4 es.length G4) es.length _; rw [← hln.out]; exact o5) (by unfold Lrc.cells; simp only; rw [← hln.out]; exact own7) grow7
            go_wp2_with fail
            go_roundw
            case rel => exact ⟨PB, k + 1, G8, a8, l ++ [⟨⟨K, s', m', es⟩, a4, G4⟩], rfl, rfl, R8, by omega, by omega, by rw [List.map_append]; exact hst, bel7⟩
            case measure => exact hlt'
        · obtain rfl := hbadE h0
          have hDL := hL h0
          have hd : decide (E = 0) = false := decide_eq_false h0
          have bq := newB (Below.refl w4.heap.size w4) (.cells #[.int .i64 K, .int .i64 s', .int .i64 m', .slice a4 ln G4] 27)
          have bel5 := belowCall bel4 bq
          go_upto_region 7 with fail
          generalize w4.alloc _ = w5 at *
          go_wp2_with fail
          go_ret2
          exact ⟨none, 0, 0, [], rfl, Recs.nil _ _, hDL.symm, bel5⟩

set_option maxRecDepth 100000 in
theorem dcheck_any (d : Dk) (a1 a2 : Option Addr) (c1 c2 n1 n2 : Nat) (w : World) (hg : Gl w) (s1 : Sl w a1 c1 (byteCells d.safe)) (h1 : n1 = d.safe.length) (h2 : n2 = d.wait.length) (few : n1 + n2 ≤ 9223372036854775807) :
    Calls Tryz.prog 11 #[.agg #[.slice a1 n1 c1, .slice a2 n2 c2]] w fun e w' => e = .returned (.int .i64 (dkE d)) ∧ Below w.heap.size w w' := by
  have bel := newB (Below.refl w.heap.size w) (.cells #[.slice a1 n1 c1, .slice a2 n2 c2] 24)
  have c := fun W g s => safe_any d a1 a2 c1 c2 n1 n2 W g s h1 h2 few
  have g1 := hg.call bel
  have t1 := s1.keep bel (Nat.le_refl _)
  generalize dkE d = E at *
  replace h1 := hide h1
  replace h2 := hide h2
  go_enter Tryz.func11, Tryz.ntmps11
  go_wp2_with fail
  generalize w.alloc _ = w1 at *
  go_at_call 28
  refine (c _ g1 t1).mono ?_
  rintro e w2 ⟨a, n, G, l, rfl, -, -, b2⟩
  go_wp2_with fail
  go_ret
  exact ⟨rfl, belowCall bel b2⟩

end Go.Proofs.YtabeihkfjlmepaaGreatDoor

/-
  How an argument that is a disk, by value, is opened: two slices of bytes.
-/
namespace Go.Proofs.YtabeihkfjlmepaaGreatDoor
open Go.RowKit Go.ChangeShapes Go.WideShapes Go.ChangeAt Go.Joins
open Go.Lib (byteCells)

def bcell (b : UInt8) : List Value := [.int .u8 b.toNat]

theorem bcells (l : List UInt8) : l.flatMap bcell = byteCells l := by
  induction l with
  | nil => rfl
  | cons b r ih => rw [List.flatMap_cons, ih]; rfl

theorem sl_bcells {w : World} {a : Option Addr} {cap : Nat} {l : List UInt8} (h : SlW bcell w a cap l) : Sl w a cap (byteCells l) := by
  obtain ⟨h1, h2, h3, h4⟩ := h
  rw [bcells] at h1
  exact ⟨h1, by rw [Lib.byteCells_length]; exact h2, h3, h4⟩

theorem open_byte {H : Type} {enc : TypeId × Value → H} {W : World} (cs : List Value) (x : DataW H × List MemPlace) (m : Nat) (hl : cs.length = 1) (h : DataW.trod enc Tryz.prog W 0 (fun _ => true) true m 5 cs = some x) (_ : Light 5 x.1) :
    ∃ y : UInt8, cs = bcell y ∧ True := by
  match cs, hl with
  | [c], _ =>
    obtain ⟨z, hb1, _, hw⟩ := DataW.trod_int Tryz.underlying5 h
    simp at hb1
    subst hb1
    have hz : 0 ≤ z ∧ z < 256 := by
      simp [Lit.wf, IntKind.min, IntKind.max, IntKind.signed, IntKind.bits] at hw
      omega
    refine ⟨UInt8.ofNat z.toNat, ?_, trivial⟩
    unfold bcell
    have : ((UInt8.ofNat z.toNat).toNat : Int) = z := by
      rw [UInt8.toNat_ofNat']
      omega
    rw [this]

set_option maxRecDepth 100000 in
theorem cellsDisk : Tryz.prog.cellsOf 24 = 2 := by kernel_rfl

set_option maxRecDepth 100000 in
theorem bytesU : Tryz.prog.bytesOf 5 = 1 := by kernel_rfl

set_option maxRecDepth 100000 in
theorem open_disk {H : Type} {enc : TypeId × Value → H} {W : World} {r : Reach} {b0 : Nat} {v : Value} {d : DataW H} {p : List MemPlace} (hv : Value.okWide Tryz.prog W r b0 24 v)
    (h : DataW.Trod enc Tryz.prog W 0 (fun _ => true) true 24 v d p) (hw : Light 24 d) :
    ∃ (q : Dk) (a1 a2 : Option Addr) (c1 c2 : Nat), v = .agg #[.slice a1 q.safe.length c1, .slice a2 q.wait.length c2] ∧ Sl W a1 c1 (byteCells q.safe) ∧ Sl W a2 c2 (byteCells q.wait) ∧ q.safe.length + q.wait.length ≤ 9223372036854775807 := by
  obtain ⟨v0, v1, y0, y1, m, rfl, rfl, rfl, h0, h1⟩ := open_agg2 Tryz.underlying24 (by kernel_rfl) cellsDisk hv h
  obtain ⟨a1, n1, c1, e1⟩ := slice_form Tryz.underlying22 h0
  obtain ⟨a2, n2, c2, e2⟩ := slice_form Tryz.underlying22 h1
  simp at e1 e2
  subst e1 e2
  have hw0 : Light 22 y0.1 := by
    intro n hn
    refine hw n ?_
    simp [DataW.weights, DataW.weightsEach, Tryz.underlying24, hn]
  have hw1 : Light 22 y1.1 := by
    intro n hn
    refine hw n ?_
    simp [DataW.weights, DataW.weightsEach, Tryz.underlying24, hn]
  obtain ⟨l, hl, s1, _, k1⟩ := open_wide (ao := a1) (n := n1) (cap := c1) bcell (fun _ => True) Tryz.underlying22 (by kernel_rfl) (by decide) (fun _ => rfl) (fun cs x m => open_byte cs x m) (by simpa [Value.cells] using h0) hw0
  obtain ⟨l2, hl2, s2, _, k2⟩ := open_wide (ao := a2) (n := n2) (cap := c2) bcell (fun _ => True) Tryz.underlying22 (by kernel_rfl) (by decide) (fun _ => rfl) (fun cs x m => open_byte cs x m) (by simpa [Value.cells] using h1) hw1
  subst hl hl2
  rw [bytesU] at k1 k2
  have t1 := s1.le
  have t2 := s2.le
  exact ⟨⟨l, l2⟩, a1, a2, c1, c2, rfl, sl_bcells s1, sl_bcells s2, by simp only; omega⟩

end Go.Proofs.YtabeihkfjlmepaaGreatDoor

/-
  Slices of records, with their entries (RecLs holds them; package disk's list is one).
-/
namespace Go.Proofs.YtabeihkfjlmepaaGreatDoor
end Go.Proofs.YtabeihkfjlmepaaGreatDoor

/-
  A list of records of the call's own whose entries lie where they came in.
-/
namespace Go.Proofs.YtabeihkfjlmepaaGreatDoor
open Go.RowKit

structure Outs (W0 : World) (base : Nat) (w : World) (a : Option Addr) (n G : Nat) (l : List Lrc) : Prop where
  len : n = l.length
  row : w.ownsRow base 27 4 (.slice a n G) n (l.flatMap Lrc.cells)
  ent : ∀ x ∈ l, SlW ec W0 x.a x.c x.r.e

theorem Outs.nil (W0 : World) (base : Nat) (w : World) : Outs W0 base w none 0 0 [] := ⟨rfl, World.ownsRow_nil _ _ _ _, fun x h => by simp at h⟩

theorem Outs.call {W0 : World} {base : Nat} {w w' : World} {a : Option Addr} {n G : Nat} {l : List Lrc} (h : Outs W0 base w a n G l) (hb : Below w.heap.size w w') : Outs W0 base w' a n G l :=
  ⟨h.len, ownCall h.row hb, h.ent⟩

theorem Outs.down {W0 : World} {base base' : Nat} {w : World} {a : Option Addr} {n G : Nat} {l : List Lrc} (h : Outs W0 base w a n G l) (hb : base' ≤ base) : Outs W0 base' w a n G l :=
  ⟨h.len, owndown h.row hb, h.ent⟩

/-- One more record. -/
theorem Outs.snoc {W0 : World} {base : Nat} {w w' : World} {a : Option Addr} {n G : Nat} {l : List Lrc} {v : Value} (h : Outs W0 base w a n G l) (x : Lrc) (hx : SlW ec W0 x.a x.c x.r.e) (o : w'.ownsRow base 27 4 v (n + 1) (l.flatMap Lrc.cells ++ x.cells)) :
    ∃ a' G', v = .slice a' (n + 1) G' ∧ Outs W0 base w' a' (n + 1) G' (l ++ [x]) := by
  obtain ⟨g7, G7, rfl⟩ : ∃ g7 G7, v = .slice (some ⟨g7, 0, none⟩) (n + 1) G7 := by
    rcases o.2 with ⟨_, h⟩ | ⟨g, cap, cur, h, _⟩
    · omega
    · exact ⟨_, _, h⟩
  refine ⟨_, _, rfl, by rw [List.length_append, h.len]; rfl, by rw [List.flatMap_append]; simpa using o, fun y hy => ?_⟩
  rcases List.mem_append.1 hy with hy | hy
  · exact h.ent y hy
  · simp only [List.mem_cons, List.not_mem_nil, or_false] at hy
    subst hy
    exact hx

theorem Outs.sl {W0 : World} {base : Nat} {w : World} {a : Option Addr} {n G : Nat} {l : List Lrc} (h : Outs W0 base w a n G l) (hb : Below W0.heap.size W0 w) : SlRec w a G l := by
  obtain ⟨a9, G9, e9, S9, _, _⟩ := SlW.ofOwn Lrc.four (by decide) h.row
  simp only [Value.slice.injEq, true_and] at e9
  obtain ⟨rfl, rfl⟩ := e9
  exact ⟨S9, fun x hx => (h.ent x hx).keep hb (Nat.le_refl _)⟩

end Go.Proofs.YtabeihkfjlmepaaGreatDoor

/-
  Texts cut at blanks, as plain lists: strings.Split and strings.Cut at one blank; what is cut and what is laid together. No program is named.
-/
namespace Go.Proofs.YtabeihkfjlmepaaGreatDoor
open Go.Lib (index splitK count)

/-- The words between blanks. -/
def sp : List UInt8 → List (List UInt8)
  | [] => [[]]
  | c :: r => if c = 32 then [] :: sp r else (c :: (sp r).headD []) :: (sp r).tail

theorem sp_ne (l : List UInt8) : sp l ≠ [] := by
  cases l with
  | nil => simp [sp]
  | cons c r => unfold sp; split <;> simp

theorem sp_none : ∀ l : List UInt8, (∀ c ∈ l, c ≠ 32) → sp l = [l]
  | [], _ => rfl
  | c :: r, h => by
    rw [sp, if_neg (h c List.mem_cons_self), sp_none r (fun x hx => h x (List.mem_cons_of_mem _ hx))]
    rfl

theorem sp_some : ∀ (p q : List UInt8), (∀ c ∈ p, c ≠ 32) → sp (p ++ 32 :: q) = p :: sp q
  | [], q, _ => by rw [List.nil_append, sp, if_pos rfl]
  | c :: r, q, h => by
    rw [List.cons_append, sp, if_neg (h c List.mem_cons_self), sp_some r q (fun x hx => h x (List.mem_cons_of_mem _ hx))]
    rfl

/-- Where the first blank is. -/
theorem index_blank : ∀ l : List UInt8, (index l [32] = -1 ∧ ∀ c ∈ l, c ≠ 32) ∨ (∃ p q, l = p ++ 32 :: q ∧ (∀ c ∈ p, c ≠ 32) ∧ index l [32] = p.length)
  | [] => .inl ⟨rfl, fun c h => by simp at h⟩
  | c :: r => by
    by_cases hc : c = 32
    · subst hc
      exact .inr ⟨[], r, rfl, fun c h => by simp at h, by simp [index]⟩
    · have hp : ([32] : List UInt8).isPrefixOf (c :: r) = false := by simp [List.isPrefixOf, Ne.symm hc]
      rcases index_blank r with ⟨h1, h2⟩ | ⟨p, q, rfl, h2, h3⟩
      · left
        refine ⟨by rw [index, hp, h1]; rfl, fun x hx => ?_⟩
        rcases List.mem_cons.1 hx with rfl | hx
        · exact hc
        · exact h2 x hx
      · right
        refine ⟨c :: p, q, rfl, fun x hx => ?_, ?_⟩
        · rcases List.mem_cons.1 hx with rfl | hx
          · exact hc
          · exact h2 x hx
        · rw [index, hp, h3]
          have : ((p.length : Int) == -1) = false := by simp
          simp [this]

theorem split_sp : ∀ (n : Nat) (l : List UInt8), l.length ≤ n → splitK [32] 0 (count l [32]) l = sp l := by
  intro n
  induction n with
  | zero =>
    intro l h
    obtain rfl := List.length_eq_zero_iff.1 (Nat.le_zero.1 h)
    rw [Lib.count_miss rfl]
    rfl
  | succ n ih =>
    intro l h
    rcases index_blank l with ⟨h1, h2⟩ | ⟨p, q, rfl, h2, h3⟩
    · rw [Lib.count_miss h1, sp_none l h2]
      rfl
    · have hd : (p ++ 32 :: q).drop (p.length + 1) = q := by
        rw [show p.length + 1 = (p ++ [32]).length by simp, show p ++ 32 :: q = (p ++ [32]) ++ q by simp, List.drop_left]
      rw [Lib.count_hit (by simp) h3, Nat.add_comm 1, splitK, h3, sp_some p q h2]
      have hne : ((p.length : Int) == -1) = false := by simp
      rw [hne]
      simp only [Bool.false_eq_true, if_false, Int.toNat_natCast, List.length_cons, List.length_nil, Nat.zero_add, Nat.add_zero]
      rw [hd, ih q (by simp at h; omega), List.take_left]

theorem words_sp (s : ByteArray) : (wordsB s).map bytes = sp (bytes s) := by
  unfold wordsB
  have h := Lib.splitB_data blank 0 (Lib.countB s blank) s
  exact h.trans (split_sp _ (bytes s) (Nat.le_refl _))

theorem textR_sp (s : ByteArray) : textR s = readR (sp (bytes s)) := by
  unfold textR
  rw [words_sp]

/-- Words laid together, a blank between them. -/
def jn32 : List (List UInt8) → List UInt8
  | [] => []
  | w :: r => w ++ r.flatMap (fun x => 32 :: x)

theorem jn_sp : ∀ l : List UInt8, jn32 (sp l) = l
  | [] => rfl
  | c :: r => by
    have ih := jn_sp r
    obtain ⟨w, ws, hw⟩ := List.exists_cons_of_ne_nil (sp_ne r)
    rw [hw] at ih
    unfold sp
    split
    · rename_i h
      subst h
      rw [hw, jn32, List.nil_append, List.flatMap_cons, ← ih]
      simp [jn32]
    · rw [hw, ← ih]
      simp [jn32]

theorem sp_jn : ∀ (ws : List (List UInt8)) (w : List UInt8), (∀ x ∈ w :: ws, ∀ c ∈ x, c ≠ 32) → sp (jn32 (w :: ws)) = w :: ws
  | [], w, h => by
    rw [jn32, List.flatMap_nil, List.append_nil]
    exact sp_none w (h w List.mem_cons_self)
  | x :: r, w, h => by
    have ih := sp_jn r x (fun y hy => h y (List.mem_cons_of_mem _ hy))
    rw [jn32] at ih
    rw [jn32, List.flatMap_cons, List.cons_append, sp_some w _ (h w List.mem_cons_self), ih]

end Go.Proofs.YtabeihkfjlmepaaGreatDoor

/-
  strconv.Atoi of strconv.Itoa is the number, as plain lists; a numeral has no blank. No program is named.
-/
namespace Go.Proofs.YtabeihkfjlmepaaGreatDoor
open Go.Lib (parseUint10 decDigits itoa atoiAll parseMag)

theorem parse_append (l m : List UInt8) : ∀ acc v, parseUint10 acc l = .ok v → parseUint10 acc (l ++ m) = parseUint10 v m := by
  induction l with
  | nil =>
    intro acc v h
    simp only [parseUint10] at h
    injection h with h
    subst h
    rfl
  | cons c r ih =>
    intro acc v h
    simp only [parseUint10] at h
    simp only [List.cons_append, parseUint10]
    split at h
    · rename_i h1
      rw [if_pos h1]
      split at h
      · cases h
      · rename_i h2
        rw [if_neg h2]
        split at h
        · cases h
        · rename_i h3
          rw [if_neg h3]
          exact ih _ v h
    · cases h

theorem digit_toNat {d : Nat} (h : d < 10) : (UInt8.ofNat (48 + d)).toNat = 48 + d := by
  rw [UInt8.toNat_ofNat']
  omega

theorem parse_dec (u : Nat) (h : u < 18446744073709551616) : parseUint10 0 (decDigits u) = .ok u := by
  induction u using Nat.strongRecOn with
  | _ u ih =>
    rw [decDigits]
    split
    · rename_i h1
      simp only [parseUint10, digit_toNat h1]
      rw [if_pos (by omega), if_neg (by omega), if_neg (by omega)]
      simp
    · rename_i h1
      rw [parse_append _ _ 0 (u / 10) (ih (u / 10) (by omega) (by omega))]
      simp only [parseUint10, digit_toNat (show u % 10 < 10 by omega)]
      rw [if_pos (by omega), if_neg (by omega), if_neg (by omega)]
      congr 1
      omega

theorem dec_digits (u : Nat) : ∀ c ∈ decDigits u, 48 ≤ c.toNat ∧ c.toNat ≤ 57 := by
  induction u using Nat.strongRecOn with
  | _ u ih =>
    intro c hc
    rw [decDigits] at hc
    split at hc
    · rename_i h1
      obtain rfl := List.mem_singleton.1 hc
      rw [digit_toNat h1]
      omega
    · rename_i h1
      rcases List.mem_append.1 hc with hc | hc
      · exact ih (u / 10) (by omega) c hc
      · obtain rfl := List.mem_singleton.1 hc
        rw [digit_toNat (show u % 10 < 10 by omega)]
        omega

theorem dec_ne (u : Nat) : decDigits u ≠ [] := by
  rw [decDigits]
  split <;> simp

theorem itoa_plain (n : Int) : ∀ c ∈ itoa n, c ≠ 32 := by
  intro c hc e
  subst e
  unfold itoa at hc
  split at hc
  · rcases List.mem_cons.1 hc with h | h
    · cases h
    · have := dec_digits _ _ h
      simp at this
  · have := dec_digits _ _ hc
    simp at this

theorem atoi_itoa (n : Int) (h0 : -9223372036854775808 ≤ n) (h1 : n ≤ 9223372036854775807) : atoiAll (itoa n) = .ok n := by
  unfold itoa
  split
  · rename_i hn
    have hm : parseMag (decDigits n.natAbs) = .ok n.natAbs := by
      unfold parseMag
      rw [if_neg (dec_ne _)]
      exact parse_dec _ (by omega)
    unfold atoiAll
    have e45 : (45 : UInt8).toNat = 45 := rfl
    simp only [e45, or_true, if_true, hm, not_true, false_and, if_false, true_and]
    rw [if_neg (by omega)]
    congr 1
    omega
  · rename_i hn
    obtain ⟨c, r, hcr⟩ := List.exists_cons_of_ne_nil (dec_ne n.toNat)
    have hd := dec_digits n.toNat c (by rw [hcr]; exact List.mem_cons_self)
    have hm : parseMag (c :: r) = .ok n.toNat := by
      rw [← hcr]
      unfold parseMag
      rw [if_neg (dec_ne _)]
      exact parse_dec _ (by omega)
    rw [hcr]
    unfold atoiAll
    have n1 : ¬ c.toNat = 43 := by omega
    have n2 : ¬ c.toNat = 45 := by omega
    simp only [n1, n2, or_self, if_false, hm, not_false_eq_true, true_and, false_and]
    rw [if_neg (by omega)]
    congr 1
    omega

theorem readNum_itoa (n : Int) (h0 : -9223372036854775808 ≤ n) (h1 : n ≤ 9223372036854775807) : readNum (itoa n) = some n := by
  unfold readNum
  rw [atoi_itoa n h0 h1]
  simp

theorem readNums_itoa : ∀ l : List Int, (∀ n ∈ l, -9223372036854775808 ≤ n ∧ n ≤ 9223372036854775807) → readNums (l.map itoa) = some l
  | [], _ => rfl
  | n :: r, h => by
    obtain ⟨h0, h1⟩ := h n List.mem_cons_self
    rw [List.map_cons, readNums, readNum_itoa n h0 h1, readNums_itoa r (fun m hm => h m (List.mem_cons_of_mem _ hm))]
    rfl

/-- What is read of words is what they write. -/
theorem readNums_back : ∀ (ws : List (List UInt8)) (ns : List Int), readNums ws = some ns → ws = ns.map itoa
  | [], ns, h => by
    simp only [readNums, Option.some.injEq] at h
    subst h
    rfl
  | w :: r, ns, h => by
    simp only [readNums] at h
    cases hx : readNum w with
    | none => rw [hx] at h; cases h
    | some v =>
      rw [hx] at h
      simp only [Option.bind_some] at h
      cases hr : readNums r with
      | none => rw [hr] at h; cases h
      | some vr =>
        rw [hr] at h
        simp only [Option.map_some, Option.some.injEq] at h
        subst h
        rw [List.map_cons, ← readNums_back r vr hr]
        unfold readNum at hx
        split at hx
        · split at hx
          · rename_i h2
            simp only [Option.some.injEq] at hx
            subst hx
            rw [h2]
          · cases hx
        · cases hx

theorem numsT_map (l : List Int) : numsT l = (l.map itoa).flatMap (fun x => 32 :: x) := by
  unfold numsT
  rw [List.flatMap_map]

end Go.Proofs.YtabeihkfjlmepaaGreatDoor
