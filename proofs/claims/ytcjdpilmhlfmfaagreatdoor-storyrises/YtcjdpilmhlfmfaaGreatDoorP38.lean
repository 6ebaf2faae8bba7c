/-
  slices.Clone at bytes and at numbers.
-/
import Derived.Deep.RegionHeld3
import Derived.Deep.Cut
import Derived.Deep.CutRange
import Derived.Lib.MinMax
import Derived.Test.YtcjdpilmhlfmfaaGreatDoorP37
import Derived.Test.YtcjdpilmhlfmfaaGreatDoorP10
import Derived.Test.YtcjdpilmhlfmfaaGreatDoorP34
namespace Go.Proofs.YtcjdpilmhlfmfaaGreatDoor
open Go.RowKit
open Go.Lib (byteCells)

theorem bytesOne (l : List UInt8) : ∀ v ∈ byteCells l, v.oneCell' = true := by
  intro v hv
  obtain ⟨b, _, rfl⟩ := List.mem_map.1 hv
  rfl

set_option maxHeartbeats 1000000 in
set_option maxRecDepth 100000 in
theorem cloneU_any (ao : Option Addr) (cap : Nat) (l : List UInt8) (w : World) (hr : Sl w ao cap (byteCells l)) (hl : l.length ≤ 140737488355328) :
    Calls Tryz.prog 101 #[.slice ao l.length cap] w fun e w' =>
      ∃ v', e = .returned v' ∧ w'.ownsRow w.heap.size 5 1 v' l.length (byteCells l) ∧ Below w.heap.size w w' := by
  obtain ⟨i0, hi, hz0, hz1, hz2⟩ := info_parts infoU
  have q : ∀ (w : World) (a : Option Addr) (n c n' c' : Nat), (binOp .eql 25 (.slice a n c) (.slice none n' c')).run Tryz.prog w = .ok (.bool a.isNone) w := fun w a n c n' c' => Lib.run_eql_slice_nil w _ _ a n c n' c' Tryz.underlying25
  cases ao with
  | none =>
    obtain ⟨h1, rfl⟩ := hr.src0 rfl
    obtain rfl : l = [] := by cases l with | nil => rfl | cons b r => simp [byteCells] at h1
    clear h1
    go_enter Tryz.func101, Tryz.ntmps101
    go_wp2_with fail
    go_ret
    exact ⟨_, rfl, ⟨rfl, .inl ⟨rfl, rfl⟩⟩, Below.refl _ _⟩
  | some ad =>
    have own0 : (w.alloc (.cells #[] 5)).ownsRow w.heap.size 5 1 (.slice (some ⟨w.heap.size, 0, none⟩) 0 0) 0 [] := by
      have hB := Blk.laid w [] 5 _ rfl
      exact ownOfBlk hB w.heap.size (Nat.le_refl _) 0 (Nat.le_refl _) (by decide)
    have belA := (Below.refl w.heap.size w).alloc (Nat.le_refl _) (Obj.cells #[] 5)
    by_cases h0 : l = []
    · subst h0
      have hs := hr.alloc (.cells #[] 5)
      have hx := hs.src
      have hy := hs.src0
      have bA : w.heap.size ≤ (w.alloc (.cells #[] 5)).heap.size := by simp
      clear hr hs
      go_enter Tryz.func101, Tryz.ntmps101
      go_wp2_with (at_builtin; refine wpList_append_fits_any _ rfl (.tmp 5) (.tmp 6) 25 rfl w.heap.size 5 i0 1 Tryz.underlying25 hi hz1 w.heap.size 0 0 [] rfl own0 (some ad) 0 cap [] rfl rfl hy hx (by simp) (Nat.le_refl _) ?_)
      intro w1 own1 grow1
      have bel1 := belowGrown belA own0 grow1 (Nat.le_refl _) bA
      go_wp2_with fail
      go_ret
      exact ⟨_, rfl, own1, bel1⟩
    · have hpos : 0 < l.length := List.length_pos_iff.2 h0
      have hs := hr.alloc (.cells #[] 5)
      have hsrc := hs.src ad rfl
      have one := bytesOne l
      have bA : w.heap.size ≤ (w.alloc (.cells #[] 5)).heap.size := by simp
      clear hr hs h0
      go_enter Tryz.func101, Tryz.ntmps101
      go_wp2_with (at_builtin; refine wpList_append_went _ rfl (.tmp 5) (.tmp 6) 25 rfl w.heap.size 5 i0 (.int .u8 0) 1 1 Tryz.underlying25 hi hz0 hz1 hz2 rfl (by decide) _ 0 _ rfl own0 ad l.length cap (byteCells l) rfl (by rw [Lib.byteCells_length, Nat.mul_one]) hsrc one hpos (by unfold maxLen; omega) (by omega) bA ?_)
      intro v' w1 own1 grow1 went1
      have bel1 := belowGrown belA own0 grow1 (Nat.le_refl _) bA
      obtain ⟨a1, c1, rfl, t1, n1⟩ := ownSl own1
      go_wp2_with fail
      go_ret
      exact ⟨_, rfl, own1, bel1⟩

set_option maxHeartbeats 400000 in
set_option maxRecDepth 100000 in
/-- slices.Clone of some numbers: the whole block that it lays. -/
theorem cloneI (ad : Addr) (cap : Nat) (l : List Int) (n : Nat) (w : World) (hrow : Row w (some ad) (l.map (Value.int .i64))) (hlen : l.length = n) (hn : 0 < n) (hl : n ≤ 1000000000000) :
    Calls Tryz.prog 72 #[.slice (some ad) n cap] w fun e w' =>
      ∃ (g G : Nat) (ys : List Int), e = .returned (.slice (some ⟨g, 0, none⟩) n G) ∧ Blk w' g (ys.map (Value.int .i64)) 3 ∧ ys.take n = l ∧ n ≤ G ∧ G ≤ 9223372036854775807 ∧ w.heap.size ≤ g ∧ Below w.heap.size w w' := by
  obtain ⟨i0, hi, hz0, hz1, hz2⟩ := info_parts infoIW
  have q : ∀ (w : World) (a : Option Addr) (n c n' c' : Nat), (binOp .eql 28 (.slice a n c) (.slice none n' c')).run Tryz.prog w = .ok (.bool a.isNone) w := fun w a n c n' c' => Lib.run_eql_slice_nil w _ _ a n c n' c' Tryz.underlying28
  have belA := (Below.refl w.heap.size w).alloc (Nat.le_refl _) (Obj.cells #[] 3)
  have hs := hrow.alloc (.cells #[] 3)
  have hsrc : ∀ j u, (l.map (Value.int .i64))[j]? = some u → (w.alloc (.cells #[] 3)).cell? (ad.add j) = some u := by
    intro j u hu
    obtain ⟨b', off', e, _, hc⟩ := hs.at (by intro e; rw [e] at hu; simp at hu)
    obtain rfl := Option.some.inj e
    rw [Addr.add_lit]
    exact hc j u hu
  have e1 : (l.map (Value.int .i64)).length = n * i0.size := by rw [hz1, List.length_map, Nat.mul_one]; exact hlen
  have e2 : (Value.int .i64 0).cells.size = i0.size := by rw [hz1]; rfl
  have e3 : n * i0.bytes ≤ 140737488355328 := by rw [hz2]; omega
  obtain ⟨C, hC⟩ : ∃ C, C = l.map (Value.int .i64) := ⟨_, rfl⟩
  rw [← hC] at hsrc e1
  replace hlen := hide hlen
  replace hC := hide hC
  replace e1 := hide e1
  replace e2 := hide e2
  clear hrow hs
  go_enter Tryz.func72, Tryz.ntmps72
  go_wp2_with (at_builtin; refine wpList_append_fresh _ rfl (.tmp 5) (.tmp 6) 28 rfl 3 i0 (.int .i64 0) Tryz.underlying28 hi hz0 e2.out (by rw [hz1]; decide) ⟨w.heap.size, 0, none⟩ rfl ad n cap C rfl e1.out hsrc hn (by unfold maxLen; omega) e3 ?_)
  intro G L w1 B1 hL hLl hG hGm grow1
  have bel1 : Below w.heap.size w w1 := belA.grown grow1 (by simp) (fun k h => by cases h)
  obtain ⟨z, hz⟩ : ∃ z : List Int, L = z.map (Value.int .i64) := by
    refine ⟨List.replicate L.length 0, ?_⟩
    rw [List.map_replicate]
    exact List.eq_replicate_iff.2 ⟨rfl, fun v hv => by have := hL v hv; simpa [Value.cells] using this⟩
  replace hz := hide hz
  go_wp2_with fail
  go_ret
  refine ⟨_, G, l ++ z, rfl, ?_, ?_, hG, by unfold maxLen at hGm; exact hGm, by simp, bel1⟩
  · rw [List.map_append, ← hz.out, ← hC.out]; exact B1
  · rw [← hlen.out, List.take_left]

end Go.Proofs.YtcjdpilmhlfmfaaGreatDoor

/-
  world.Check; world.copyOf: a right world in memory of the call's own.
-/
namespace Go.Proofs.YtcjdpilmhlfmfaaGreatDoor
open Go.RowKit
open Go.Lib (byteCells)

set_option maxHeartbeats 1000000 in
set_option maxRecDepth 100000 in
theorem checkW_any (x : Wd) (p : Pw) (w : World) (hg : Gl w) (I : IsW w p x) (few : p.n1 + p.n2 ≤ 9223372036854775807) (fewS : p.sn ≤ 140737488355328) :
    Calls Tryz.prog 30 #[p.val x.up] w fun e w' => e = .returned (.int .i64 (wdE x)) ∧ Below w.heap.size w w' := by
  have c := fun W g i => replayed_any x p W g i few fewS
  obtain ⟨C, D, up, rd⟩ := x
  obtain ⟨sa, sn, sG, a1, n1, c1, a2, n2, c2, ra, rn, rc⟩ := p
  simp only [Pw.val] at *
  have BX := Blk.laid w [.slice sa sn sG, .slice a1 n1 c1, .slice a2 n2 c2, .bool up, .slice ra rn rc] 30 _ rfl
  have bel := newB (Below.refl w.heap.size w) (.cells #[.slice sa sn sG, .slice a1 n1 c1, .slice a2 n2 c2, .bool up, .slice ra rn rc] 30)
  replace I := hide (I.alloc (.cells #[.slice sa sn sG, .slice a1 n1 c1, .slice a2 n2 c2, .bool up, .slice ra rn rc] 30))
  have gl := hg.call bel
  go_enter Tryz.func30, Tryz.ntmps30
  go_upto_region 1 with fail
  generalize World.alloc w _ = w1 at *
  have x0 := BX.cell 0
  have x1 := BX.cell 1
  have x2 := BX.cell 2
  have x3 := BX.cell 3
  have x4 := BX.cell 4
  have xl := BX.lt
  go_wp2_with fail
  go_at_call 51
  refine (c _ gl I.out).mono ?_
  rintro e w2 ⟨a', n', G', la, ln, lG, l, rfl, _, b2⟩
  have bel2 := newB (belowCall bel b2) (.cells #[.slice a' n' G'] 24)
  go_wp2_with fail
  go_ret
  exact ⟨rfl, bel2⟩

/-- A right world, its readers in a block of their own. -/
structure WdV (W : World) (h : Nat) (p : Pw) (ys : List Int) (x : Wd) : Prop where
  is : IsW W p x
  so : IsSO (fun q => q = h ∨ False) W p.sa p.sG x.c
  right : wdE x = 0
  ra : p.ra = some ⟨h, 0, none⟩
  rb : Blk W h (ys.map (Value.int .i64)) 3
  ry : ys.take 3 = x.rd
  rm : 3 ≤ p.rc

theorem WdB.v {W : World} {g h : Nat} {p : Pw} {ys : List Int} {x : Wd} (k : WdB (fun _ => False) W g h p ys x) : WdV W h p ys x := ⟨k.is, k.so, k.right, k.ra, k.rb, k.ry, k.rm⟩

theorem WdV.box {W : World} {h : Nat} {p : Pw} {ys : List Int} {x : Wd} (k : WdV W h p ys x) : WdB (fun _ => False) (W.alloc (.cells (p.cells x.up).toArray 30)) W.heap.size h p ys x :=
  have b := (Below.refl W.heap.size W).alloc (Nat.le_refl _) (.cells (p.cells x.up).toArray 30)
  ⟨Blk.laid W (p.cells x.up) 30 _ rfl, k.is.call b, k.so.call b, k.right, k.ra, k.rb.keep b k.rb.lt, k.ry, k.rm⟩

theorem few_right {x : Wd} {p : Pw} {w : World} (I : IsW w p x) (h : wdE x = 0) : p.n1 + p.n2 ≤ 60000 ∧ p.sn = 4 ∧ p.rn = 3 := by
  obtain ⟨h1, _, _, _, h5, _⟩ := wd_right h
  refine ⟨?_, by rw [I.es]; exact right_len (right_shelf h), by rw [I.er]; exact h5⟩
  rw [I.e1, I.e2]
  exact few_of h1

/-- A copy. -/
def AnsC (W : World) (x : Wd) (e : Ending) (w' : World) : Prop :=
  ∃ (h : Nat) (p : Pw) (ys : List Int), e = .returned (.tuple #[p.val x.up, .int .i64 0]) ∧ WdV w' h p ys x ∧ W.heap.size ≤ h ∧ Below W.heap.size W w'

set_option maxHeartbeats 4000000 in
set_option maxRecDepth 100000 in
theorem copyOf_ok (x : Wd) (p : Pw) (w : World) (hg : Gl w) (I : IsW w p x) (h : wdE x = 0) :
    Calls Tryz.prog 60 #[p.val x.up] w (AnsC w x) := by
  obtain ⟨k1, k2, k3⟩ := few_right I h
  have c := fun W g i => replayed_any x p W g i (by omega) (by omega)
  unfold AnsP at c
  rw [h] at c
  obtain ⟨C, D, up, rd⟩ := x
  obtain ⟨sa, sn, sG, a1, n1, c1, a2, n2, c2, ra, rn, rc⟩ := p
  simp only [Pw.val] at *
  have BX := (Blk.laid w [.slice sa sn sG, .slice a1 n1 c1, .slice a2 n2 c2, .bool up, .slice ra rn rc] 30 _ rfl).alc (.cells #[.slice none 0 0, .slice none 0 0, .slice none 0 0, .bool false, .slice none 0 0] 30)
  have BR := Blk.laid (w.alloc (.cells #[.slice sa sn sG, .slice a1 n1 c1, .slice a2 n2 c2, .bool up, .slice ra rn rc] 30)) [.slice none 0 0, .slice none 0 0, .slice none 0 0, .bool false, .slice none 0 0] 30 (w.heap.size + 1) (by simp)
  have bel := newB (newB (Below.refl w.heap.size w) (.cells #[.slice sa sn sG, .slice a1 n1 c1, .slice a2 n2 c2, .bool up, .slice ra rn rc] 30)) (.cells #[.slice none 0 0, .slice none 0 0, .slice none 0 0, .bool false, .slice none 0 0] 30)
  replace I := hide (I.keep bel (Nat.le_refl _))
  have gl := hg.call bel
  subst k2
  replace k3 := hide k3
  replace h := hide h
  go_enter Tryz.func60, Tryz.ntmps60
  go_upto_region 1 with fail
  generalize World.alloc (World.alloc w _) _ = w1 at *
  have x0 := BX.cell 0
  have x1 := BX.cell 1
  have x2 := BX.cell 2
  have x3 := BX.cell 3
  have x4 := BX.cell 4
  have xl := BX.lt
  go_wp2_with fail
  go_at_call 51
  refine (c _ gl I.out).mono ?_
  rintro e w2 ⟨a', n', G', la, ln, lG, l, rfl, hP, b2⟩
  clear c
  obtain ⟨rfl, IS, _, _, _⟩ := hP.out (by trivial)
  have lRS : w.heap.size + 1 < w2.heap.size := Nat.lt_of_lt_of_le BR.lt b2.size
  have bq := newB b2 (.cells #[.slice a' 4 G'] 24)
  have BS := Blk.laid w2 [.slice a' 4 G'] 24 _ rfl
  replace IS := IS.alloc (.cells #[.slice a' 4 G'] 24)
  replace BX := BX.keep bq BX.lt
  replace BR := BR.keep bq BR.lt
  replace I := hide (I.out.call bq)
  replace bel := belowCall bel bq
  clear x0 x1 x2 x3 x4 xl bq b2 hP
  go_upto_region 4 with fail
  generalize w2.heap.size = gS at *
  generalize World.alloc w2 _ = w6 at *
  have nz1 : ¬ gS = w.heap.size + 1 := by omega
  have nz2 : ¬ w.heap.size + 1 = gS := by omega
  clear lRS
  obtain ⟨es, e1, e2, er, _, S1, S2, SR⟩ := I.out
  clear es
  simp only at e1 e2 er S1 S2 SR
  have hrm : 3 ≤ rc := by have := SR.le; rw [List.length_map] at this; have := k3.out; omega
  have f1 : D.safe.length ≤ 140737488355328 := by omega
  have f2 : D.wait.length ≤ 140737488355328 := by omega
  have gX := BX.lt
  have gSl := BS.lt
  have gRl := BR.lt
  have x1 : w6.cell? ⟨w.heap.size, 1, none⟩ = some (.slice a1 n1 c1) := BX.cell 1
  have x2 : w6.cell? ⟨w.heap.size, 2, none⟩ = some (.slice a2 n2 c2) := BX.cell 2
  have x3 : w6.cell? ⟨w.heap.size, 3, none⟩ = some (.bool up) := BX.cell 3
  have x4 : w6.cell? ⟨w.heap.size, 4, none⟩ = some (.slice ra rn rc) := BX.cell 4
  have s0 : w6.cell? ⟨gS, 0, none⟩ = some (.slice a' 4 G') := BS.cell 0
  have cells : ∀ W, Below w6.heap.size w6 W → W.cell? ⟨w.heap.size, 1, none⟩ = some (.slice a1 n1 c1) ∧ W.cell? ⟨w.heap.size, 2, none⟩ = some (.slice a2 n2 c2) ∧ W.cell? ⟨w.heap.size, 3, none⟩ = some (.bool up) ∧ W.cell? ⟨w.heap.size, 4, none⟩ = some (.slice ra rn rc) ∧ W.cell? ⟨gS, 0, none⟩ = some (.slice a' 4 G') := fun W hW =>
    ⟨(BX.keep hW BX.lt).cell 1, (BX.keep hW BX.lt).cell 2, (BX.keep hW BX.lt).cell 3, (BX.keep hW BX.lt).cell 4, (BS.keep hW BS.lt).cell 0⟩
  have kU : ∀ W, Below w6.heap.size w6 W → Calls Tryz.prog 101 #[.slice a1 n1 c1] W fun e w' => ∃ b1 G1, e = .returned (.slice b1 n1 G1) ∧ w'.cell? ⟨w.heap.size, 1, none⟩ = some (.slice a1 n1 c1) ∧ w'.cell? ⟨w.heap.size, 2, none⟩ = some (.slice a2 n2 c2) ∧ w'.cell? ⟨w.heap.size, 3, none⟩ = some (.bool up) ∧ w'.cell? ⟨w.heap.size, 4, none⟩ = some (.slice ra rn rc) ∧ w'.cell? ⟨gS, 0, none⟩ = some (.slice a' 4 G') ∧ Hid (Sl w' b1 G1 (byteCells D.safe)) ∧ Below w6.heap.size w6 w' := by
    intro W hW
    rw [e1]
    refine (cloneU_any a1 c1 D.safe W (S1.call hW) f1).mono ?_
    rintro e w' ⟨v', rfl, o, b⟩
    obtain ⟨b1, G1, rfl, s, _⟩ := ownSl o
    obtain ⟨q1, q2, q3, q4, q5⟩ := cells w' (belowCall hW b)
    rw [e1] at q1
    exact ⟨b1, G1, rfl, q1, q2, q3, q4, q5, hide s, belowCall hW b⟩
  have kV : ∀ W, Below w6.heap.size w6 W → Calls Tryz.prog 101 #[.slice a2 n2 c2] W fun e w' => ∃ b1 G1, e = .returned (.slice b1 n2 G1) ∧ w'.cell? ⟨w.heap.size, 1, none⟩ = some (.slice a1 n1 c1) ∧ w'.cell? ⟨w.heap.size, 2, none⟩ = some (.slice a2 n2 c2) ∧ w'.cell? ⟨w.heap.size, 3, none⟩ = some (.bool up) ∧ w'.cell? ⟨w.heap.size, 4, none⟩ = some (.slice ra rn rc) ∧ w'.cell? ⟨gS, 0, none⟩ = some (.slice a' 4 G') ∧ Hid (Sl w' b1 G1 (byteCells D.wait)) ∧ Below W.heap.size W w' ∧ Below w6.heap.size w6 w' := by
    intro W hW
    rw [e2]
    refine (cloneU_any a2 c2 D.wait W (S2.call hW) f2).mono ?_
    rintro e w' ⟨v', rfl, o, b⟩
    obtain ⟨b1, G1, rfl, s, _⟩ := ownSl o
    obtain ⟨q1, q2, q3, q4, q5⟩ := cells w' (belowCall hW b)
    rw [e2] at q2
    exact ⟨b1, G1, rfl, q1, q2, q3, q4, q5, hide s, b, belowCall hW b⟩
  have hk3 : rn = 3 := k3.out
  have hrd : rd.length = 3 := by rw [← er]; exact hk3
  have kI : ∀ W, Below w6.heap.size w6 W → Calls Tryz.prog 72 #[.slice ra rn rc] W fun e w' => ∃ (g3 : Nat) (G3 : Nat), e = .returned (.slice (some ⟨g3, 0, none⟩) rn G3) ∧ w'.cell? ⟨w.heap.size, 1, none⟩ = some (.slice a1 n1 c1) ∧ w'.cell? ⟨w.heap.size, 2, none⟩ = some (.slice a2 n2 c2) ∧ w'.cell? ⟨w.heap.size, 3, none⟩ = some (.bool up) ∧ w'.cell? ⟨w.heap.size, 4, none⟩ = some (.slice ra rn rc) ∧ w'.cell? ⟨gS, 0, none⟩ = some (.slice a' 4 G') ∧
      Hid (∃ ys : List Int, Blk w' g3 (ys.map (Value.int .i64)) 3 ∧ ys.take 3 = rd ∧ 3 ≤ G3 ∧ G3 ≤ 9223372036854775807 ∧ W.heap.size ≤ g3) ∧ Below W.heap.size W w' ∧ Hid (Blk w' (w.heap.size + 1) [.slice none 0 0, .slice none 0 0, .slice none 0 0, .bool false, .slice none 0 0] 30) ∧ Below w6.heap.size w6 w' ∧
      w'.cell? ⟨w.heap.size + 1, 0, none⟩ = some (.slice none 0 0) ∧ w'.cell? ⟨w.heap.size + 1, 1, none⟩ = some (.slice none 0 0) ∧ w'.cell? ⟨w.heap.size + 1, 2, none⟩ = some (.slice none 0 0) ∧ w'.cell? ⟨w.heap.size + 1, 3, none⟩ = some (.bool false) ∧ w'.cell? ⟨w.heap.size + 1, 4, none⟩ = some (.slice none 0 0) ∧
      w'.frozen? ⟨w.heap.size + 1, 0, none⟩ = false ∧ w'.frozen? ⟨w.heap.size + 1, 1, none⟩ = false ∧ w'.frozen? ⟨w.heap.size + 1, 2, none⟩ = false ∧ w'.frozen? ⟨w.heap.size + 1, 3, none⟩ = false ∧ w'.frozen? ⟨w.heap.size + 1, 4, none⟩ = false ∧ w.heap.size + 1 < w'.heap.size := by
    intro W hW
    have SR' := SR.call hW
    obtain ⟨b, off, rfl, _, _⟩ := SR'.row.at (by intro e; rw [List.map_eq_nil_iff] at e; rw [e] at hrd; simp at hrd)
    refine (cloneI ⟨b, off, none⟩ rc rd rn W SR'.row (by rw [hrd, hk3]) (by omega) (by omega)).mono ?_
    rintro e w' ⟨g3, G3, ys, rfl, B3, t3, h3, m3, l3, b3⟩
    obtain ⟨q1, q2, q3, q4, q5⟩ := cells w' (belowCall hW b3)
    have BR' := BR.keep (belowCall hW b3) BR.lt
    exact ⟨g3, G3, rfl, q1, q2, q3, q4, q5, hide ⟨ys, B3, by rw [← hk3]; exact t3, by omega, m3, l3⟩, b3, hide BR', belowCall hW b3, BR'.cell 0, BR'.cell 1, BR'.cell 2, BR'.cell 3, BR'.cell 4, BR'.free 0, BR'.free 1, BR'.free 2, BR'.free 3, BR'.free 4, BR'.lt⟩
  have k0 : Below w6.heap.size w6 w6.drew := belowDrew (Below.refl _ _)
  replace e1 := hide e1
  replace e2 := hide e2
  replace er := hide er
  replace hrd := hide hrd
  replace hk3 := hide hk3
  replace IS := hide IS
  replace bel := hide bel
  clear cells BX BS BR S1 S2 SR I gl f1 f2 gX gSl gRl
  go_region_held3 (fun w' => w'.cell? ⟨w.heap.size, 1, none⟩ = some (.slice a1 n1 c1) ∧ w'.cell? ⟨w.heap.size, 2, none⟩ = some (.slice a2 n2 c2) ∧ w'.cell? ⟨w.heap.size, 3, none⟩ = some (.bool up) ∧ w'.cell? ⟨w.heap.size, 4, none⟩ = some (.slice ra rn rc) ∧ w'.cell? ⟨gS, 0, none⟩ = some (.slice a' 4 G')) (go_keep)
    (first
      | (go_at_call 72; refine (kI _ zB).mono ?_; rintro e wC ⟨g3, G3, rfl, t1, t2, t3, t4, t5, TC, bC, BRC, zC, y0, y1, y2, y3, y4, f0, f1, f2, f3, f4, yl⟩)
      | (go_at_call 101; refine (kV _ zA).mono ?_; rintro e wB ⟨b2, G2, rfl, r1, r2, r3, r4, r5, TB, bB, zB⟩)
      | (go_at_call 101; refine (kU _ k0).mono ?_; rintro e wA ⟨b1, G1, rfl, q1, q2, q3, q4, q5, TA, zA⟩))
  all_goals (
    have ISC := IS.out.call zC
    have S1C := (TA.out.call bB).call bC
    have S2C := TB.out.call bC
    obtain ⟨ys, B3, t3, h3, m3, l3⟩ := TC.out
    have B0 := BRC.out
    have lz := zB.size
    have B9 := put5r B0 (.slice a' 4 G') (.slice b1 n1 G1) (.slice b2 n2 G2) (.bool up) (.slice (some ⟨g3, 0, none⟩) rn G3)
    have bel9 := below5r (belowCall bel.out zC) (Nat.le_succ _) (.slice a' 4 G') (.slice b1 n1 G1) (.slice b2 n2 G2) (.bool up) (.slice (some ⟨g3, 0, none⟩) rn G3)
    have gr := grownSet (grownSet (grownSet (grownSet (grownSet (grownRefl wC (some (w.heap.size + 1))) 0 (.slice a' 4 G')) 1 (.slice b1 n1 G1)) 2 (.slice b2 n2 G2)) 3 (.bool up)) 4 (.slice (some ⟨g3, 0, none⟩) rn G3)
    have SR3 : Sl wC (some ⟨g3, 0, none⟩) G3 (rd.map (Value.int .i64)) := by
      refine ⟨B3.row 0 _ (fun j u hu => ?_), by rw [List.length_map, hrd.out]; exact h3, m3, fun e => by cases e⟩
      rw [Nat.zero_add]
      rw [← t3, List.map_take, List.getElem?_take] at hu
      split at hu
      · exact hu
      · cases hu
    have WB := hide (WdB.wrote (Q := fun _ => False) (h := g3) (p := ⟨a', 4, G', b1, n1, G1, b2, n2, G2, some ⟨g3, 0, none⟩, rn, G3⟩) (ys := ys) (x := ⟨C, D, up, rd⟩) B0 gr B9
      ⟨(right_len (right_shelf h.out)).symm, e1.out, e2.out, er.out, ISC, S1C, S2C, SR3⟩ ((IsS.old IS.out (P := fun q => q = g3 ∨ False) (fun q hq => by rcases hq with rfl | h; omega; exact h.elim)).call zC) h.out rfl B3 t3 h3)
    have hg3 : Hid (w.heap.size ≤ g3) := hide (by have := bel.out.size; omega)
    have i0 := B9.cell 0
    have i1 := B9.cell 1
    have i2 := B9.cell 2
    have i3 := B9.cell 3
    have i4 := B9.cell 4
    clear ISC S1C S2C SR3 gr B9 B3 t3 h3 m3 l3 BRC B0
    go_wp2_with fail
    exact bodyPost_ret (v := .tuple #[.agg #[.slice a' 4 G', .slice b1 n1 G1, .slice b2 n2 G2, .bool up, .slice (some ⟨g3, 0, none⟩) rn G3], .int .i64 0]) (by simp [results, Tryz.results60, go_sem, i0, i1, i2, i3, i4]) rfl ⟨g3, _, ys, rfl, WB.out.v, hg3.out, bel9⟩)

end Go.Proofs.YtcjdpilmhlfmfaaGreatDoor

/-
  world.ahead: the shelf as a record makes it, and the disk on which that record waits.
-/
namespace Go.Proofs.YtcjdpilmhlfmfaaGreatDoor
open Go.RowKit
open Go.Lib (byteCells)

def aheadE (x : Wd) (r : Rc) : Int := if nextE x.c r ≠ 0 then nextE x.c r else dputE x.d r

def AnsA (W : World) (x : Wd) (r : Rc) (e : Ending) (w' : World) : Prop :=
  ∃ (a' : Option Addr) (n' G' : Nat) (b1 : Option Addr) (m1 k1 : Nat) (b2 : Option Addr) (m2 k2 : Nat), e = .returned (.tuple #[.agg #[.slice a' n' G'], .agg #[.slice b1 m1 k1, .slice b2 m2 k2], .int .i64 (aheadE x r)]) ∧
    Hid (aheadE x r = 0 → n' = 4 ∧ IsSL W.heap.size w' a' G' (nextL x.c r) ∧ m1 = (dputD x.d r).safe.length ∧ m2 = (dputD x.d r).wait.length ∧ Sl w' b1 k1 (byteCells (dputD x.d r).safe) ∧ Sl w' b2 k2 (byteCells (dputD x.d r).wait)) ∧ Below W.heap.size W w'

theorem ansA_bad {W w' : World} {x : Wd} {r : Rc} {E : Int} (hE : aheadE x r = E) (h0 : E ≠ 0) (b : Below W.heap.size W w') : AnsA W x r (.returned (.tuple #[.agg #[.slice none 0 0], .agg #[.slice none 0 0, .slice none 0 0], .int .i64 E])) w' :=
  ⟨none, 0, 0, none, 0, 0, none, 0, 0, by rw [hE], hide (fun h => absurd (hE.symm.trans h) h0), b⟩

theorem IsSL.setD {base : Nat} {w : World} {a : Option Addr} {G g i : Nat} {C : List Rw} {a1 a2 : Option Addr} {n1 n2 c1 c2 : Nat} {u : Value} (h : IsSL base w a G C) (h4 : C.length = 4) (B : Blk w g [.slice a1 n1 c1, .slice a2 n2 c2] 27) : IsSL base (w.setCell ⟨g, i, none⟩ u) a G C := by
  obtain ⟨rs, rfl, s, l⟩ := h.ex
  rw [List.length_map] at h4
  have gr := grownSet (grownRefl w (some g)) i u
  have hl := flat_length Lr.two rs
  refine ⟨rs, rfl, ⟨⟨s.sl.row.off gr (s.sl.row.offLong B (by rw [hl, h4]; simp)), s.sl.le, s.sl.max, s.sl.nil⟩, fun r hr => (s.good r hr).offSl gr B ?_⟩, l⟩
  intro v hv
  simp only [List.mem_cons, List.not_mem_nil, or_false] at hv
  rcases hv with rfl | rfl <;> exact ⟨_, _, _, rfl⟩

set_option maxHeartbeats 4000000 in
set_option maxRecDepth 100000 in
theorem ahead_any (x : Wd) (r : Rc) (p : Pw) (ea : Option Addr) (en eC : Nat) (w : World) (hg : Gl w) (I : IsW w p x) (h : wdE x = 0) (s3 : SlW ec w ea eC r.e) (h3 : Hid (en = r.e.length)) :
    Calls Tryz.prog 137 #[p.val x.up, .agg #[.int .i64 r.k, .int .i64 r.s, .int .i64 r.n, .slice ea en eC]] w (AnsA w x r) := by
  obtain ⟨k1, k2, k3⟩ := few_right I h
  clear k3
  obtain ⟨es, e1, e2, er, IS, S1, S2, SR⟩ := I
  have hAE : Hid (aheadE x r = if nextE x.c r ≠ 0 then nextE x.c r else dputE x.d r) := hide rfl
  obtain ⟨dn, hdn⟩ : ∃ d, Hid (d = (nextL x.c r).length) := ⟨_, hide rfl⟩
  have cN := fun W y t => next_own x.c r p.sa ea p.sG eC en p.sn dn W y t h3 (hide es) hdn
  have cP := fun W g s t u => dput_any x.d r p.a1 p.a2 ea p.c1 p.c2 eC p.n1 p.n2 en W g s t u e1 e2 h3.out (by omega)
  obtain ⟨sa, sn, sG, a1, n1, c1, a2, n2, c2, ra, rn, rc⟩ := p
  obtain ⟨C, D, up, rd⟩ := x
  simp only [Pw.val] at *
  clear es e1 e2 er SR h
  subst k2
  have BX := (((Blk.laid w [.slice sa 4 sG, .slice a1 n1 c1, .slice a2 n2 c2, .bool up, .slice ra rn rc] 30 _ rfl).alc (.cells #[.int .i64 r.k, .int .i64 r.s, .int .i64 r.n, .slice ea en eC] 66)).alc (.cells #[.slice none 0 0] 24)).alc (.cells #[.slice none 0 0, .slice none 0 0] 27)
  have BQ := ((Blk.laid (w.alloc (.cells #[.slice sa 4 sG, .slice a1 n1 c1, .slice a2 n2 c2, .bool up, .slice ra rn rc] 30)) [.int .i64 r.k, .int .i64 r.s, .int .i64 r.n, .slice ea en eC] 66 (w.heap.size + 1) (by simp)).alc (.cells #[.slice none 0 0] 24)).alc (.cells #[.slice none 0 0, .slice none 0 0] 27)
  have BS := (Blk.laid ((w.alloc (.cells #[.slice sa 4 sG, .slice a1 n1 c1, .slice a2 n2 c2, .bool up, .slice ra rn rc] 30)).alloc (.cells #[.int .i64 r.k, .int .i64 r.s, .int .i64 r.n, .slice ea en eC] 66)) [.slice none 0 0] 24 (w.heap.size + 1 + 1) (by simp)).alc (.cells #[.slice none 0 0, .slice none 0 0] 27)
  have BD := Blk.laid (((w.alloc (.cells #[.slice sa 4 sG, .slice a1 n1 c1, .slice a2 n2 c2, .bool up, .slice ra rn rc] 30)).alloc (.cells #[.int .i64 r.k, .int .i64 r.s, .int .i64 r.n, .slice ea en eC] 66)).alloc (.cells #[.slice none 0 0] 24)) [.slice none 0 0, .slice none 0 0] 27 (w.heap.size + 1 + 1 + 1) (by simp)
  have bel := newB (newB (newB (newB (Below.refl w.heap.size w) (.cells #[.slice sa 4 sG, .slice a1 n1 c1, .slice a2 n2 c2, .bool up, .slice ra rn rc] 30)) (.cells #[.int .i64 r.k, .int .i64 r.s, .int .i64 r.n, .slice ea en eC] 66)) (.cells #[.slice none 0 0] 24)) (.cells #[.slice none 0 0, .slice none 0 0] 27)
  replace IS := IS.keep bel (Nat.le_refl _)
  replace S1 := S1.keep bel (Nat.le_refl _)
  replace S2 := S2.keep bel (Nat.le_refl _)
  replace s3 := s3.keep bel (Nat.le_refl _)
  have gl := hg.call bel
  obtain ⟨gS, hgS'⟩ : ∃ g, g = w.heap.size + 1 + 1 := ⟨_, rfl⟩
  obtain ⟨gD, hgD'⟩ : ∃ g, g = w.heap.size + 1 + 1 + 1 := ⟨_, rfl⟩
  rw [← hgS'] at BS
  rw [← hgD'] at BD
  have hgS : w.heap.size ≤ gS := by omega
  have hgD : w.heap.size ≤ gD := by omega
  have nSD : gS ≠ gD := by omega
  have nDS : gD ≠ gS := by omega
  obtain ⟨K, S, N, L⟩ := r
  simp only at *
  go_enter Tryz.func137, Tryz.ntmps137
  go_upto_region 1 with fail
  rw [← hgD', ← hgS']
  generalize World.alloc (World.alloc (World.alloc (World.alloc w _) _) _) _ = w1 at *
  clear hgS' hgD'
  have x0 := BX.cell 0
  have xl := BX.lt
  have z0 := BQ.cell 0
  have z1 := BQ.cell 1
  have z2 := BQ.cell 2
  have z3 := BQ.cell 3
  have zl := BQ.lt
  go_wp2_with fail
  go_at_call 76
  refine ((cN _ IS s3).mono fun _ _ h => laidX h).mono ?_
  rintro e w2 ⟨aN, GN, rfl, BN, IN, b2, hsz2⟩
  clear cN x0 xl z0 z1 z2 z3 zl IS
  have lS2 : gS < w2.heap.size := Nat.lt_of_lt_of_le BS.lt hsz2
  have lD2 : gD < w2.heap.size := Nat.lt_of_lt_of_le BD.lt hsz2
  replace IN := IN.down bel.size
  replace BX := BX.keep b2 BX.lt
  replace BQ := BQ.keep b2 BQ.lt
  replace BS := BS.keep b2 BS.lt
  replace BD := BD.keep b2 BD.lt
  replace S1 := S1.call b2
  replace S2 := S2.call b2
  replace s3 := s3.call b2
  replace gl := gl.call b2
  replace bel := belowCall bel b2
  clear b2
  by_cases hN : nextE C ⟨K, S, N, L⟩ = 0
  · have hA2 := hAE.out
    rw [if_neg (by simp [hN])] at hA2
    replace hA2 := hide hA2
    obtain rfl : dn = 4 := by rw [hdn.out]; exact right_len (next_right hN)
    have h4 := hide (right_len (next_right hN))
    rw [hN]
    clear hAE hN
    go_upto_region 4 with fail
    generalize w2.heap.size = gN at *
    generalize World.alloc w2 _ = w3 at *
    have x1 := BX.cell 1
    have x2 := BX.cell 2
    have xl := BX.lt
    have z0 := BQ.cell 0
    have z1 := BQ.cell 1
    have z2 := BQ.cell 2
    have z3 := BQ.cell 3
    have zl := BQ.lt
    go_wp2_with fail
    go_at_call 173
    refine (cP _ gl S1 S2 s3).mono ?_
    rintro e w4 ⟨p1, p2, q1, q2, u1, u2, rfl, hq1, hq2, t1, t2, b5⟩
    have lS4 : gS < w4.heap.size := Nat.lt_of_lt_of_le BS.lt b5.size
    have lD4 : gD < w4.heap.size := Nat.lt_of_lt_of_le BD.lt b5.size
    have b4 := newB b5 (.cells #[.slice p1 q1 u1, .slice p2 q2 u2] 27)
    have DP : DkB (w4.alloc (.cells #[.slice p1 q1 u1, .slice p2 q2 u2] 27)) w4.heap.size p1 q1 u1 p2 q2 u2 (dputD D ⟨K, S, N, L⟩) := ⟨Blk.laid w4 [.slice p1 q1 u1, .slice p2 q2 u2] _ _ rfl, hq1, hq2, t1.alloc _, t2.alloc _⟩
    clear hq1 hq2 t1 t2 b5
    clear x1 x2 xl z0 z1 z2 z3 zl cP gl S1 S2 s3 BX BQ
    replace BN := BN.keep b4 BN.lt
    replace BS := BS.keep b4 BS.lt
    replace BD := BD.keep b4 BD.lt
    replace IN := IN.call b4
    replace bel := belowCall bel b4
    clear b4
    by_cases hP : dputE D ⟨K, S, N, L⟩ = 0
    · have hA3 := hA2.out
      rw [hP] at hA3
      replace hA3 := hide hA3
      rw [hP]
      clear hA2 hP
      go_upto_region 7 with fail
      generalize w4.heap.size = gP at *
      generalize World.alloc w4 _ = w5 at *
      obtain ⟨PB, hq1, hq2, T1, T2⟩ := DP
      have a1 : ¬ gP = gS := by omega
      have a2 : ¬ gS = gP := by omega
      have a3 : ¬ gP = gD := by omega
      have a4 : ¬ gD = gP := by omega
      have a5 : ¬ gN = gS := by omega
      have a6 : ¬ gS = gN := by omega
      have a7 : ¬ gN = gD := by omega
      have a8 : ¬ gD = gN := by omega
      replace hq1 := hide hq1
      replace hq2 := hide hq2
      have n0 : w5.cell? ⟨gN, 0, none⟩ = some (.slice aN 4 GN) := BN.cell 0
      have nl := BN.lt
      have d0 : w5.cell? ⟨gP, 0, none⟩ = some (.slice p1 q1 u1) := PB.cell 0
      have d1 : w5.cell? ⟨gP, 1, none⟩ = some (.slice p2 q2 u2) := PB.cell 1
      have dl := PB.lt
      have y0 := BS.cell 0
      have yf := BS.free 0
      have yl := BS.lt
      have v0 := BD.cell 0
      have v1 := BD.cell 1
      have vf0 := BD.free 0
      have vf1 := BD.free 1
      have vl := BD.lt
      have B7 := BS.set 0 (.slice aN 4 GN)
      have I7 := IN.boxed BS (.slice aN 4 GN)
      have D7 : Blk (w5.setCell ⟨gS, 0, none⟩ (.slice aN 4 GN)) gD [.slice none 0 0, .slice none 0 0] 27 := BD.other 0 _ nSD
      have T17 := slU_off T1 BS (by simp) (grownSet (grownRefl w5 (some gS)) 0 (.slice aN 4 GN))
      have T27 := slU_off T2 BS (by simp) (grownSet (grownRefl w5 (some gS)) 0 (.slice aN 4 GN))
      have B9 := (B7.other (g' := gD) 0 (.slice p1 q1 u1) nDS).other (g' := gD) 1 (.slice p2 q2 u2) nDS
      have D9 := put2 D7 (.slice p1 q1 u1) (.slice p2 q2 u2)
      have grD := grownSet (grownSet (grownRefl (w5.setCell ⟨gS, 0, none⟩ (.slice aN 4 GN)) (some gD)) 0 (.slice p1 q1 u1)) 1 (.slice p2 q2 u2)
      have I8 := I7.setD h4.out D7 (i := 0) (u := .slice p1 q1 u1)
      have I9 := I8.setD h4.out (D7.set 0 (.slice p1 q1 u1)) (i := 1) (u := .slice p2 q2 u2)
      have T19 := slU_off T17 D7 (by simp) grD
      have T29 := slU_off T27 D7 (by simp) grD
      have bel9 := below2s (bel.setCell (p := ⟨gS, 0, none⟩) hgS (.slice aN 4 GN)) hgD (.slice p1 q1 u1) (.slice p2 q2 u2)
      have i0 := B9.cell 0
      have j0 := D9.cell 0
      have j1 := D9.cell 1
      replace I9 := hide I9
      replace T19 := hide T19
      replace T29 := hide T29
      clear I7 I8 T17 T27 B7 D7 grD IN T1 T2 BN PB B9 D9 bel
      go_region
      all_goals (
        go_wp2_with fail
        exact bodyPost_ret (v := .tuple #[.agg #[.slice aN 4 GN], .agg #[.slice p1 q1 u1, .slice p2 q2 u2], .int .i64 0]) (by simp [results, Tryz.results137, go_sem, i0, j0, j1]) rfl ⟨aN, 4, GN, p1, q1, u1, p2, q2, u2, by rw [hA3.out], hide (fun _ => ⟨rfl, I9.out.call (belowDrew (Below.refl _ _)), hq1.out, hq2.out, T19.out.call (belowDrew (Below.refl _ _)), T29.out.call (belowDrew (Below.refl _ _))⟩), belowDrew bel9⟩)
    · have hP' : decide (dputE D ⟨K, S, N, L⟩ = 0) = false := decide_eq_false hP
      generalize dputE D ⟨K, S, N, L⟩ = E at *
      go_upto_region 6 with fail
      generalize World.alloc w4 _ = w5 at *
      have y0 := BS.cell 0
      have yf := BS.free 0
      have yl := BS.lt
      have v0 := BD.cell 0
      have v1 := BD.cell 1
      have vf0 := BD.free 0
      have vf1 := BD.free 1
      have vl := BD.lt
      have B9 := ((BS.set 0 (.slice none 0 0)).other (g' := gD) 0 (.slice none 0 0) nDS).other (g' := gD) 1 (.slice none 0 0) nDS
      have D9 := put2 (BD.other (g' := gS) 0 (.slice none 0 0) nSD) (.slice none 0 0) (.slice none 0 0)
      have bel9 := below2s (bel.setCell (p := ⟨gS, 0, none⟩) hgS (.slice none 0 0)) hgD (.slice none 0 0) (.slice none 0 0)
      have i0 := B9.cell 0
      have j0 := D9.cell 0
      have j1 := D9.cell 1
      clear B9 D9
      go_wp2_with fail
      exact bodyPost_ret (v := .tuple #[.agg #[.slice none 0 0], .agg #[.slice none 0 0, .slice none 0 0], .int .i64 E]) (by simp [results, Tryz.results137, go_sem, i0, j0, j1]) rfl (ansA_bad hA2.out hP bel9)
  · have hA2 := hAE.out
    rw [if_pos hN] at hA2
    have hN' : decide (nextE C ⟨K, S, N, L⟩ = 0) = false := decide_eq_false hN
    generalize nextE C ⟨K, S, N, L⟩ = E at *
    replace hA2 := hide hA2
    go_upto_region 3 with fail
    generalize World.alloc w2 _ = w3 at *
    have y0 := BS.cell 0
    have yf := BS.free 0
    have yl := BS.lt
    have v0 := BD.cell 0
    have v1 := BD.cell 1
    have vf0 := BD.free 0
    have vf1 := BD.free 1
    have vl := BD.lt
    have B9 := ((BS.set 0 (.slice none 0 0)).other (g' := gD) 0 (.slice none 0 0) nDS).other (g' := gD) 1 (.slice none 0 0) nDS
    have D9 := put2 (BD.other (g' := gS) 0 (.slice none 0 0) nSD) (.slice none 0 0) (.slice none 0 0)
    have bel9 := below2s (bel.setCell (p := ⟨gS, 0, none⟩) hgS (.slice none 0 0)) hgD (.slice none 0 0) (.slice none 0 0)
    have i0 := B9.cell 0
    have j0 := D9.cell 0
    have j1 := D9.cell 1
    clear B9 D9
    go_wp2_with fail
    exact bodyPost_ret (v := .tuple #[.agg #[.slice none 0 0], .agg #[.slice none 0 0, .slice none 0 0], .int .i64 E]) (by simp [results, Tryz.results137, go_sem, i0, j0, j1]) rfl (ansA_bad hA2.out hN bel9)

end Go.Proofs.YtcjdpilmhlfmfaaGreatDoor

/-
  world.write and world.tear: a record's work, when the record is safe; the power goes in the midst of one.
-/
namespace Go.Proofs.YtcjdpilmhlfmfaaGreatDoor
open Go.RowKit
open Go.Lib (byteCells)

/-- What a record makes ahead of Sync, wherever it lies. -/
def AhIs (base : Nat) (x : Wd) (r : Rc) (a' : Option Addr) (n' G' : Nat) (b1 : Option Addr) (m1 k1 : Nat) (b2 : Option Addr) (m2 k2 : Nat) (w' : World) : Prop :=
  aheadE x r = 0 → n' = 4 ∧ IsSL base w' a' G' (nextL x.c r) ∧ m1 = (dputD x.d r).safe.length ∧ m2 = (dputD x.d r).wait.length ∧ Sl w' b1 k1 (byteCells (dputD x.d r).safe) ∧ Sl w' b2 k2 (byteCells (dputD x.d r).wait)

theorem ahead_next {x : Wd} {r : Rc} (h : aheadE x r = 0) : nextE x.c r = 0 ∧ dputE x.d r = 0 := by
  unfold aheadE at h
  by_cases h1 : nextE x.c r = 0
  · rw [if_neg (by simp [h1])] at h
    exact ⟨h1, h⟩
  · rw [if_pos h1] at h
    exact absurd h h1

section
variable {base : Nat} {x : Wd} {r : Rc} {a' : Option Addr} {n' G' : Nat} {b1 : Option Addr} {m1 k1 : Nat} {b2 : Option Addr} {m2 k2 : Nat} {w' : World}

theorem AhIs.call {w2 : World} (h : AhIs base x r a' n' G' b1 m1 k1 b2 m2 k2 w') (hb : Below w'.heap.size w' w2) : AhIs base x r a' n' G' b1 m1 k1 b2 m2 k2 w2 := fun e =>
  have q := h e
  ⟨q.1, q.2.1.call hb, q.2.2.1, q.2.2.2.1, q.2.2.2.2.1.call hb, q.2.2.2.2.2.call hb⟩

theorem AhIs.alloc (h : AhIs base x r a' n' G' b1 m1 k1 b2 m2 k2 w') (o : Obj) : AhIs base x r a' n' G' b1 m1 k1 b2 m2 k2 (w'.alloc o) :=
  h.call ((Below.refl _ _).alloc (Nat.le_refl _) o)

theorem AhIs.down {base' : Nat} (h : AhIs base x r a' n' G' b1 m1 k1 b2 m2 k2 w') (hb : base' ≤ base) : AhIs base' x r a' n' G' b1 m1 k1 b2 m2 k2 w' := fun e =>
  have q := h e
  ⟨q.1, q.2.1.down hb, q.2.2⟩

theorem AhIs.setS {g : Nat} {q1 : Option Addr} {q2 q3 : Nat} (h : AhIs base x r a' n' G' b1 m1 k1 b2 m2 k2 w') (B : Blk w' g [.slice q1 q2 q3] 24) (u : Value) : AhIs base x r a' n' G' b1 m1 k1 b2 m2 k2 (w'.setCell ⟨g, 0, none⟩ u) := fun e =>
  have q := h e
  have gr := grownSet (grownRefl w' (some g)) 0 u
  ⟨q.1, q.2.1.boxed B u, q.2.2.1, q.2.2.2.1, slU_off q.2.2.2.2.1 B (by simp) gr, slU_off q.2.2.2.2.2 B (by simp) gr⟩

theorem AhIs.setD {g i : Nat} {q1 q4 : Option Addr} {q2 q3 q5 q6 : Nat} (h : AhIs base x r a' n' G' b1 m1 k1 b2 m2 k2 w') (B : Blk w' g [.slice q1 q2 q3, .slice q4 q5 q6] 27) (u : Value) : AhIs base x r a' n' G' b1 m1 k1 b2 m2 k2 (w'.setCell ⟨g, i, none⟩ u) := fun e =>
  have q := h e
  have gr := grownSet (grownRefl w' (some g)) i u
  ⟨q.1, q.2.1.setD (right_len (next_right (ahead_next e).1)) B, q.2.2.1, q.2.2.2.1, slU_off q.2.2.2.2.1 B (by simp) gr, slU_off q.2.2.2.2.2 B (by simp) gr⟩

/-- The shelf and the disk in boxes of their own. -/
def Two (base : Nat) (v : World) (x : Wd) (r : Rc) (EA : Int) (s5 s6 s7 : Value) (wx : World) : Prop :=
  ∃ (bS bD : Nat) (a' : Option Addr) (n' G' : Nat) (b1 : Option Addr) (m1 k1 : Nat) (b2 : Option Addr) (m2 k2 : Nat), s5 = .pointer (some ⟨bS, 0, none⟩) ∧ s6 = .pointer (some ⟨bD, 0, none⟩) ∧ s7 = .int .i64 EA ∧ Blk wx bS [.slice a' n' G'] 24 ∧ Blk wx bD [.slice b1 m1 k1, .slice b2 m2 k2] 27 ∧ Hid (AhIs base x r a' n' G' b1 m1 k1 b2 m2 k2 wx) ∧ base ≤ bS ∧ base ≤ bD ∧ Below base v wx

variable {v : World} {EA : Int}

theorem two1 (h : AhIs base x r a' n' G' b1 m1 k1 b2 m2 k2 w') (hb : Below base v w') (hs : base ≤ w'.heap.size) :
    Two base v x r EA (.pointer (some ⟨w'.heap.size, 0, none⟩)) (.pointer (some ⟨w'.heap.size + 1, 0, none⟩)) (.int .i64 EA) ((w'.alloc (.cells #[.slice a' n' G'] 24)).alloc (.cells #[.slice b1 m1 k1, .slice b2 m2 k2] 27)) :=
  ⟨_, _, a', n', G', b1, m1, k1, b2, m2, k2, rfl, rfl, rfl, (Blk.laid w' [.slice a' n' G'] _ _ rfl).alc _, Blk.laid (w'.alloc _) [.slice b1 m1 k1, .slice b2 m2 k2] _ _ (by simp), hide ((h.alloc _).alloc _), hs, by omega, (hb.alloc hs _).alloc (by simp; omega) _⟩

theorem two2 (h : AhIs base x r a' n' G' b1 m1 k1 b2 m2 k2 w') (hb : Below base v w') (hs : base ≤ w'.heap.size) :
    Two base v x r EA (.pointer (some ⟨w'.heap.size + 1, 0, none⟩)) (.pointer (some ⟨w'.heap.size, 0, none⟩)) (.int .i64 EA) ((w'.alloc (.cells #[.slice b1 m1 k1, .slice b2 m2 k2] 27)).alloc (.cells #[.slice a' n' G'] 24)) :=
  ⟨_, _, a', n', G', b1, m1, k1, b2, m2, k2, rfl, rfl, rfl, Blk.laid (w'.alloc _) [.slice a' n' G'] _ _ (by simp), (Blk.laid w' [.slice b1 m1 k1, .slice b2 m2 k2] _ _ rfl).alc _, hide ((h.alloc _).alloc _), by omega, hs, (hb.alloc hs _).alloc (by simp; omega) _⟩

theorem two3 {q : Nat} (h : AhIs base x r a' n' G' b1 m1 k1 b2 m2 k2 w') (hb : Below base v w') (hs : base ≤ w'.heap.size) (R : Blk w' q [.slice none 0 0] 24) (hq : base ≤ q) :
    Two base v x r EA (.pointer (some ⟨q, 0, none⟩)) (.pointer (some ⟨w'.heap.size, 0, none⟩)) (.int .i64 EA) ((w'.setCell ⟨q, 0, none⟩ (.slice a' n' G')).alloc (.cells #[.slice b1 m1 k1, .slice b2 m2 k2] 27)) :=
  ⟨_, _, a', n', G', b1, m1, k1, b2, m2, k2, rfl, rfl, rfl, (R.set 0 _).alc _, Blk.laid _ [.slice b1 m1 k1, .slice b2 m2 k2] _ _ (by simp), hide ((h.setS R _).alloc _), hq, hs, (hb.setCell (p := ⟨q, 0, none⟩) hq _).alloc (by simpa using hs) _⟩

theorem two4 {q q' : Nat} (h : AhIs base x r a' n' G' b1 m1 k1 b2 m2 k2 w') (hb : Below base v w') (R : Blk w' q [.slice none 0 0] 24) (R' : Blk w' q' [.slice none 0 0, .slice none 0 0] 27) (hq : base ≤ q) (hq' : base ≤ q') (hne : q ≠ q') :
    Two base v x r EA (.pointer (some ⟨q, 0, none⟩)) (.pointer (some ⟨q', 0, none⟩)) (.int .i64 EA) (((w'.setCell ⟨q, 0, none⟩ (.slice a' n' G')).setCell ⟨q', 0, none⟩ (.slice b1 m1 k1)).setCell ⟨q', 1, none⟩ (.slice b2 m2 k2)) :=
  have R2 := R'.other 0 (.slice a' n' G') hne
  ⟨_, _, a', n', G', b1, m1, k1, b2, m2, k2, rfl, rfl, rfl, ((R.set 0 (.slice a' n' G')).other 0 _ hne.symm).other 1 _ hne.symm, put2 R2 _ _, hide (((h.setS R (.slice a' n' G')).setD R2 (i := 0) (.slice b1 m1 k1)).setD (R2.set 0 (.slice b1 m1 k1)) (i := 1) _), hq, hq', below2s (hb.setCell (p := ⟨q, 0, none⟩) hq _) hq' _ _⟩

theorem two5 {q : Nat} (h : AhIs base x r a' n' G' b1 m1 k1 b2 m2 k2 w') (hb : Below base v w') (hs : base ≤ w'.heap.size) (R : Blk w' q [.slice none 0 0, .slice none 0 0] 27) (hq : base ≤ q) :
    Two base v x r EA (.pointer (some ⟨w'.heap.size, 0, none⟩)) (.pointer (some ⟨q, 0, none⟩)) (.int .i64 EA) (((w'.setCell ⟨q, 0, none⟩ (.slice b1 m1 k1)).setCell ⟨q, 1, none⟩ (.slice b2 m2 k2)).alloc (.cells #[.slice a' n' G'] 24)) :=
  ⟨_, _, a', n', G', b1, m1, k1, b2, m2, k2, rfl, rfl, rfl, Blk.laid _ [.slice a' n' G'] _ _ (by simp), (put2 R _ _).alc _, hide (((h.setD R (i := 0) (.slice b1 m1 k1)).setD (R.set 0 (.slice b1 m1 k1)) (i := 1) _).alloc _), hs, hq, (below2s hb hq _ _).alloc (by simpa using hs) _⟩

end

theorem hap_made {x : Wd} {y : Hp} (hk : 1 ≤ y.k ∧ y.k ≤ 4) (h : hapE x y = 0) : hapW x y = ⟨nextL x.c (recOf y), syncD (dputD x.d (recOf y)), x.up, x.rd⟩ := by
  unfold hapW
  rw [if_neg (by simp [h]), if_neg (by omega), if_neg (by omega), if_neg (by omega), if_neg (by omega), if_neg (by omega)]

theorem hap_ahead {x : Wd} {y : Hp} (hk : (1 ≤ y.k ∧ y.k ≤ 4) ∨ y.k = 9) (hu : x.up = true) : hapE x y = if aheadE x (recOf y) ≠ 0 then aheadE x (recOf y) else if y.k = 9 then 0 else syncE (dputD x.d (recOf y)) := by
  rw [hap_rec hk hu]
  unfold aheadE
  by_cases h1 : nextE x.c (recOf y) = 0
  · simp only [h1, ne_eq, not_true_eq_false, if_false]
  · simp [h1]

set_option maxHeartbeats 8000000 in
set_option maxRecDepth 100000 in
theorem wwrite_any {Q : Nat → Prop} (y : Hp) (hk : 1 ≤ y.k ∧ y.k ≤ 4) (g h : Nat) (p : Pw) (ys : List Int) (x : Wd) (W : World) (B : WdB Q W g h p ys x) (hQ : ∀ q, Q q → q < W.heap.size) (hu : x.up = true) (hg : Gl W) (ea : Option Addr) (en eC : Nat) (s3 : SlW ec W ea eC (recOf y).e) (h3 : Hid (en = (recOf y).e.length)) :
    Calls Tryz.prog 108 #[.pointer (some ⟨g, 0, none⟩), .agg #[.int .i64 (recOf y).k, .int .i64 (recOf y).s, .int .i64 (recOf y).n, .slice ea en eC]] W (Did Q g h W (hapE x y) (if hapE x y = 0 then hapW x y else x)) := by
  have hE := hide (hap_ahead (.inl hk) hu)
  have hM := hide (fun e : hapE x y = 0 => hap_made hk e)
  have hRt := hide (fun e : hapE x y = 0 => hap_right B.right e)
  have hk9 := hide (show ¬ y.k = 9 by omega)
  replace hQ := hide hQ
  obtain ⟨Z, hZ⟩ : ∃ Z, Z = (if hapE x y = 0 then hapW x y else x) := ⟨_, rfl⟩
  rw [← hZ]
  obtain ⟨HE, hHE⟩ : ∃ HE, HE = hapE x y := ⟨_, rfl⟩
  rw [← hHE]
  replace hZ := hide hZ
  replace hHE := hide hHE
  obtain ⟨r, hr⟩ : ∃ r, r = recOf y := ⟨_, rfl⟩
  rw [← hr] at s3 h3 ⊢
  replace hE := hE.out
  replace hM := hM.out
  rw [← hr] at hE hM
  rw [if_neg hk9.out] at hE
  replace hE := hide hE
  replace hM := hide hM
  replace hRt := hRt.out
  have cA := fun V gl I s => ahead_any x r p ea en eC V gl I B.right s h3
  obtain ⟨C, D, up, rd⟩ := x
  simp only at hu
  subst hu
  replace hRt := hide hRt
  obtain ⟨sa, sn, sG, a1, n1, c1, a2, n2, c2, ra, rn, rc⟩ := p
  simp only [Pw.val] at cA
  have BQ := Blk.laid W [.int .i64 r.k, .int .i64 r.s, .int .i64 r.n, .slice ea en eC] 66 _ rfl
  have bel := newB (Below.refl W.heap.size W) (.cells #[.int .i64 r.k, .int .i64 r.s, .int .i64 r.n, .slice ea en eC] 66)
  replace B := B.call bel
  replace s3 := s3.call bel
  have gl := hg.call bel
  obtain ⟨K, S, N, L⟩ := r
  replace hr := hide hr
  go_enter Tryz.func108, Tryz.ntmps108
  go_upto_region 1 with fail
  generalize hv : World.alloc W _ = v at *
  have x0 : v.cell? ⟨g, 0, none⟩ = some (.slice sa sn sG) := B.blk.cell 0
  have x1 : v.cell? ⟨g, 1, none⟩ = some (.slice a1 n1 c1) := B.blk.cell 1
  have x2 : v.cell? ⟨g, 2, none⟩ = some (.slice a2 n2 c2) := B.blk.cell 2
  have x3 : v.cell? ⟨g, 3, none⟩ = some (.bool true) := B.blk.cell 3
  have x4 : v.cell? ⟨g, 4, none⟩ = some (.slice ra rn rc) := B.blk.cell 4
  have z0 : v.cell? ⟨W.heap.size, 0, none⟩ = some (.int .i64 K) := BQ.cell 0
  have z1 : v.cell? ⟨W.heap.size, 1, none⟩ = some (.int .i64 S) := BQ.cell 1
  have z2 : v.cell? ⟨W.heap.size, 2, none⟩ = some (.int .i64 N) := BQ.cell 2
  have z3 : v.cell? ⟨W.heap.size, 3, none⟩ = some (.slice ea en eC) := BQ.cell 3
  have cells : ∀ V, Below v.heap.size v V → V.cell? ⟨g, 0, none⟩ = some (.slice sa sn sG) ∧ V.cell? ⟨g, 1, none⟩ = some (.slice a1 n1 c1) ∧ V.cell? ⟨g, 2, none⟩ = some (.slice a2 n2 c2) ∧ V.cell? ⟨g, 3, none⟩ = some (.bool true) ∧ V.cell? ⟨g, 4, none⟩ = some (.slice ra rn rc) ∧ V.cell? ⟨W.heap.size, 0, none⟩ = some (.int .i64 K) ∧ V.cell? ⟨W.heap.size, 1, none⟩ = some (.int .i64 S) ∧ V.cell? ⟨W.heap.size, 2, none⟩ = some (.int .i64 N) ∧ V.cell? ⟨W.heap.size, 3, none⟩ = some (.slice ea en eC) := fun V hV =>
    ⟨(B.call hV).blk.cell 0, (B.call hV).blk.cell 1, (B.call hV).blk.cell 2, (B.call hV).blk.cell 3, (B.call hV).blk.cell 4, (BQ.keep hV BQ.lt).cell 0, (BQ.keep hV BQ.lt).cell 1, (BQ.keep hV BQ.lt).cell 2, (BQ.keep hV BQ.lt).cell 3⟩
  have kA : ∀ V, Below v.heap.size v V → Calls Tryz.prog 137 #[.agg #[.slice sa sn sG, .slice a1 n1 c1, .slice a2 n2 c2, .bool true, .slice ra rn rc], .agg #[.int .i64 K, .int .i64 S, .int .i64 N, .slice ea en eC]] V fun e w' => ∃ (a' : Option Addr) (n' G' : Nat) (b1 : Option Addr) (m1 k1 : Nat) (b2 : Option Addr) (m2 k2 : Nat), e = .returned (.tuple #[.agg #[.slice a' n' G'], .agg #[.slice b1 m1 k1, .slice b2 m2 k2], .int .i64 (aheadE ⟨C, D, true, rd⟩ ⟨K, S, N, L⟩)]) ∧
      w'.cell? ⟨g, 0, none⟩ = some (.slice sa sn sG) ∧ w'.cell? ⟨g, 1, none⟩ = some (.slice a1 n1 c1) ∧ w'.cell? ⟨g, 2, none⟩ = some (.slice a2 n2 c2) ∧ w'.cell? ⟨g, 3, none⟩ = some (.bool true) ∧ w'.cell? ⟨g, 4, none⟩ = some (.slice ra rn rc) ∧ w'.cell? ⟨W.heap.size, 0, none⟩ = some (.int .i64 K) ∧ w'.cell? ⟨W.heap.size, 1, none⟩ = some (.int .i64 S) ∧ w'.cell? ⟨W.heap.size, 2, none⟩ = some (.int .i64 N) ∧ w'.cell? ⟨W.heap.size, 3, none⟩ = some (.slice ea en eC) ∧
      Hid (AhIs V.heap.size ⟨C, D, true, rd⟩ ⟨K, S, N, L⟩ a' n' G' b1 m1 k1 b2 m2 k2 w') ∧ Below V.heap.size V w' ∧ Below v.heap.size v w' := by
    intro V hV
    refine (cA V (gl.call hV) (B.call hV).is (s3.call hV)).mono ?_
    rintro e w' ⟨a', n', G', b1, m1, k1, b2, m2, k2, rfl, hA, b⟩
    obtain ⟨q0, q1, q2, q3, q4, q5, q6, q7, q8⟩ := cells w' (belowCall hV b)
    exact ⟨a', n', G', b1, m1, k1, b2, m2, k2, rfl, q0, q1, q2, q3, q4, q5, q6, q7, q8, hA, b, belowCall hV b⟩
  have k0 : Below v.heap.size v v.drew := belowDrew (Below.refl _ _)
  generalize hEE : aheadE ⟨C, D, true, rd⟩ ⟨K, S, N, L⟩ = EA at *
  have lg : g < v.heap.size := B.blk.lt
  have lq : W.heap.size < v.heap.size := BQ.lt
  have nn0 : ¬ g = v.heap.size := by omega
  have nn0' : ¬ v.heap.size = g := by omega
  have nn1 : ¬ W.heap.size = v.heap.size := by omega
  have nn1' : ¬ v.heap.size = W.heap.size := by omega
  have nn2 : ¬ g = v.heap.size + 1 := by omega
  have nn2' : ¬ v.heap.size + 1 = g := by omega
  have nn3 : ¬ W.heap.size = v.heap.size + 1 := by omega
  have nn3' : ¬ v.heap.size + 1 = W.heap.size := by omega
  have Q2 : Blk (v.alloc (.cells #[.slice none 0 0] 24)).drew v.heap.size [.slice none 0 0] 24 := Blk.laid v [.slice none 0 0] _ _ rfl
  have Q3 : Blk (v.alloc (.cells #[.slice none 0 0, .slice none 0 0] 27)).drew v.heap.size [.slice none 0 0, .slice none 0 0] 27 := Blk.laid v [.slice none 0 0, .slice none 0 0] _ _ rfl
  have Q4 : Blk ((v.alloc (.cells #[.slice none 0 0] 24)).alloc (.cells #[.slice none 0 0, .slice none 0 0] 27)).drew v.heap.size [.slice none 0 0] 24 := (Blk.laid v [.slice none 0 0] _ _ rfl).alc (.cells #[.slice none 0 0, .slice none 0 0] 27)
  have Q4' : Blk ((v.alloc (.cells #[.slice none 0 0] 24)).alloc (.cells #[.slice none 0 0, .slice none 0 0] 27)).drew (v.heap.size + 1) [.slice none 0 0, .slice none 0 0] 27 := Blk.laid (v.alloc (.cells #[.slice none 0 0] 24)) [.slice none 0 0, .slice none 0 0] _ _ (by simp)
  have Q5 : Blk ((v.alloc (.cells #[.slice none 0 0, .slice none 0 0] 27)).alloc (.cells #[.slice none 0 0] 24)).drew v.heap.size [.slice none 0 0, .slice none 0 0] 27 := (Blk.laid v [.slice none 0 0, .slice none 0 0] _ _ rfl).alc (.cells #[.slice none 0 0] 24)
  have Q5' : Blk ((v.alloc (.cells #[.slice none 0 0, .slice none 0 0] 27)).alloc (.cells #[.slice none 0 0] 24)).drew (v.heap.size + 1) [.slice none 0 0] 24 := Blk.laid (v.alloc (.cells #[.slice none 0 0, .slice none 0 0] 27)) [.slice none 0 0] _ _ (by simp)
  replace hEE := hide hEE
  replace hv := hide hv
  replace B := hide B
  replace bel := hide bel
  replace s3 := hide s3
  clear cells cA BQ
  replace gl := hide gl
  go_cut [5, 6, 7] from 8 to 16 (fun s5 s6 s7 wx => Two v.heap.size v ⟨C, D, true, rd⟩ ⟨K, S, N, L⟩ EA s5 s6 s7 wx)
  case first =>
    go_region_held3 (fun w' => w'.cell? ⟨g, 0, none⟩ = some (.slice sa sn sG) ∧ w'.cell? ⟨g, 1, none⟩ = some (.slice a1 n1 c1) ∧ w'.cell? ⟨g, 2, none⟩ = some (.slice a2 n2 c2) ∧ w'.cell? ⟨g, 3, none⟩ = some (.bool true) ∧ w'.cell? ⟨g, 4, none⟩ = some (.slice ra rn rc) ∧ w'.cell? ⟨W.heap.size, 0, none⟩ = some (.int .i64 K) ∧ w'.cell? ⟨W.heap.size, 1, none⟩ = some (.int .i64 S) ∧ w'.cell? ⟨W.heap.size, 2, none⟩ = some (.int .i64 N) ∧ w'.cell? ⟨W.heap.size, 3, none⟩ = some (.slice ea en eC)) (go_keep)
      (first
        | (go_at_call 137; refine (kA _ (by first | exact k0 | exact belowDrew (newB (Below.refl _ _) _) | exact belowDrew (newB (newB (Below.refl _ _) _) _))).mono ?_; rintro e w4 ⟨a', n', G', b1, m1, k1, b2, m2, k2, rfl, q0, q1, q2, q3, q4, q5, q6, q7, q8, hA, b4, zA⟩; have gz := zA.size; have o0 : ¬ g = w4.heap.size := by {omega}; have o0' : ¬ w4.heap.size = g := by {omega}; have o1 : ¬ W.heap.size = w4.heap.size := by {omega}; have o1' : ¬ w4.heap.size = W.heap.size := by {omega}; have o2 : ¬ g = w4.heap.size + 1 := by {omega}; have o2' : ¬ w4.heap.size + 1 = g := by {omega}; have o3 : ¬ W.heap.size = w4.heap.size + 1 := by {omega}; have o3' : ¬ w4.heap.size + 1 = W.heap.size := by {omega}; (first | (have R1 := Q2.keep b4 Q2.lt; have c0 := R1.cell 0; have cf0 := R1.free 0; have cl := R1.lt; have u1 : ¬ v.heap.size = w4.heap.size := by {omega}; have u1' : ¬ w4.heap.size = v.heap.size := by {omega}) | (have R1 := Q3.keep b4 Q3.lt; have c0 := R1.cell 0; have cf0 := R1.free 0; have cl := R1.lt; have c1 := R1.cell 1; have cf1 := R1.free 1; have u1 : ¬ v.heap.size = w4.heap.size := by {omega}; have u1' : ¬ w4.heap.size = v.heap.size := by {omega}) | (have R1 := Q4.keep b4 Q4.lt; have R2 := Q4'.keep b4 Q4'.lt; have c0 := R1.cell 0; have cf0 := R1.free 0; have cl := R1.lt; have d0 := R2.cell 0; have df0 := R2.free 0; have dl := R2.lt; have d1 := R2.cell 1; have df1 := R2.free 1; have u1 : ¬ v.heap.size = v.heap.size + 1 := by {omega}; have u1' : ¬ v.heap.size + 1 = v.heap.size := by {omega}) | (have R1 := Q5.keep b4 Q5.lt; have R2 := Q5'.keep b4 Q5'.lt; have c0 := R1.cell 0; have cf0 := R1.free 0; have cl := R1.lt; have c1 := R1.cell 1; have cf1 := R1.free 1; have d0 := R2.cell 0; have df0 := R2.free 0; have dl := R2.lt; have u1 : ¬ v.heap.size = v.heap.size + 1 := by {omega}; have u1' : ¬ v.heap.size + 1 = v.heap.size := by {omega}) | skip)))
    all_goals (
      go_wp2_with fail
      go_meet
      case rel =>
        have hA2 := hA.out.down (base' := v.heap.size) (by first | exact Nat.le_refl _ | exact (belowDrew (newB (Below.refl v.heap.size v) _)).size | exact (belowDrew (newB (newB (Below.refl v.heap.size v) _) _)).size)
        first
          | exact two1 hA2 zA zA.size
          | exact two2 hA2 zA zA.size
          | exact two3 hA2 zA zA.size R1 (Nat.le_refl _)
          | exact two5 hA2 zA zA.size R1 (Nat.le_refl _)
          | exact two4 hA2 zA R1 R2 (Nat.le_refl _) (Nat.le_succ _) u1
          | exact two4 hA2 zA R2 R1 (Nat.le_succ _) (Nat.le_refl _) u1')
  case rest =>
    obtain ⟨bS, bD, a', n', G', b1, m1, k1, b2, m2, k2, rfl, rfl, rfl, BS, BD, hA, lS, lD, hcut⟩ := hcut
    have B0 := hide B.out
    have bel0 := hide bel.out
    have hlt : Hid (h < v.heap.size) := hide B.out.rb.lt
    replace B := B.out.call hcut
    replace bel := belowCall bel.out hcut
    replace gl := gl.out.call hcut
    clear x0 x1 x2 x3 x4 z0 z1 z2 z3 kA k0 Q2 Q3 Q4 Q4' Q5 Q5' nn0 nn0' nn1 nn1' nn2 nn2' nn3 nn3' s3
    have hE1 := hE.out
    have hE2 := hHE.out.trans hE1
    clear hE1
    have hE1 := hE2
    clear hE2
    by_cases hz : EA = 0
    · obtain ⟨rfl, IN, q1, q2, T1, T2⟩ := hA.out (hEE.out.trans hz)
      obtain ⟨hNx, hDp⟩ := ahead_next (hEE.out.trans hz)
      rw [if_neg (fun e => e hz)] at hE1
      subst hz
      simp only at q1 q2 T1 T2 IN hNx hDp
      have fewD := few_of (dput_ok hDp).2.2.2
      have cS := fun V gl s t => sync_any (dputD D ⟨K, S, N, L⟩) b1 b2 k1 k2 m1 m2 V gl s t q1 q2 (by rw [q1, q2]; exact Nat.le_trans fewD (by decide))
      have h4 := hide (right_len (next_right hNx))
      replace hE1 := hide hE1
      replace q1 := hide q1
      replace q2 := hide q2
      clear hA hNx hDp fewD hE hEE
      have d0 := BD.cell 0
      have d1 := BD.cell 1
      have dl := BD.lt
      go_wp2_with fail
      go_at_call 139
      refine (cS _ gl T1 T2).mono ?_
      rintro e w5 ⟨r1, r2, i1, i2, j1, j2, rfl, hi1, hi2, t1, t2, b5⟩
      replace hi1 := hide hi1
      replace hi2 := hide hi2
      clear d0 d1 dl cS T1 T2 q1 q2 gl
      replace BS := BS.keep b5 BS.lt
      replace BD := BD.keep b5 BD.lt
      replace IN := IN.call b5
      replace hcut := hcut.trans (b5.mono hcut.size)
      replace B := B.call b5
      have lhS := h
      clear lhS b5
      generalize hSE : syncE (dputD D ⟨K, S, N, L⟩) = SE at *
      generalize hSD : syncD (dputD D ⟨K, S, N, L⟩) = SD at *
      have d0 := BD.cell 0
      have d1 := BD.cell 1
      have f0 := BD.free 0
      have f1 := BD.free 1
      have dl := BD.lt
      have bS2 : Below v.heap.size v ((w5.setCell ⟨bD, 0, none⟩ (.slice r1 i1 j1)).setCell ⟨bD, 1, none⟩ (.slice r2 i2 j2)) := below2s hcut lD _ _
      have B9 := B0.out.call bS2
      have IN9 := (IN.setD h4.out BD (i := 0) (u := .slice r1 i1 j1)).setD h4.out (BD.set 0 (.slice r1 i1 j1)) (i := 1) (u := .slice r2 i2 j2)
      have grD := grownSet (grownSet (grownRefl w5 (some bD)) 0 (.slice r1 i1 j1)) 1 (.slice r2 i2 j2)
      have T1 := slU_off t1 BD (by simp) grD
      have T2 := slU_off t2 BD (by simp) grD
      have D9 := put2 BD (.slice r1 i1 j1) (.slice r2 i2 j2)
      have belW : Hid (Below W.heap.size W ((w5.setCell ⟨bD, 0, none⟩ (.slice r1 i1 j1)).setCell ⟨bD, 1, none⟩ (.slice r2 i2 j2))) := hide (bel0.out.trans (bS2.mono bel0.out.size))
      by_cases hSD2 : bS = bD
      · subst hSD2
        exact absurd (blkType BS BD) (by decide)
      have S9 : Blk ((w5.setCell ⟨bD, 0, none⟩ (.slice r1 i1 j1)).setCell ⟨bD, 1, none⟩ (.slice r2 i2 j2)) bS [.slice a' 4 G'] 24 := (BS.other 0 _ (fun e => hSD2 e.symm)).other 1 _ (fun e => hSD2 e.symm)
      replace T1 := hide T1
      replace T2 := hide T2
      replace IN9 := hide IN9
      replace bS2 := hide bS2
      clear IN t1 t2 grD BS BD B hcut
      by_cases hs : SE = 0
      · subst hs
        go_upto_region 7 with fail
        clear d0 d1 f0 f1 dl
        generalize World.setCell (World.setCell w5 _ _) _ _ = w9 at *
        have s0 := S9.cell 0
        have sl := S9.lt
        have d0 := D9.cell 0
        have d1 := D9.cell 1
        have dl := D9.lt
        have x0 : w9.cell? ⟨g, 0, none⟩ = some (.slice sa sn sG) := B9.blk.cell 0
        have x1 : w9.cell? ⟨g, 1, none⟩ = some (.slice a1 n1 c1) := B9.blk.cell 1
        have x2 : w9.cell? ⟨g, 2, none⟩ = some (.slice a2 n2 c2) := B9.blk.cell 2
        have g0 := B9.blk.free 0
        have g1 := B9.blk.free 1
        have g2 := B9.blk.free 2
        have gl9 := B9.blk.lt
        have nn1 : ¬ g = bS := by omega
        have nn2 : ¬ bS = g := by omega
        have nn3 : ¬ g = bD := by omega
        have nn4 : ¬ bD = g := by omega
        have gr := grownSet (grownSet (grownSet (grownRefl w9 (some g)) 0 (.slice a' 4 G')) 1 (.slice r1 i1 j1)) 2 (.slice r2 i2 j2)
        have BB := ((B9.blk.set 0 (.slice a' 4 G')).set 1 (.slice r1 i1 j1)).set 2 (.slice r2 i2 j2)
        have hHE0 : HE = 0 := hE1.out
        have hm := hM.out (hHE.out.symm.trans hHE0)
        have hrt := hRt.out (hHE.out.symm.trans hHE0)
        rw [hm] at hrt
        have WB := hide (WdB.wrote (Q := Q) (h := h) (p := ⟨a', 4, G', r1, i1, j1, r2, i2, j2, ra, rn, rc⟩) (ys := ys) (x := ⟨nextL C ⟨K, S, N, L⟩, SD, true, rd⟩) B9.blk gr BB
          ⟨h4.out.symm, hi1.out, hi2.out, B9.is.er, IN9.out.is, T1.out, T2.out, B9.is.r⟩ (IN9.out.off (fun q hq => hq.elim (fun e => by rw [e]; exact hlt.out) (fun e => Nat.lt_of_lt_of_le (hQ.out q e) bel0.out.size))) hrt B9.ra B9.rb B9.ry B9.rm)
        have gb := hide ((Gb2.below (g := g) (h := h) belW.out).trans (Gb2.box gr) (.inl rfl))
        replace hm := hide hm
        replace hHE0 := hide hHE0
        clear gr BB B9 S9 D9 IN9 T1 T2 hrt hE1 hRt hM
        go_region
        all_goals (
          go_wp2_with fail
          go_ret
          rw [hZ.out, if_pos (hHE.out.symm.trans hHE0.out), hm.out, hHE0.out]
          exact ⟨rfl, h, _, ys, WB.out.call (belowDrew (Below.refl _ _)), gb.out.call (belowDrew (Below.refl _ _)), .inl rfl⟩)
      · have hs' : decide (SE = 0) = false := decide_eq_false hs
        have hHE0 : Hid (HE = SE) := hide hE1.out
        clear hE1 hRt hM S9 D9 IN9 T1 T2
        replace B9 := hide B9
        go_wp2_with fail
        go_ret
        rw [hZ.out, if_neg (fun e => hs (hHE0.out.symm.trans (hHE.out.trans e))), hHE0.out]
        exact ⟨rfl, h, _, ys, B9.out, Gb2.below belW.out, .inl rfl⟩
    · rw [if_pos hz] at hE1
      have hz' : decide (EA = 0) = false := decide_eq_false hz
      have hHE0 : Hid (HE = EA) := hide hE1
      replace B := hide B
      replace bel := hide bel
      clear hE hE1 hRt hM hA BS BD
      go_wp2_with fail
      go_ret
      rw [hZ.out, if_neg (fun e => hz (hHE0.out.symm.trans (hHE.out.trans e))), hHE0.out]
      exact ⟨rfl, h, _, ys, B.out, Gb2.below bel.out, .inl rfl⟩

end Go.Proofs.YtcjdpilmhlfmfaaGreatDoor
