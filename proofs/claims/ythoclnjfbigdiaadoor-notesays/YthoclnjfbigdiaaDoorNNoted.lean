/-
  The closed fact 'noted', and 'batch'.
-/
import Derived.Test.YthoclnjfbigdiaaDoorNoteBackM
import Derived.Test.YthoclnjfbigdiaaDoorNSame
import Derived.Deep.RegionHeld3
import Derived.Deep.Cut
import Derived.Deep.CutRange
namespace Go.Proofs.YthoclnjfbigdiaaDoor
open Go.RowKit

def rBatch : Rc := ⟨1, 0, 0, [(1, 10, -5), (2, 3, 4)]⟩
def rSeal : Rc := ⟨2, 1, 2, []⟩

theorem batch_text : recE rBatch = 0 ∧ recT rBatch = [98, 97, 116, 99, 104, 32, 49, 32, 49, 48, 32, 45, 53, 32, 50, 32, 51, 32, 52] := by decide +kernel
theorem seal_text : recE rSeal = 0 ∧ recT rSeal = [115, 101, 97, 108, 32, 49, 32, 50] := by decide +kernel

theorem slW_of_blk {w : World} {g : Nat} {l : List Nt} {T : TypeId} (B : Blk w g (l.flatMap ec) T) (h : l.length ≤ 1000) : SlW ec w (some ⟨g, 0, none⟩) l.length l := by
  refine ⟨.inr ⟨g, 0, rfl, B.lt, fun i v hv => ?_⟩, Nat.le_refl _, by omega, fun h => by cases h⟩
  rw [Nat.zero_add]
  exact (B.cell i).trans hv

set_option maxRecDepth 100000 in
theorem batch_any (w : World) : Calls Tryd.prog 31 #[] w fun e w' => ∃ g, e = .returned (.agg #[.int .i64 1, .int .i64 0, .int .i64 0, .slice (some ⟨g, 0, none⟩) 2 2]) ∧ SlW ec w' (some ⟨g, 0, none⟩) 2 [(1, 10, -5), (2, 3, 4)] ∧ Below w.heap.size w w' := by
  go_enter Tryd.func31, Tryd.ntmps31
  go_wp2_with fail
  have BA := Blk.laid w [.int .i64 1, .int .i64 0, .int .i64 0, .slice (some ⟨w.heap.size + 1, 0, none⟩) 2 2] 24 _ rfl
  have bel : Below w.heap.size w (w.alloc (.cells #[.int .i64 1, .int .i64 0, .int .i64 0, .slice (some ⟨w.heap.size + 1, 0, none⟩) 2 2] 24)) := (Below.refl _ _).alloc (Nat.le_refl _) _
  have hsz : (w.alloc (.cells #[.int .i64 1, .int .i64 0, .int .i64 0, .slice (some ⟨w.heap.size + 1, 0, none⟩) 2 2] 24)).heap.size = w.heap.size + 1 := by simp
  generalize w.alloc _ = w1 at *
  have BB := Blk.laid w1 ([(1, 10, -5), (2, 3, 4)].flatMap ec) 59 (w.heap.size + 1) hsz.symm
  have BA2 := BA.keep (newB (Below.refl w1.heap.size w1) (.cells ([(1, 10, -5), (2, 3, 4)].flatMap ec).toArray 59)) BA.lt
  have bel2 := newB bel (.cells ([(1, 10, -5), (2, 3, 4)].flatMap ec).toArray 59)
  have sl := slW_of_blk (l := [(1, 10, -5), (2, 3, 4)]) BB (by decide)
  simp only [ec, List.flatMap_cons, List.flatMap_nil, List.cons_append, List.nil_append, List.append_nil] at BB BA2 bel2 sl
  generalize w1.alloc _ = w2 at *
  have i0 : w2.cell? ⟨w.heap.size, 0, none⟩ = some (.int .i64 1) := BA2.cell 0
  have i1 : w2.cell? ⟨w.heap.size, 1, none⟩ = some (.int .i64 0) := BA2.cell 1
  have i2 : w2.cell? ⟨w.heap.size, 2, none⟩ = some (.int .i64 0) := BA2.cell 2
  have i3 : w2.cell? ⟨w.heap.size, 3, none⟩ = some (.slice (some ⟨w.heap.size + 1, 0, none⟩) 2 2) := BA2.cell 3
  exact bodyPost_ret (v := .agg #[.int .i64 1, .int .i64 0, .int .i64 0, .slice (some ⟨w.heap.size + 1, 0, none⟩) 2 2]) (by simp [results, Tryd.results31, go_sem, i0, i1, i2, i3]) rfl ⟨_, rfl, sl, bel2⟩

theorem parse_batch : parseR ⟨#[98, 97, 116, 99, 104, 32, 49, 32, 49, 48, 32, 45, 53, 32, 50, 32, 51, 32, 52]⟩ = rBatch ∧ parseE ⟨#[98, 97, 116, 99, 104, 32, 49, 32, 49, 48, 32, 45, 53, 32, 50, 32, 51, 32, 52]⟩ = 0 := by
  have h := (back_read batch_text.1).1
  rw [batch_text.2] at h
  have h2 : textR ⟨#[98, 97, 116, 99, 104, 32, 49, 32, 49, 48, 32, 45, 53, 32, 50, 32, 51, 32, 52]⟩ = some rBatch := h
  unfold parseR parseE
  rw [if_neg (by decide), if_neg (by decide), h2]
  simp only [batch_text.1, if_true, and_self]

set_option maxHeartbeats 2000000 in
set_option maxRecDepth 100000 in
theorem noted_any (w : World) (hg : Gl w) : Calls Tryd.prog 9 #[] w fun e w' => e = .returned (.bool true) ∧ Below w.heap.size w w' := by
  have cP := fun a' cap' W g h => print_is rBatch a' cap' 2 W g h rfl
  rw [batch_text.1, batch_text.2] at cP
  have cQ := fun W g => print_is rSeal none 0 0 W g (SlW.ofNil ec W) rfl
  rw [seal_text.1, seal_text.2] at cQ
  have cR := fun W g => parse_is ⟨#[98, 97, 116, 99, 104, 32, 49, 32, 49, 48, 32, 45, 53, 32, 50, 32, 51, 32, 52]⟩ W g (by decide)
  rw [parse_batch.1, parse_batch.2] at cR
  have cS := fun a1 a2 c1 c2 W s1 s2 => same_is rBatch rBatch a1 a2 c1 c2 2 2 W s1 s2 rfl rfl
  simp only [rBatch, rSeal, List.length_cons, List.length_nil] at cP cQ cR cS
  go_enter Tryd.func9, Tryd.ntmps9
  go_wp2_with fail
  go_at_call 31
  refine (batch_any _).mono ?_
  rintro e w1 ⟨g1, rfl, s1, b1⟩
  have gl1 := hg.call b1
  go_wp2_with fail
  go_at_call 6
  refine (cP _ _ _ gl1 s1).mono ?_
  rintro e w2 ⟨rfl, b2⟩
  have gl2 := gl1.call b2
  have bel2 := belowCall b1 b2
  clear b1 b2 s1 gl1
  go_wp2_with fail
  go_at_call 6
  refine (cQ _ gl2).mono ?_
  rintro e w3 ⟨rfl, b3⟩
  have gl3 := gl2.call b3
  have bel3 := belowCall bel2 b3
  clear b3 bel2 gl2
  go_wp2_with fail
  go_at_call 7
  refine (cR _ gl3).mono ?_
  rintro e w4 ⟨a4, G4, rfl, o4, b4⟩
  have bel4 := belowCall bel3 b4
  have s4 : SlW ec w4 a4 G4 [(1, 10, -5), (2, 3, 4)] := by
    obtain ⟨a5, G5, e5, s5, _, _⟩ := SlW.ofOwn ec_three (by decide) o4
    simp only [Value.slice.injEq, true_and] at e5
    obtain ⟨rfl, rfl⟩ := e5
    exact s5
  go_upto_region 4 with fail
  have BX := Blk.laid w4 [.int .i64 1, .int .i64 0, .int .i64 0, .slice a4 2 G4] 24 _ rfl
  have bel5 := newB bel4 (.cells #[.int .i64 1, .int .i64 0, .int .i64 0, .slice a4 2 G4] 24)
  have s5 := s4.alloc (.cells #[.int .i64 1, .int .i64 0, .int .i64 0, .slice a4 2 G4] 24)
  generalize w4.heap.size = gX at *
  generalize w4.alloc _ = w5 at *
  have q0 : w5.cell? ⟨gX, 0, none⟩ = some (.int .i64 1) := BX.cell 0
  have q1 : w5.cell? ⟨gX, 1, none⟩ = some (.int .i64 0) := BX.cell 1
  have q2 : w5.cell? ⟨gX, 2, none⟩ = some (.int .i64 0) := BX.cell 2
  have q3 : w5.cell? ⟨gX, 3, none⟩ = some (.slice a4 2 G4) := BX.cell 3
  have lX := BX.lt
  have cells : ∀ W, Below w5.heap.size w5 W → W.cell? ⟨gX, 0, none⟩ = some (.int .i64 1) ∧ W.cell? ⟨gX, 1, none⟩ = some (.int .i64 0) ∧ W.cell? ⟨gX, 2, none⟩ = some (.int .i64 0) ∧ W.cell? ⟨gX, 3, none⟩ = some (.slice a4 2 G4) := fun W h =>
    have B' := BX.keep h BX.lt
    ⟨B'.cell 0, B'.cell 1, B'.cell 2, B'.cell 3⟩
  have cBat : ∀ W, Below w5.heap.size w5 W → Calls Tryd.prog 31 #[] W fun e w' => ∃ g, e = .returned (.agg #[.int .i64 1, .int .i64 0, .int .i64 0, .slice (some ⟨g, 0, none⟩) 2 2]) ∧ SlW ec w' (some ⟨g, 0, none⟩) 2 [(1, 10, -5), (2, 3, 4)] ∧ w'.cell? ⟨gX, 0, none⟩ = some (.int .i64 1) ∧ w'.cell? ⟨gX, 1, none⟩ = some (.int .i64 0) ∧ w'.cell? ⟨gX, 2, none⟩ = some (.int .i64 0) ∧ w'.cell? ⟨gX, 3, none⟩ = some (.slice a4 2 G4) ∧ Below w5.heap.size w5 w' := by
    intro W h
    refine (batch_any W).mono ?_
    rintro e w' ⟨g, rfl, sl, b⟩
    have bb := belowCall h b
    obtain ⟨z0, z1, z2, z3⟩ := cells w' bb
    exact ⟨g, rfl, sl, z0, z1, z2, z3, bb⟩
  have cSm : ∀ g W, Below w5.heap.size w5 W → SlW ec W (some ⟨g, 0, none⟩) 2 [(1, 10, -5), (2, 3, 4)] → Calls Tryd.prog 11 #[.agg #[.int .i64 1, .int .i64 0, .int .i64 0, .slice a4 2 G4], .agg #[.int .i64 1, .int .i64 0, .int .i64 0, .slice (some ⟨g, 0, none⟩) 2 2]] W fun e w' => e = .returned (.bool true) ∧ w'.cell? ⟨gX, 0, none⟩ = some (.int .i64 1) ∧ w'.cell? ⟨gX, 1, none⟩ = some (.int .i64 0) ∧ w'.cell? ⟨gX, 2, none⟩ = some (.int .i64 0) ∧ w'.cell? ⟨gX, 3, none⟩ = some (.slice a4 2 G4) ∧ Below w5.heap.size w5 w' := by
    intro g W h sl
    refine (cS _ _ _ _ W (s5.keep h (Nat.le_refl _)) sl).mono ?_
    rintro e w' ⟨rfl, b⟩
    have bb := belowCall h b
    obtain ⟨z0, z1, z2, z3⟩ := cells w' bb
    exact ⟨by simp, z0, z1, z2, z3, bb⟩
  have K0 : Below w5.heap.size w5 w5.drew := belowDrew (Below.refl _ _)
  clear cells cP cQ cR cS o4 s4 s5 bel4 gl3 bel3 b4
  go_region_held3 (fun w' => w'.cell? ⟨gX, 0, none⟩ = some (.int .i64 1) ∧ w'.cell? ⟨gX, 1, none⟩ = some (.int .i64 0) ∧ w'.cell? ⟨gX, 2, none⟩ = some (.int .i64 0) ∧ w'.cell? ⟨gX, 3, none⟩ = some (.slice a4 2 G4)) (go_keep)
    (first
      | (go_at_call 31; refine (cBat _ K0).mono ?_; rintro e wA ⟨gA, rfl, sA, z0, z1, z2, z3, zA⟩)
      | (go_at_call 11; refine (cSm _ _ zA sA).mono ?_; rintro e wB ⟨rfl, y0, y1, y2, y3, zB⟩))
  all_goals go_wp2_with fail
  all_goals go_ret
  all_goals exact ⟨rfl, belowCall bel5 zB⟩

end Go.Proofs.YthoclnjfbigdiaaDoor
