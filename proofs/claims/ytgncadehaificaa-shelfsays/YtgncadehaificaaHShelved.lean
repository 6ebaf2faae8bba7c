/-
  The closed fact of chapter 6: a batch, a seal, a merge, a drop.
-/
import Derived.Test.YtgncadehaificaaP23
namespace Go.Proofs.Ytgncadehaificaa
open Go.RowKit

set_option maxHeartbeats 2000000 in
set_option maxRecDepth 100000 in
theorem shelved_any (w : World) :
    Calls Try.prog 16 #[] w fun e w' => e = .returned (.bool true) ∧ Below w.heap.size w w' := by
  go_enter Try.func16, Try.ntmps16
  go_wp2_with fail
  go_at_call 20
  refine (new_is _).mono ?_
  rintro e w1 ⟨a1, G1, rfl, s1, bel⟩
  go_wp2_with fail
  go_at_call 11
  refine (shl_k1 _ _ _ _ (s1.alloc _) (entLaid w1 ent3 _ rfl _ _ rfl 3 rfl (by decide))).mono ?_
  rintro e w2 ⟨a2, G2, rfl, s2, b2⟩
  replace bel := belowCall (belowNew bel _) b2
  have hb2 := bel
  clear s1 b2
  go_wp2_with fail
  have B1 := Blk.laid w2 [.slice a2 4 G2] 24 _ rfl
  replace s2 := s2.alloc (.cells #[.slice a2 4 G2] 24)
  replace bel := belowNew bel (.cells #[.slice a2 4 G2] 24)
  have hz : (w2.alloc (.cells #[.slice a2 4 G2] 24)).heap.size = w2.heap.size + 1 := by simp
  have hg1 : w.heap.size ≤ w2.heap.size := hb2.size
  generalize w2.heap.size = g1 at *
  generalize w2.alloc _ = w3 at *
  have t2 := entLaid w3 ent2 #[.int .i64 0, .int .i64 1, .int .i64 0, .int .i64 1, .int .i64 30, .int .i64 0] rfl 49 (g1 + 1) hz.symm 2 rfl (by decide)
  clear hz
  go_at_call 11
  refine (shl_k2 _ _ _ _ (s2.alloc _) t2).mono ?_
  rintro e w4 ⟨a4, G4, rfl, -, b4⟩
  replace B1 := (B1.alc _).keep b4 (B1.alc _).lt
  replace s2 := (s2.alloc _).call b4
  replace bel := belowCall (belowNew bel _) b4
  clear t2 b4
  have c1 : w4.cell? ⟨g1, 0, none⟩ = some (.slice a2 4 G2) := B1.cell 0
  have l1 := B1.lt
  have f1 := B1.free 0
  go_wp2_with fail
  replace B1 := B1.alc (.cells #[.slice a4 0 G4] 24)
  replace s2 := s2.alloc (.cells #[.slice a4 0 G4] 24)
  replace bel := belowNew bel (.cells #[.slice a4 0 G4] 24)
  clear c1 l1 f1
  generalize w4.heap.size = g3 at *
  generalize w4.alloc _ = w5 at *
  go_at_call 12
  refine (shl_k3 _ _ _ s2).mono ?_
  rintro e w6 ⟨a6, G6, rfl, s6, b6⟩
  replace B1 := B1.keep b6 B1.lt
  replace bel := belowCall bel b6
  clear s2 b6
  have c1 : w6.cell? ⟨g1, 0, none⟩ = some (.slice a2 4 G2) := B1.cell 0
  have l1 := B1.lt
  have f1 := B1.free 0
  have s7 := s6.wrote (u := .slice a6 4 G6) B1 (by decide)
  have B7 := B1.set 0 (.slice a6 4 G6)
  have bel7 := bel.setCell (p := ⟨g1, 0, none⟩) (show w.heap.size ≤ g1 from hg1) (.slice a6 4 G6)
  clear s6 B1 bel hb2 hg1
  go_wp2_with fail
  clear c1 l1 f1
  generalize w6.setCell _ _ = w7 at *
  go_at_call 12
  refine (shl_k4 _ _ _ s7).mono ?_
  rintro e w8 ⟨a8, G8, rfl, s8, b8⟩
  have B1 := B7.keep b8 B7.lt
  have s1 := s7.call b8
  have bel := belowCall bel7 b8
  clear s7 B7 bel7 b8
  go_wp2_with fail
  have B6 := Blk.laid w8 [.slice a8 4 G8] 24 _ rfl
  replace B1 := B1.alc (.cells #[.slice a8 4 G8] 24)
  replace s1 := s1.alloc (.cells #[.slice a8 4 G8] 24)
  replace s8 := s8.alloc (.cells #[.slice a8 4 G8] 24)
  replace bel := belowNew bel (.cells #[.slice a8 4 G8] 24)
  generalize w8.heap.size = g6 at *
  generalize w8.alloc _ = w9 at *
  go_at_call 13
  refine (shl_k5 _ _ _ s8).mono ?_
  rintro e w10 ⟨a10, G10, rfl, s10, b10⟩
  replace B1 := B1.keep b10 B1.lt
  replace B6 := B6.keep b10 B6.lt
  replace s1 := s1.call b10
  replace s8 := s8.call b10
  replace bel := belowCall bel b10
  clear b10
  have c6 : w10.cell? ⟨g6, 0, none⟩ = some (.slice a8 4 G8) := B6.cell 0
  have l6 := B6.lt
  go_wp2_with fail
  have B8 := Blk.laid w10 [.slice a10 4 G10] 24 _ rfl
  replace B1 := B1.alc (.cells #[.slice a10 4 G10] 24)
  replace B6 := B6.alc (.cells #[.slice a10 4 G10] 24)
  replace s1 := s1.alloc (.cells #[.slice a10 4 G10] 24)
  replace s8 := s8.alloc (.cells #[.slice a10 4 G10] 24)
  replace s10 := s10.alloc (.cells #[.slice a10 4 G10] 24)
  replace bel := belowNew bel (.cells #[.slice a10 4 G10] 24)
  clear c6 l6
  generalize w10.heap.size = g8 at *
  generalize w10.alloc _ = w11 at *
  go_at_call 14
  refine (shl_k6 _ _ _ s8).mono ?_
  rintro e w12 ⟨a12, G12, rfl, s12, b12⟩
  replace B1 := B1.keep b12 B1.lt
  replace B6 := B6.keep b12 B6.lt
  replace B8 := B8.keep b12 B8.lt
  replace s1 := s1.call b12
  replace s8 := s8.call b12
  replace s10 := s10.call b12
  replace bel := belowCall bel b12
  clear b12
  go_wp2_with fail
  replace B1 := B1.alc (.cells #[.slice a12 4 G12] 24)
  replace B6 := B6.alc (.cells #[.slice a12 4 G12] 24)
  replace B8 := B8.alc (.cells #[.slice a12 4 G12] 24)
  replace s1 := s1.alloc (.cells #[.slice a12 4 G12] 24)
  replace s8 := s8.alloc (.cells #[.slice a12 4 G12] 24)
  replace s10 := s10.alloc (.cells #[.slice a12 4 G12] 24)
  replace s12 := s12.alloc (.cells #[.slice a12 4 G12] 24)
  replace bel := belowNew bel (.cells #[.slice a12 4 G12] 24)
  generalize w12.heap.size = g10 at *
  generalize w12.alloc _ = w13 at *
  go_at_call 10
  refine (shl_k7 _ _ _ s12).mono ?_
  rintro e w14 ⟨a14, G14, rfl, sl, b14⟩
  replace B1 := B1.keep b14 B1.lt
  replace B6 := B6.keep b14 B6.lt
  replace B8 := B8.keep b14 B8.lt
  replace s1 := s1.call b14
  replace s8 := s8.call b14
  replace s10 := s10.call b14
  replace bel := belowCall bel b14
  clear b14 s12
  obtain ⟨tb, tf, ba, bc, rfl, tl, tc⟩ := shl_at2 _ _ _ s8
  obtain ⟨ub, uf, ca, cc, rfl, ul, uc⟩ := shl_at1 _ _ _ s10
  have K0 : KSh w g1 g6 g8 a6 (some ⟨tb, tf, none⟩) (some ⟨ub, uf, none⟩) a14 G6 G8 G10 G14 tb tf ub uf (.slice ba 2 bc) (.slice ca 1 cc) w14.drew := ⟨B1, B6, B8, s1.drewN 1, s10.drewN 1, sl.drewN 1, tl, ul, tc, uc, belowDrew bel⟩
  have c1 : w14.cell? ⟨g1, 0, none⟩ = some (.slice a6 4 G6) := B1.cell 0
  have c6 : w14.cell? ⟨g6, 0, none⟩ = some (.slice (some ⟨tb, tf, none⟩) 4 G8) := B6.cell 0
  have c8 : w14.cell? ⟨g8, 0, none⟩ = some (.slice (some ⟨ub, uf, none⟩) 4 G10) := B8.cell 0
  have over : ∀ {f : Nat} {args : Array Value} {v : Value} {W : World}, KSh w g1 g6 g8 a6 (some ⟨tb, tf, none⟩) (some ⟨ub, uf, none⟩) a14 G6 G8 G10 G14 tb tf ub uf (.slice ba 2 bc) (.slice ca 1 cc) W → Calls Try.prog f args W (fun e w' => e = .returned v ∧ Below W.heap.size W w') → Calls Try.prog f args W (fun e w' => e = .returned v ∧ w'.cell? ⟨g1, 0, none⟩ = some (.slice a6 4 G6) ∧ w'.cell? ⟨g6, 0, none⟩ = some (.slice (some ⟨tb, tf, none⟩) 4 G8) ∧ w'.cell? ⟨g8, 0, none⟩ = some (.slice (some ⟨ub, uf, none⟩) 4 G10) ∧ w'.cell? ⟨tb, tf + 2, none⟩ = some (.slice ba 2 bc) ∧ w'.cell? ⟨ub, uf + 2, none⟩ = some (.slice ca 1 cc) ∧ KSh w g1 g6 g8 a6 (some ⟨tb, tf, none⟩) (some ⟨ub, uf, none⟩) a14 G6 G8 G10 G14 tb tf ub uf (.slice ba 2 bc) (.slice ca 1 cc) w') := by
    intro f args v W h c
    refine c.mono ?_
    rintro e w' ⟨he, hb⟩
    exact ⟨he, (h.call hb).cells⟩
  have dSmall : ∀ W, KSh w g1 g6 g8 a6 (some ⟨tb, tf, none⟩) (some ⟨ub, uf, none⟩) a14 G6 G8 G10 G14 tb tf ub uf (.slice ba 2 bc) (.slice ca 1 cc) W → Calls Try.prog 55 #[] W (fun e w' => ∃ x X, e = .returned (.agg #[.slice x 4 X]) ∧ IsS w' x X smallL ∧ w'.cell? ⟨g1, 0, none⟩ = some (.slice a6 4 G6) ∧ w'.cell? ⟨g6, 0, none⟩ = some (.slice (some ⟨tb, tf, none⟩) 4 G8) ∧ w'.cell? ⟨g8, 0, none⟩ = some (.slice (some ⟨ub, uf, none⟩) 4 G10) ∧ w'.cell? ⟨tb, tf + 2, none⟩ = some (.slice ba 2 bc) ∧ w'.cell? ⟨ub, uf + 2, none⟩ = some (.slice ca 1 cc) ∧ KSh w g1 g6 g8 a6 (some ⟨tb, tf, none⟩) (some ⟨ub, uf, none⟩) a14 G6 G8 G10 G14 tb tf ub uf (.slice ba 2 bc) (.slice ca 1 cc) w') := by
    intro W h
    refine (small_any W).mono ?_
    rintro e w' ⟨rs, x, X, rfl, hx, sx, hb⟩
    exact ⟨x, X, rfl, ⟨rs, hx, sx⟩, (h.call hb).cells⟩
  have dPts : ∀ W, KSh w g1 g6 g8 a6 (some ⟨tb, tf, none⟩) (some ⟨ub, uf, none⟩) a14 G6 G8 G10 G14 tb tf ub uf (.slice ba 2 bc) (.slice ca 1 cc) W → Calls Try.prog 56 #[] W (fun e w' => ∃ xb xo, e = .returned (.slice (some ⟨xb, xo, none⟩) 3 3) ∧ SlP w' (some ⟨xb, xo + 4, none⟩) 1 ptsOne ∧ w'.cell? ⟨g1, 0, none⟩ = some (.slice a6 4 G6) ∧ w'.cell? ⟨g6, 0, none⟩ = some (.slice (some ⟨tb, tf, none⟩) 4 G8) ∧ w'.cell? ⟨g8, 0, none⟩ = some (.slice (some ⟨ub, uf, none⟩) 4 G10) ∧ w'.cell? ⟨tb, tf + 2, none⟩ = some (.slice ba 2 bc) ∧ w'.cell? ⟨ub, uf + 2, none⟩ = some (.slice ca 1 cc) ∧ KSh w g1 g6 g8 a6 (some ⟨tb, tf, none⟩) (some ⟨ub, uf, none⟩) a14 G6 G8 G10 G14 tb tf ub uf (.slice ba 2 bc) (.slice ca 1 cc) w') := by
    intro W h
    refine (points_any W).mono ?_
    rintro e w' ⟨x, rfl, sx, hb⟩
    obtain ⟨xb, xo, rfl, _⟩ := sx.where (by decide)
    exact ⟨xb, xo, rfl, sx.part 2 3 (by decide) (by decide), (h.call hb).cells⟩
  clear B1 B6 B8 s1 s8 s10 sl bel
  go_wp2_with fail
  go_region_held3 (fun w' => w'.cell? ⟨g1, 0, none⟩ = some (.slice a6 4 G6) ∧ w'.cell? ⟨g6, 0, none⟩ = some (.slice (some ⟨tb, tf, none⟩) 4 G8) ∧ w'.cell? ⟨g8, 0, none⟩ = some (.slice (some ⟨ub, uf, none⟩) 4 G10) ∧ w'.cell? ⟨tb, tf + 2, none⟩ = some (.slice ba 2 bc) ∧ w'.cell? ⟨ub, uf + 2, none⟩ = some (.slice ca 1 cc) ∧ KSh w g1 g6 g8 a6 (some ⟨tb, tf, none⟩) (some ⟨ub, uf, none⟩) a14 G6 G8 G10 G14 tb tf ub uf (.slice ba 2 bc) (.slice ca 1 cc) w') (simp [*])
    (first
      | (go_at_call 55; refine (dSmall _ ?_).mono ?_; (simp [*]); rintro e w' ⟨xS, XS, rfl, sS, z0, z1, z2, z3, z4, z5⟩)
      | (go_at_call 18; refine (over ?_ (shl_k8 _ _ _ _ _ ?_ ?_)).mono ?_; (simp [*]); (exact KSh.s1 (by assumption)); assumption; rintro e w' ⟨rfl, z0, z1, z2, z3, z4, z5⟩)
      | (go_at_call 56; refine (dPts _ ?_).mono ?_; (simp [*]); rintro e w' ⟨xP, oP, rfl, sP, z0, z1, z2, z3, z4, z5⟩)
      | (go_at_call 27; refine (over ?_ (shl_k10 _ _ _ _ _ ?_ ?_)).mono ?_; (simp [*]); (exact KSh.sl (by assumption)); assumption; rintro e w' ⟨rfl, z0, z1, z2, z3, z4, z5⟩)
      | (go_at_call 17; refine (over ?_ (shl_k9 _ _ _ ?_)).mono ?_; (simp [*]); (exact KSh.s8 (by assumption)); rintro e w' ⟨rfl, z0, z1, z2, z3, z4, z5⟩))
  all_goals go_wp2_with fail
  all_goals go_ret
  all_goals exact ⟨by simp, KSh.bel (by assumption)⟩

end Go.Proofs.Ytgncadehaificaa
