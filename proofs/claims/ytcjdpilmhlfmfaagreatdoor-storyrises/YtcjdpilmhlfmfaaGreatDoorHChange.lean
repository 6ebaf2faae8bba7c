/-
  shelf.change: a whole copy of a shelf, on which the function that is handed has worked; for each of the three that it is handed.
-/
import Derived.Test.YtcjdpilmhlfmfaaGreatDoorHCopyOf
import Derived.Test.YtcjdpilmhlfmfaaGreatDoorP20
import Derived.Test.YtcjdpilmhlfmfaaGreatDoorP19
namespace Go.Proofs.YtcjdpilmhlfmfaaGreatDoor
open Go.RowKit

set_option maxHeartbeats 1000000 in
set_option maxRecDepth 100000 in
theorem changeP (c1 : Value) (E : Int) (L : List Rw) (l : List Lr) (ao : Option Addr) (cap : Nat) (w : World) (hs : SlR w ao cap l)
    (hdo : shelfE (l.map Lr.rw) = 0 → ∀ W base box g rs, w.heap.size ≤ base → Below w.heap.size w W → Copied (l.map Lr.rw) base box g rs W → Calls Tryz.prog 148 #[.pointer (some ⟨box, 0, none⟩), c1] W (Does E L base box g W)) :
    Calls Tryz.prog 147 #[.agg #[.slice ao l.length cap], .func (.func 148) #[] #[c1]] w fun e w' => ∃ rs a' G, e = .returned (.tuple #[.agg #[.slice a' rs.length G], .int .i64 (chE (l.map Lr.rw) E)]) ∧ rs.map Lr.rw = chL (l.map Lr.rw) E L ∧ SlR w' a' G rs ∧ ((∀ ad, a' = some ad → w.heap.size ≤ ad.block) ∧ HdLo w.heap.size rs) ∧ Below w.heap.size w w' := by
  have c1 := fun W h => sCheck_any l ao cap W h
  by_cases hE : shelfE (l.map Lr.rw) = 0
  · have e1 : chE (l.map Lr.rw) E = E := by unfold chE; rw [if_pos hE]
    have e2 : chL (l.map Lr.rw) E L = if E = 0 then L else [] := by unfold chL; rw [e1]
    rw [e1, e2]
    have hdo := hdo hE
    have hR := right_of hE
    have h4 := hR.four
    rw [List.length_map] at h4
    have c2 := fun W h => copyOf_any l ao cap W h h4 (fun r hr => by
      have := hR.few r.rw (List.mem_map.2 ⟨r, hr, rfl⟩)
      unfold Lr.rw at this
      simpa using this)
    rw [hE] at c1
    rw [h4] at c1 ⊢
    replace e2 := hide e2
    clear e1 hR h4 hE e2
    go_enter Tryz.func147, Tryz.ntmps147
    go_wp2_with fail
    have D0 := (Blk.laid w [.slice ao 4 cap] 24 _ rfl).alc (.cells #[.slice none 0 0] 24)
    have R0 := Blk.laid (w.alloc (.cells #[.slice ao 4 cap] 24)) [.slice none 0 0] 24 (w.heap.size + 1) (by simp)
    have bel0 := below2 w (.cells #[.slice ao 4 cap] 24) (.cells #[.slice none 0 0] 24)
    have hs0 := (hs.alloc (.cells #[.slice ao 4 cap] 24)).alloc (.cells #[.slice none 0 0] 24)
    generalize (w.alloc _).alloc _ = w1 at *
    go_at_call 77
    refine (c1 _ hs0).mono ?_
    rintro e w2 ⟨rfl, b2⟩
    have D2 := D0.keep b2 D0.lt
    have R2 := R0.keep b2 R0.lt
    have bel2 := belowCall bel0 b2
    have hs2 := hs0.call b2
    have d0 : w2.cell? ⟨w.heap.size, 0, none⟩ = some (.slice ao 4 cap) := D2.cell 0
    clear D0 R0 bel0 hs0 b2 c1
    go_wp2_with fail
    go_at_call 182
    refine (c2 _ hs2).mono ?_
    rintro e w3 ⟨g, rs, rfl, hsame, G3, b3⟩
    have R3 := R2.keep b3 R2.lt
    have bel3 := belowCall bel2 b3
    have O4 := Blk.laid w3 [.slice (some ⟨g, 0, none⟩) 4 4] 24 _ rfl
    have R4 := R3.alc (.cells #[.slice (some ⟨g, 0, none⟩) 4 4] 24)
    have bel4 := belowNew bel3 (.cells #[.slice (some ⟨g, 0, none⟩) 4 4] 24)
    have G4 := G3.alloc (.cells #[.slice (some ⟨g, 0, none⟩) 4 4] 24)
    have hbox : w2.heap.size ≤ w3.heap.size := b3.size
    have hR2 := R2.lt
    clear b3 G3 bel3 c2 hs2 D2 d0 R2 R3
    go_wp2_with fail
    generalize w3.alloc _ = w4 at *
    generalize w3.heap.size = box at *
    have hd4 := hdo w4 w2.heap.size box g rs bel2.size bel4 ⟨O4, hbox, G4, hsame⟩
    have hb2 := bel2.size
    generalize w2.heap.size = base at *
    go_at_call 148
    refine hd4.mono ?_
    rintro e w5 ⟨rfl, b5, hfin⟩
    have R5 := R4.keep b5 hR2
    have bel5 : Below w.heap.size w w5 := bel4.trans (b5.mono hb2)
    have r0 : w5.cell? ⟨w.heap.size + 1, 0, none⟩ = some (.slice none 0 0) := R5.cell 0
    have r1 := R5.free 0
    by_cases hz : E = 0
    · obtain ⟨rs', F5, ⟨hl', hq'⟩, hL', O5⟩ := hfin hz
      replace hq' := hide hq'
      have o0 : w5.cell? ⟨box, 0, none⟩ = some (.slice (some ⟨g, 0, none⟩) 4 4) := O5.cell 0
      have grow : w5.grownBy (w5.setCell ⟨w.heap.size + 1, 0, none⟩ (.slice (some ⟨g, 0, none⟩) 4 4)) (some (w.heap.size + 1)) := grownSet (grownRefl w5 _) _ _
      have hlo := F5.lo
      have hgne : w.heap.size + 1 ≠ g := by omega
      have F6 := F5.offSl grow R5 (onlyOne _ _ _) hgne
      have s6 := F6.slr 4 hl' (by decide)
      have bel6 := bel5.setCell (p := ⟨w.heap.size + 1, 0, none⟩) (Nat.le_succ _) (.slice (some ⟨g, 0, none⟩) 4 4)
      subst hz
      replace s6 := hide s6
      replace hl' := hide hl'
      replace hL' := hide hL'
      clear F5 F6 O5 hfin grow G4 hdo hd4 hs O4 R4
      go_wp2_with fail
      exact bodyPost_ret (v := .tuple #[.agg #[.slice (some ⟨g, 0, none⟩) 4 4], .int .i64 0]) (by simp [results, Tryz.results147, go_sem, r0]) rfl ⟨rs', _, _, by rw [hl'.out], hL'.out, s6.out, ⟨(fun ad e => by cases e; exact Nat.le_trans hb2 hlo), hq'.out.mono hb2⟩, bel6⟩
    · have bel6 := bel5.setCell (p := ⟨w.heap.size + 1, 0, none⟩) (Nat.le_succ _) (.slice none 0 0)
      clear hfin G4 hdo hd4 hs O4 R4
      go_wp2_with fail
      exact bodyPost_ret (v := .tuple #[.agg #[.slice none 0 0], .int .i64 E]) (by simp [results, Tryz.results147, go_sem, r0]) rfl ⟨[], none, 0, rfl, rfl, SlR.ofNil _, ⟨(fun ad e => by cases e), HdLo.nil _⟩, bel6⟩
  · have e1 : chE (l.map Lr.rw) E = shelfE (l.map Lr.rw) := by unfold chE; rw [if_neg hE]
    have e2 : chL (l.map Lr.rw) E L = [] := by unfold chL; rw [e1, if_neg hE]
    rw [e1, e2]
    have hs0 := (hs.alloc (.cells #[.slice ao l.length cap] 24)).alloc (.cells #[.slice none 0 0] 24)
    clear hdo e1 e2
    generalize shelfE (l.map Lr.rw) = F at *
    generalize l.length = n at *
    have R0 := Blk.laid (w.alloc (.cells #[.slice ao n cap] 24)) [.slice none 0 0] 24 (w.heap.size + 1) (by simp)
    have bel0 := below2 w (.cells #[.slice ao n cap] 24) (.cells #[.slice none 0 0] 24)
    go_enter Tryz.func147, Tryz.ntmps147
    go_wp2_with fail
    generalize (w.alloc _).alloc _ = w1 at *
    go_at_call 77
    refine (c1 _ hs0).mono ?_
    rintro e w2 ⟨rfl, b2⟩
    have R2 := R0.keep b2 R0.lt
    have bel2 := belowCall bel0 b2
    have r0 : w2.cell? ⟨w.heap.size + 1, 0, none⟩ = some (.slice none 0 0) := R2.cell 0
    have r1 := R2.free 0
    have bel6 := bel2.setCell (p := ⟨w.heap.size + 1, 0, none⟩) (Nat.le_succ _) (.slice none 0 0)
    clear hs0 hs c1 R0 R2
    go_wp2_with fail
    exact bodyPost_ret (v := .tuple #[.agg #[.slice none 0 0], .int .i64 F]) (by simp [results, Tryz.results147, go_sem, r0]) rfl ⟨[], none, 0, rfl, rfl, SlR.ofNil _, ⟨(fun ad e => by cases e), HdLo.nil _⟩, bel6⟩

set_option maxHeartbeats 1000000 in
set_option maxRecDepth 100000 in
theorem changeR (c1 c2 : Value) (E : Int) (L : List Rw) (l : List Lr) (ao : Option Addr) (cap : Nat) (w : World) (hs : SlR w ao cap l)
    (hdo : shelfE (l.map Lr.rw) = 0 → ∀ W base box g rs, w.heap.size ≤ base → Below w.heap.size w W → Copied (l.map Lr.rw) base box g rs W → Calls Tryz.prog 183 #[.pointer (some ⟨box, 0, none⟩), c1, c2] W (Does E L base box g W)) :
    Calls Tryz.prog 147 #[.agg #[.slice ao l.length cap], .func (.func 183) #[] #[c1, c2]] w fun e w' => ∃ rs a' G, e = .returned (.tuple #[.agg #[.slice a' rs.length G], .int .i64 (chE (l.map Lr.rw) E)]) ∧ rs.map Lr.rw = chL (l.map Lr.rw) E L ∧ SlR w' a' G rs ∧ ((∀ ad, a' = some ad → w.heap.size ≤ ad.block) ∧ HdLo w.heap.size rs) ∧ Below w.heap.size w w' := by
  have c1 := fun W h => sCheck_any l ao cap W h
  by_cases hE : shelfE (l.map Lr.rw) = 0
  · have e1 : chE (l.map Lr.rw) E = E := by unfold chE; rw [if_pos hE]
    have e2 : chL (l.map Lr.rw) E L = if E = 0 then L else [] := by unfold chL; rw [e1]
    rw [e1, e2]
    have hdo := hdo hE
    have hR := right_of hE
    have h4 := hR.four
    rw [List.length_map] at h4
    have c2 := fun W h => copyOf_any l ao cap W h h4 (fun r hr => by
      have := hR.few r.rw (List.mem_map.2 ⟨r, hr, rfl⟩)
      unfold Lr.rw at this
      simpa using this)
    rw [hE] at c1
    rw [h4] at c1 ⊢
    replace e2 := hide e2
    clear e1 hR h4 hE e2
    go_enter Tryz.func147, Tryz.ntmps147
    go_wp2_with fail
    have D0 := (Blk.laid w [.slice ao 4 cap] 24 _ rfl).alc (.cells #[.slice none 0 0] 24)
    have R0 := Blk.laid (w.alloc (.cells #[.slice ao 4 cap] 24)) [.slice none 0 0] 24 (w.heap.size + 1) (by simp)
    have bel0 := below2 w (.cells #[.slice ao 4 cap] 24) (.cells #[.slice none 0 0] 24)
    have hs0 := (hs.alloc (.cells #[.slice ao 4 cap] 24)).alloc (.cells #[.slice none 0 0] 24)
    generalize (w.alloc _).alloc _ = w1 at *
    go_at_call 77
    refine (c1 _ hs0).mono ?_
    rintro e w2 ⟨rfl, b2⟩
    have D2 := D0.keep b2 D0.lt
    have R2 := R0.keep b2 R0.lt
    have bel2 := belowCall bel0 b2
    have hs2 := hs0.call b2
    have d0 : w2.cell? ⟨w.heap.size, 0, none⟩ = some (.slice ao 4 cap) := D2.cell 0
    clear D0 R0 bel0 hs0 b2 c1
    go_wp2_with fail
    go_at_call 182
    refine (c2 _ hs2).mono ?_
    rintro e w3 ⟨g, rs, rfl, hsame, G3, b3⟩
    have R3 := R2.keep b3 R2.lt
    have bel3 := belowCall bel2 b3
    have O4 := Blk.laid w3 [.slice (some ⟨g, 0, none⟩) 4 4] 24 _ rfl
    have R4 := R3.alc (.cells #[.slice (some ⟨g, 0, none⟩) 4 4] 24)
    have bel4 := belowNew bel3 (.cells #[.slice (some ⟨g, 0, none⟩) 4 4] 24)
    have G4 := G3.alloc (.cells #[.slice (some ⟨g, 0, none⟩) 4 4] 24)
    have hbox : w2.heap.size ≤ w3.heap.size := b3.size
    have hR2 := R2.lt
    clear b3 G3 bel3 c2 hs2 D2 d0 R2 R3
    go_wp2_with fail
    generalize w3.alloc _ = w4 at *
    generalize w3.heap.size = box at *
    have hd4 := hdo w4 w2.heap.size box g rs bel2.size bel4 ⟨O4, hbox, G4, hsame⟩
    have hb2 := bel2.size
    generalize w2.heap.size = base at *
    go_at_call 183
    refine hd4.mono ?_
    rintro e w5 ⟨rfl, b5, hfin⟩
    have R5 := R4.keep b5 hR2
    have bel5 : Below w.heap.size w w5 := bel4.trans (b5.mono hb2)
    have r0 : w5.cell? ⟨w.heap.size + 1, 0, none⟩ = some (.slice none 0 0) := R5.cell 0
    have r1 := R5.free 0
    by_cases hz : E = 0
    · obtain ⟨rs', F5, ⟨hl', hq'⟩, hL', O5⟩ := hfin hz
      replace hq' := hide hq'
      have o0 : w5.cell? ⟨box, 0, none⟩ = some (.slice (some ⟨g, 0, none⟩) 4 4) := O5.cell 0
      have grow : w5.grownBy (w5.setCell ⟨w.heap.size + 1, 0, none⟩ (.slice (some ⟨g, 0, none⟩) 4 4)) (some (w.heap.size + 1)) := grownSet (grownRefl w5 _) _ _
      have hlo := F5.lo
      have hgne : w.heap.size + 1 ≠ g := by omega
      have F6 := F5.offSl grow R5 (onlyOne _ _ _) hgne
      have s6 := F6.slr 4 hl' (by decide)
      have bel6 := bel5.setCell (p := ⟨w.heap.size + 1, 0, none⟩) (Nat.le_succ _) (.slice (some ⟨g, 0, none⟩) 4 4)
      subst hz
      replace s6 := hide s6
      replace hl' := hide hl'
      replace hL' := hide hL'
      clear F5 F6 O5 hfin grow G4 hdo hd4 hs O4 R4
      go_wp2_with fail
      exact bodyPost_ret (v := .tuple #[.agg #[.slice (some ⟨g, 0, none⟩) 4 4], .int .i64 0]) (by simp [results, Tryz.results147, go_sem, r0]) rfl ⟨rs', _, _, by rw [hl'.out], hL'.out, s6.out, ⟨(fun ad e => by cases e; exact Nat.le_trans hb2 hlo), hq'.out.mono hb2⟩, bel6⟩
    · have bel6 := bel5.setCell (p := ⟨w.heap.size + 1, 0, none⟩) (Nat.le_succ _) (.slice none 0 0)
      clear hfin G4 hdo hd4 hs O4 R4
      go_wp2_with fail
      exact bodyPost_ret (v := .tuple #[.agg #[.slice none 0 0], .int .i64 E]) (by simp [results, Tryz.results147, go_sem, r0]) rfl ⟨[], none, 0, rfl, rfl, SlR.ofNil _, ⟨(fun ad e => by cases e), HdLo.nil _⟩, bel6⟩
  · have e1 : chE (l.map Lr.rw) E = shelfE (l.map Lr.rw) := by unfold chE; rw [if_neg hE]
    have e2 : chL (l.map Lr.rw) E L = [] := by unfold chL; rw [e1, if_neg hE]
    rw [e1, e2]
    have hs0 := (hs.alloc (.cells #[.slice ao l.length cap] 24)).alloc (.cells #[.slice none 0 0] 24)
    clear hdo e1 e2
    generalize shelfE (l.map Lr.rw) = F at *
    generalize l.length = n at *
    have R0 := Blk.laid (w.alloc (.cells #[.slice ao n cap] 24)) [.slice none 0 0] 24 (w.heap.size + 1) (by simp)
    have bel0 := below2 w (.cells #[.slice ao n cap] 24) (.cells #[.slice none 0 0] 24)
    go_enter Tryz.func147, Tryz.ntmps147
    go_wp2_with fail
    generalize (w.alloc _).alloc _ = w1 at *
    go_at_call 77
    refine (c1 _ hs0).mono ?_
    rintro e w2 ⟨rfl, b2⟩
    have R2 := R0.keep b2 R0.lt
    have bel2 := belowCall bel0 b2
    have r0 : w2.cell? ⟨w.heap.size + 1, 0, none⟩ = some (.slice none 0 0) := R2.cell 0
    have r1 := R2.free 0
    have bel6 := bel2.setCell (p := ⟨w.heap.size + 1, 0, none⟩) (Nat.le_succ _) (.slice none 0 0)
    clear hs0 hs c1 R0 R2
    go_wp2_with fail
    exact bodyPost_ret (v := .tuple #[.agg #[.slice none 0 0], .int .i64 F]) (by simp [results, Tryz.results147, go_sem, r0]) rfl ⟨[], none, 0, rfl, rfl, SlR.ofNil _, ⟨(fun ad e => by cases e), HdLo.nil _⟩, bel6⟩

set_option maxHeartbeats 1000000 in
set_option maxRecDepth 100000 in
theorem changeD (c1 : Value) (E : Int) (L : List Rw) (l : List Lr) (ao : Option Addr) (cap : Nat) (w : World) (hs : SlR w ao cap l)
    (hdo : shelfE (l.map Lr.rw) = 0 → ∀ W base box g rs, w.heap.size ≤ base → Below w.heap.size w W → Copied (l.map Lr.rw) base box g rs W → Calls Tryz.prog 156 #[.pointer (some ⟨box, 0, none⟩), c1] W (Does E L base box g W)) :
    Calls Tryz.prog 147 #[.agg #[.slice ao l.length cap], .func (.func 156) #[] #[c1]] w fun e w' => ∃ rs a' G, e = .returned (.tuple #[.agg #[.slice a' rs.length G], .int .i64 (chE (l.map Lr.rw) E)]) ∧ rs.map Lr.rw = chL (l.map Lr.rw) E L ∧ SlR w' a' G rs ∧ ((∀ ad, a' = some ad → w.heap.size ≤ ad.block) ∧ HdLo w.heap.size rs) ∧ Below w.heap.size w w' := by
  have c1 := fun W h => sCheck_any l ao cap W h
  by_cases hE : shelfE (l.map Lr.rw) = 0
  · have e1 : chE (l.map Lr.rw) E = E := by unfold chE; rw [if_pos hE]
    have e2 : chL (l.map Lr.rw) E L = if E = 0 then L else [] := by unfold chL; rw [e1]
    rw [e1, e2]
    have hdo := hdo hE
    have hR := right_of hE
    have h4 := hR.four
    rw [List.length_map] at h4
    have c2 := fun W h => copyOf_any l ao cap W h h4 (fun r hr => by
      have := hR.few r.rw (List.mem_map.2 ⟨r, hr, rfl⟩)
      unfold Lr.rw at this
      simpa using this)
    rw [hE] at c1
    rw [h4] at c1 ⊢
    replace e2 := hide e2
    clear e1 hR h4 hE e2
    go_enter Tryz.func147, Tryz.ntmps147
    go_wp2_with fail
    have D0 := (Blk.laid w [.slice ao 4 cap] 24 _ rfl).alc (.cells #[.slice none 0 0] 24)
    have R0 := Blk.laid (w.alloc (.cells #[.slice ao 4 cap] 24)) [.slice none 0 0] 24 (w.heap.size + 1) (by simp)
    have bel0 := below2 w (.cells #[.slice ao 4 cap] 24) (.cells #[.slice none 0 0] 24)
    have hs0 := (hs.alloc (.cells #[.slice ao 4 cap] 24)).alloc (.cells #[.slice none 0 0] 24)
    generalize (w.alloc _).alloc _ = w1 at *
    go_at_call 77
    refine (c1 _ hs0).mono ?_
    rintro e w2 ⟨rfl, b2⟩
    have D2 := D0.keep b2 D0.lt
    have R2 := R0.keep b2 R0.lt
    have bel2 := belowCall bel0 b2
    have hs2 := hs0.call b2
    have d0 : w2.cell? ⟨w.heap.size, 0, none⟩ = some (.slice ao 4 cap) := D2.cell 0
    clear D0 R0 bel0 hs0 b2 c1
    go_wp2_with fail
    go_at_call 182
    refine (c2 _ hs2).mono ?_
    rintro e w3 ⟨g, rs, rfl, hsame, G3, b3⟩
    have R3 := R2.keep b3 R2.lt
    have bel3 := belowCall bel2 b3
    have O4 := Blk.laid w3 [.slice (some ⟨g, 0, none⟩) 4 4] 24 _ rfl
    have R4 := R3.alc (.cells #[.slice (some ⟨g, 0, none⟩) 4 4] 24)
    have bel4 := belowNew bel3 (.cells #[.slice (some ⟨g, 0, none⟩) 4 4] 24)
    have G4 := G3.alloc (.cells #[.slice (some ⟨g, 0, none⟩) 4 4] 24)
    have hbox : w2.heap.size ≤ w3.heap.size := b3.size
    have hR2 := R2.lt
    clear b3 G3 bel3 c2 hs2 D2 d0 R2 R3
    go_wp2_with fail
    generalize w3.alloc _ = w4 at *
    generalize w3.heap.size = box at *
    have hd4 := hdo w4 w2.heap.size box g rs bel2.size bel4 ⟨O4, hbox, G4, hsame⟩
    have hb2 := bel2.size
    generalize w2.heap.size = base at *
    go_at_call 156
    refine hd4.mono ?_
    rintro e w5 ⟨rfl, b5, hfin⟩
    have R5 := R4.keep b5 hR2
    have bel5 : Below w.heap.size w w5 := bel4.trans (b5.mono hb2)
    have r0 : w5.cell? ⟨w.heap.size + 1, 0, none⟩ = some (.slice none 0 0) := R5.cell 0
    have r1 := R5.free 0
    by_cases hz : E = 0
    · obtain ⟨rs', F5, ⟨hl', hq'⟩, hL', O5⟩ := hfin hz
      replace hq' := hide hq'
      have o0 : w5.cell? ⟨box, 0, none⟩ = some (.slice (some ⟨g, 0, none⟩) 4 4) := O5.cell 0
      have grow : w5.grownBy (w5.setCell ⟨w.heap.size + 1, 0, none⟩ (.slice (some ⟨g, 0, none⟩) 4 4)) (some (w.heap.size + 1)) := grownSet (grownRefl w5 _) _ _
      have hlo := F5.lo
      have hgne : w.heap.size + 1 ≠ g := by omega
      have F6 := F5.offSl grow R5 (onlyOne _ _ _) hgne
      have s6 := F6.slr 4 hl' (by decide)
      have bel6 := bel5.setCell (p := ⟨w.heap.size + 1, 0, none⟩) (Nat.le_succ _) (.slice (some ⟨g, 0, none⟩) 4 4)
      subst hz
      replace s6 := hide s6
      replace hl' := hide hl'
      replace hL' := hide hL'
      clear F5 F6 O5 hfin grow G4 hdo hd4 hs O4 R4
      go_wp2_with fail
      exact bodyPost_ret (v := .tuple #[.agg #[.slice (some ⟨g, 0, none⟩) 4 4], .int .i64 0]) (by simp [results, Tryz.results147, go_sem, r0]) rfl ⟨rs', _, _, by rw [hl'.out], hL'.out, s6.out, ⟨(fun ad e => by cases e; exact Nat.le_trans hb2 hlo), hq'.out.mono hb2⟩, bel6⟩
    · have bel6 := bel5.setCell (p := ⟨w.heap.size + 1, 0, none⟩) (Nat.le_succ _) (.slice none 0 0)
      clear hfin G4 hdo hd4 hs O4 R4
      go_wp2_with fail
      exact bodyPost_ret (v := .tuple #[.agg #[.slice none 0 0], .int .i64 E]) (by simp [results, Tryz.results147, go_sem, r0]) rfl ⟨[], none, 0, rfl, rfl, SlR.ofNil _, ⟨(fun ad e => by cases e), HdLo.nil _⟩, bel6⟩
  · have e1 : chE (l.map Lr.rw) E = shelfE (l.map Lr.rw) := by unfold chE; rw [if_neg hE]
    have e2 : chL (l.map Lr.rw) E L = [] := by unfold chL; rw [e1, if_neg hE]
    rw [e1, e2]
    have hs0 := (hs.alloc (.cells #[.slice ao l.length cap] 24)).alloc (.cells #[.slice none 0 0] 24)
    clear hdo e1 e2
    generalize shelfE (l.map Lr.rw) = F at *
    generalize l.length = n at *
    have R0 := Blk.laid (w.alloc (.cells #[.slice ao n cap] 24)) [.slice none 0 0] 24 (w.heap.size + 1) (by simp)
    have bel0 := below2 w (.cells #[.slice ao n cap] 24) (.cells #[.slice none 0 0] 24)
    go_enter Tryz.func147, Tryz.ntmps147
    go_wp2_with fail
    generalize (w.alloc _).alloc _ = w1 at *
    go_at_call 77
    refine (c1 _ hs0).mono ?_
    rintro e w2 ⟨rfl, b2⟩
    have R2 := R0.keep b2 R0.lt
    have bel2 := belowCall bel0 b2
    have r0 : w2.cell? ⟨w.heap.size + 1, 0, none⟩ = some (.slice none 0 0) := R2.cell 0
    have r1 := R2.free 0
    have bel6 := bel2.setCell (p := ⟨w.heap.size + 1, 0, none⟩) (Nat.le_succ _) (.slice none 0 0)
    clear hs0 hs c1 R0 R2
    go_wp2_with fail
    exact bodyPost_ret (v := .tuple #[.agg #[.slice none 0 0], .int .i64 F]) (by simp [results, Tryz.results147, go_sem, r0]) rfl ⟨[], none, 0, rfl, rfl, SlR.ofNil _, ⟨(fun ad e => by cases e), HdLo.nil _⟩, bel6⟩

end Go.Proofs.YtcjdpilmhlfmfaaGreatDoor
