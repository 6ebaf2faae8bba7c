/-
  shelf.putOne: one entry is put into a copy of a shelf.
-/
import Derived.Deep.RegionLaw
import Derived.Deep.AppendLies
import Derived.Test.YtcjdpilmhlfmfaaGreatDoorP20
import Derived.Test.YtcjdpilmhlfmfaaGreatDoorP11
import Derived.Test.YtcjdpilmhlfmfaaGreatDoorP19
namespace Go.Proofs.YtcjdpilmhlfmfaaGreatDoor
open Go.RowKit

theorem cpE_row (r : Rw) (h : r.blocks.length ≤ 8) : cpE r = rowE r := by
  unfold rowE
  rw [if_neg (by omega)]
  rfl

set_option maxHeartbeats 400000 in
set_option maxRecDepth 100000 in
theorem putOne_no (s t v : Int) (box : Nat) (W : World) (hi : inI s 0 3 = false) :
    Calls Tryz.prog 149 #[.pointer (some ⟨box, 0, none⟩), .agg #[.int .i64 s, .int .i64 t, .int .i64 v]] W fun e W' => e = .returned (.int .i64 5) ∧ Below W.heap.size W W' := by
  have c2 := fun W => isSeries_any s W
  rw [hi] at c2
  clear hi
  go_enter Tryz.func149, Tryz.ntmps149
  go_wp2_with fail
  go_at_call 78
  refine (c2 _).mono ?_
  rintro e w3 ⟨rfl, rfl⟩
  go_wp2_with fail
  go_ret
  exact ⟨rfl, (Below.refl _ _).alloc (Nat.le_refl _) _⟩

set_option maxHeartbeats 4000000 in
set_option maxRecDepth 100000 in
theorem putOne_yes (l : List Rw) (k : Nat) (t v : Int) (base box g : Nat) (rs : List Lr) (W : World) (hk : k < 4) (hR : Right l) (C : Copied l base box g rs W) :
    Calls Tryz.prog 149 #[.pointer (some ⟨box, 0, none⟩), .agg #[.int .i64 k, .int .i64 t, .int .i64 v]] W fun e W' =>
      e = .returned (.int .i64 (rowE ⟨(l.getD k rw0).blocks, (l.getD k rw0).head ++ [(t, v)]⟩)) ∧ Below base W W' ∧ ∃ rs', Copied (l.set k ⟨(l.getD k rw0).blocks, (l.getD k rw0).head ++ [(t, v)]⟩) base box g rs' W' := by
  have c2 := fun W => isSeries_any k W
  rw [show inI (k : Int) 0 3 = true by unfold inI; simp; omega] at c2
  obtain ⟨r, hr, hrw, -, -, oR, f1, f2⟩ := C.row hR k hk
  rw [← hrw]
  obtain ⟨hg, eh, -⟩ := oR.hd
  have C1 := C.alloc (.cells #[.int .i64 k, .int .i64 t, .int .i64 v] 68)
  have X1 := Blk.laid W [.int .i64 k, .int .i64 t, .int .i64 v] 68 _ rfl
  have bel1 : Below W.heap.size W (W.alloc (.cells #[.int .i64 k, .int .i64 t, .int .i64 v] 68)) := (Below.refl _ _).alloc (Nat.le_refl _) _
  have hbase := C.base
  have hsz : W.heap.size < (W.alloc (.cells #[.int .i64 k, .int .i64 t, .int .i64 v] 68)).heap.size := X1.lt
  go_enter Tryz.func149, Tryz.ntmps149
  go_wp2_with fail
  generalize W.alloc _ = w1 at *
  go_at_call 78
  refine (c2 _).mono ?_
  rintro e w3 ⟨rfl, rfl⟩
  rename World => w1
  have d0 : w1.cell? ⟨box, 0, none⟩ = some (.slice (some ⟨g, 0, none⟩) 4 4) := C1.out.cell 0
  have x0 : w1.cell? ⟨W.heap.size, 0, none⟩ = some (.int .i64 k) := X1.cell 0
  clear c2 C oR
  replace C1 := hide C1
  replace hrw := hide hrw
  replace hr := hide hr
  replace hR := hide hR
  go_wp2_with fail
  go_quiet (fail)
  have C2 := C1.out.call (belowDrewN (Below.refl w1.heap.size w1) nq)
  have X2 : Blk (w1.drewN nq) W.heap.size [.int .i64 k, .int .i64 t, .int .i64 v] 68 := X1
  have bel2 := belowDrewN bel1 nq
  have hsz2 : W.heap.size < (w1.drewN nq).heap.size := hsz
  clear d0 x0 C1 X1 bel1 hsz
  generalize w1.drewN nq = w2 at *
  obtain ⟨-, e1⟩ := C2.own.at k r hr.out
  rw [eh] at e1
  have x1 : w2.cell? ⟨W.heap.size, 1, none⟩ = some (.int .i64 t) := X2.cell 1
  have x2 : w2.cell? ⟨W.heap.size, 2, none⟩ = some (.int .i64 v) := X2.cell 2
  have fg := C2.own.rows.free (k * 2 + 1)
  have hgl := C2.own.rows.lt
  obtain ⟨hg', eh', own0⟩ := (C2.own.each r (List.mem_of_getElem? hr.out)).hd
  obtain rfl : hg' = hg := by rw [eh] at eh'; simpa using eh'.symm
  obtain ⟨m, hm⟩ : ∃ m, m = r.hd.length := ⟨_, rfl⟩
  rw [← hm] at e1 own0 f2
  have ownA : (w2.drew.alloc (.cells #[.int .i64 t, .int .i64 v] 50)).ownsRow base 50 2 (.slice (some ⟨hg', 0, none⟩) m r.hc) m (cellsP r.hd) := World.ownsRow.alloc (w := w2.drew) own0 _
  have hone : ∀ u ∈ [Value.int .i64 t, .int .i64 v], u.oneCell' = true := by
    intro u hu
    simp only [List.mem_cons, List.not_mem_nil, or_false] at hu
    rcases hu with rfl | rfl <;> rfl
  obtain ⟨i0, hi, hz0, hz1, hz2⟩ := info_parts infoPoint
  have hb2 : base ≤ (w2.drew.alloc (.cells #[.int .i64 t, .int .i64 v] 50)).heap.size := by have := C2.base; simp; omega
  have C3 := C2.drew.alloc (.cells #[.int .i64 t, .int .i64 v] 50)
  have hgg : ∀ j, some hg' = some j → j ≠ g := by
    obtain ⟨cur, B, _⟩ := ownBlk own0
    intro j e
    obtain rfl := Option.some.inj e
    rintro rfl
    exact absurd (blkType B C2.own.rows) (by decide)
  have bel3 := belowNew (belowDrew bel2) (.cells #[.int .i64 t, .int .i64 v] 50)
  replace hgg := hide hgg
  replace C3 := hide C3
  replace ownA := hide ownA
  replace C2 := hide C2
  replace hm := hide hm
  replace eh := hide eh
  clear own0 eh'
  go_wp2_with fail
  go_region_law (refine step_append_lies _ (by rfl) (.tmp 21) (.tmp 27) 34 (by rfl) base 50 i0 (.agg #[.int .i64 0, .int .i64 0]) 2 16 Tryz.underlying34 hi hz0 hz1 hz2 rfl (by decide) _ m _ (by rfl) ownA.out ⟨w2.heap.size, 0, none⟩ 1 1 [.int .i64 t, .int .i64 v] (by rfl) (by rfl) (World.news_of_block (cs := #[.int .i64 t, .int .i64 v]) (t := 50) (fr := (0, 0)) (heap_alloc_new w2.drew _)) hone (by decide) (by unfold maxLen; omega) (by omega) hb2 (w2.heap.size + 1) (by simp) ?_; intro h2 c2 w5 own5 grow5 went5 _; have G5 := C3.out.own.rows.grown (row := some hg') grow5 hgg.out; have e5 : w5.cell? ⟨g, k * 2 + 1, none⟩ = some (.slice (some ⟨hg', 0, none⟩) m r.hc) := by {rw [G5.cell, ← C2.out.own.rows.cell]; exact e1}; have f5 := G5.free (k * 2 + 1))
  all_goals (
    obtain ⟨C6, bel6⟩ := C3.out.put (p := (t, v)) hr.out hm.out eh.out grow5 own5 (by rcases went5 with h | h; exact .inl (Option.some.inj h).symm; exact .inr (by rw [h]; simp))
    have bel7 : Below base W _ := (bel3.mono hbase).trans bel6
    clear e1 x1 x2 fg hgl ownA hone hb2 C3 C2 hgg bel3 bel2 own5 grow5 went5 G5 e5 f5 bel6 X2 hsz2
    generalize World.setCell _ _ _ = w6 at *
    have hr6 : (rs.set k ⟨r.bs, r.ba, r.bc, r.hd ++ [(t, v)], some ⟨h2, 0, none⟩, c2⟩)[k]? = some ⟨r.bs, r.ba, r.bc, r.hd ++ [(t, v)], some ⟨h2, 0, none⟩, c2⟩ := by
      rw [List.getElem?_set_self (List.getElem?_eq_some_iff.1 hr.out).1]
    have oR6 := C6.own.each _ (List.mem_of_getElem? hr6)
    obtain ⟨y0, y1⟩ := C6.own.at k _ hr6
    have lenE : (r.hd ++ [(t, v)]).length = m + 1 := by rw [List.length_append, ← hm.out]; rfl
    have g6 := oR6.toGood (by show r.bs.length ≤ _; omega) (by show (r.hd ++ [(t, v)]).length ≤ _; omega)
    have c3 := fun W h => checkPoints_any ⟨r.bs, r.ba, r.bc, r.hd ++ [(t, v)], some ⟨h2, 0, none⟩, c2⟩ W h f1
    have hE : cpE (Lr.rw ⟨r.bs, r.ba, r.bc, r.hd ++ [(t, v)], some ⟨h2, 0, none⟩, c2⟩) = rowE ⟨r.rw.blocks, r.rw.head ++ [(t, v)]⟩ := by
      exact cpE_row _ (by simpa [Lr.rw] using f1)
    rw [hE] at c3
    unfold Lr.v at c3
    simp only [lenE] at c3 y0 y1
    replace g6 := hide g6
    replace C6 := hide C6
    replace hr6 := hide hr6
    clear oR6 hE lenE
    go_wp2_with fail
    go_at_call 159
    refine (c3 _ g6.out).mono ?_
    rintro e w7 ⟨rfl, b7⟩
    have bel8 := bel7.trans (b7.mono C6.out.base)
    have C8 := C6.out.call b7
    go_wp2_with fail
    go_ret
    exact ⟨rfl, bel8, _, C8⟩)

end Go.Proofs.YtcjdpilmhlfmfaaGreatDoor
