/-
  shelf.Merge: what it answers of a shelf, whatever it is.
-/
import Derived.Deep.RegionHeld3
import Derived.Test.YtnpikbpngohimaaHSMerge
import Derived.Test.YtnpikbpngohimaaHSDelF
import Derived.Test.YtnpikbpngohimaaP22
import Derived.Test.YtnpikbpngohimaaP06
import Derived.Test.YtnpikbpngohimaaHChange
import Derived.Test.YtnpikbpngohimaaP13
import Derived.Test.YtnpikbpngohimaaHSSame
import Derived.Test.YtnpikbpngohimaaP20
import Derived.Test.YtnpikbpngohimaaHQRange
import Derived.Test.YtnpikbpngohimaaP04
namespace Go.Proofs.Ytnpikbpngohimaa
open Go.RowKit

theorem merge1_any (n : Int) (cb : Nat) (l : List Rw) (hE : shelfE l = 0) (base box g k : Nat) (rs : List Lr) (W : World) (hk : k < 4) (Bc : Blk W cb [.int .i64 n] 3) (C : Copied l base box g rs W) :
    Calls Try.prog 49 #[.pointer (some ⟨g, k * 2, none⟩), .pointer (some ⟨cb, 0, none⟩)] W (Does (mrgE l k n) (mrgL l k n) base box g W) := by
  have hR := right_of hE
  obtain ⟨r, hr, hrw, e0, e1, oR, f1, f2⟩ := C.row hR k hk
  have d0 : W.cell? ⟨cb, 0, none⟩ = some (.int .i64 n) := Bc.cell 0
  have hi : inI (k : Int) 0 3 = true := by unfold inI; simp; omega
  have hbk : (l.getD k rw0).blocks = r.bs.map Lb.b := by rw [← hrw]; rfl
  have hhd : (l.getD k rw0).head = r.hd := by rw [← hrw]; rfl
  cases hn : inI n 0 ((r.bs.length : Int) - 2) with
  | false =>
    have e : mrgE l k n = 3 := by unfold mrgE; rw [hi, Int.toNat_natCast, hbk, List.length_map, hn]; rfl
    rw [e]
    refine (merge1_range n cb g k r.bs.length r.bc r.ba W d0 e0 f1 hn).mono ?_
    rintro e W' ⟨rfl, q, rfl⟩
    exact ⟨rfl, belowDrewN (Below.refl _ _) _, fun h => by cases h⟩
  | true =>
    have hn2 : 0 ≤ n ∧ n ≤ (r.bs.length : Int) - 2 := by unfold inI at hn; simpa using hn
    obtain ⟨q, rfl⟩ : ∃ q : Nat, n = q := ⟨n.toNat, by omega⟩
    obtain ⟨x, hx⟩ : ∃ x, r.bs[q]? = some x := ⟨_, List.getElem?_eq_getElem (by omega)⟩
    obtain ⟨y, hy⟩ : ∃ y, r.bs[q + 1]? = some y := ⟨_, List.getElem?_eq_getElem (by omega)⟩
    have bx : blkAt (l.getD k rw0) q = x.b := by unfold blkAt; rw [hbk]; simp [List.getD, hx]
    have b_y : blkAt (l.getD k rw0) (q + 1) = y.b := by unfold blkAt; rw [hbk]; simp [List.getD, hy]
    have e : mrgE l k q = mergeE x.b y.b := by unfold mrgE; rw [hi, Int.toNat_natCast, Int.toNat_natCast, hbk, List.length_map, hn, bx, b_y]; rfl
    refine (merge1_go q cb l base box g k (r.bs.length - 1) rs r x y W hR C hr Bc (by omega) (by omega) (by omega) hx hy).mono ?_
    rintro e' W' ⟨rfl, b, hf⟩
    refine ⟨by rw [e], b, fun hz => ?_⟩
    obtain ⟨rs', p1, p2, p3, p4⟩ := hf (by rw [← e]; exact hz)
    refine ⟨rs', p1, p2, ?_, p4⟩
    unfold mrgL
    rw [if_pos hz, p3, Int.toNat_natCast, Int.toNat_natCast, bx, b_y, hbk, hhd, List.map_take, List.map_drop]

set_option maxHeartbeats 1000000 in
set_option maxRecDepth 100000 in
/-- Merge, whatever it is handed. -/
theorem sMerge_any (l : List Lr) (ao : Option Addr) (cap : Nat) (s n : Int) (w : World) (hs : SlR w ao cap l) :
    Calls Try.prog 13 #[.agg #[.slice ao l.length cap], .int .i64 s, .int .i64 n] w fun e w' => ∃ rs a' G, e = .returned (.tuple #[.agg #[.slice a' rs.length G], .int .i64 (chE (l.map Lr.rw) (mrgE (l.map Lr.rw) s n))]) ∧ rs.map Lr.rw = chL (l.map Lr.rw) (mrgE (l.map Lr.rw) s n) (mrgL (l.map Lr.rw) s n) ∧ SlR w' a' G rs ∧ Below w.heap.size w w' := by
  have B1 := (Blk.laid (w.alloc (.cells #[.slice ao l.length cap] 24)) [.int .i64 n] 3 (w.heap.size + 1) (by simp)).alc (.cells #[.slice none 0 0] 24)
  have R1 := Blk.laid ((w.alloc (.cells #[.slice ao l.length cap] 24)).alloc (.cells #[.int .i64 n] 3)) [.slice none 0 0] 24 (w.heap.size + 2) (by simp)
  have bel1 := below3 w (.cells #[.slice ao l.length cap] 24) (.cells #[.int .i64 n] 3) (.cells #[.slice none 0 0] 24)
  have s1 := hs.keep bel1 (Nat.le_refl _)
  have c := fun W (S : SlR W ao cap l) (B : Blk W (w.heap.size + 1) [.int .i64 n] 3) => changeRowM (.pointer (some ⟨w.heap.size + 1, 0, none⟩)) s (mrgE (l.map Lr.rw) s n) (mrgL (l.map Lr.rw) s n) l ao cap W S
    (fun h => by unfold mrgE; rw [if_pos h])
    (fun hE W2 base box g rs hb b2 C k hk hk4 => by
      subst hk
      exact merge1_any n (w.heap.size + 1) (l.map Lr.rw) hE base box g k rs W2 hk4 (B.keep b2 B.lt) C)
  generalize chL (l.map Lr.rw) (mrgE (l.map Lr.rw) s n) (mrgL (l.map Lr.rw) s n) = X at *
  generalize chE (l.map Lr.rw) (mrgE (l.map Lr.rw) s n) = E at *
  generalize l.length = m at *
  go_enter Try.func13, Try.ntmps13
  go_wp2_with fail
  generalize ((w.alloc _).alloc _).alloc _ = w1 at *
  go_at_call 46
  refine (c _ s1 B1).mono ?_
  rintro e w2 ⟨rs, a', G, rfl, hX, s2, fr, b2⟩
  have R2 := R1.keep b2 R1.lt
  have bel2 := belowCall bel1 b2
  have r0 : w2.cell? ⟨w.heap.size + 2, 0, none⟩ = some (.slice none 0 0) := R2.cell 0
  have r1 := R2.free 0
  have s3 := s2.written (onlyOne none 0 0) R2 (i := 0) (u := .slice a' rs.length G) (fun ad e => by have := fr ad e; have := R1.lt; omega)
  have bel3 := bel2.setCell (p := ⟨w.heap.size + 2, 0, none⟩) (by show w.heap.size ≤ w.heap.size + 2; omega) (.slice a' rs.length G)
  replace s3 := hide s3
  replace hX := hide hX
  clear s2 R1 R2 s1 B1 c hs
  go_wp2_with fail
  exact bodyPost_ret (v := .tuple #[.agg #[.slice a' rs.length G], .int .i64 E]) (by simp [results, Try.results13, go_sem, r0]) rfl ⟨rs, a', G, rfl, hX.out, s3.out, bel3⟩

end Go.Proofs.Ytnpikbpngohimaa

/-
  shelf.Drop: what it answers of a shelf, whatever it is.
-/
namespace Go.Proofs.Ytnpikbpngohimaa
open Go.RowKit

set_option maxHeartbeats 1000000 in
set_option maxRecDepth 100000 in
theorem drop1_range (n : Int) (cb box : Nat) (W : World) (d0 : W.cell? ⟨cb, 0, none⟩ = some (.int .i64 n)) (h : inI n 0 100001 = false) :
    Calls Try.prog 52 #[.pointer (some ⟨box, 0, none⟩), .pointer (some ⟨cb, 0, none⟩)] W fun e W' => e = .returned (.int .i64 3) ∧ W' = W := by
  by_cases h0 : n < 0
  · clear h
    go_enter Try.func52, Try.ntmps52
    go_wp2_with fail
    go_ret
    exact ⟨rfl, rfl⟩
  · have h1 : 100001 < n := by unfold inI at h; simp at h; omega
    clear h
    go_enter Try.func52, Try.ntmps52
    go_wp2_with fail
    go_ret
    exact ⟨rfl, rfl⟩

theorem keptB_rw (n : Int) (l : List Lb) : (keptB n l).map Lb.b = (l.map Lb.b).filter (fun b => !decide (b.to < n)) := by
  unfold keptB overB
  rw [List.filter_map]
  rfl

theorem drop_step {n : Int} {l : List Rw} {rs : List Lr} {r y : Lr} {i : Nat} (h : rs.map Lr.rw = (l.take i).map (dropRw n) ++ l.drop i) (hl : rs.length = l.length) (hr : rs[i]? = some r) (hy : y.rw = dropRw n r.rw) :
    (rs.set i y).map Lr.rw = (l.take (i + 1)).map (dropRw n) ++ l.drop (i + 1) := by
  have hi : i < l.length := by rw [← hl]; exact (List.getElem?_eq_some_iff.1 hr).1
  have e : (rs.map Lr.rw)[i]? = some r.rw := by rw [List.getElem?_map, hr]; rfl
  have lt : ((l.take i).map (dropRw n)).length = i := by rw [List.length_map, List.length_take]; omega
  rw [h, List.getElem?_append_right (by omega), lt, Nat.sub_self, List.getElem?_drop, Nat.add_zero] at e
  have hd : l.drop i = r.rw :: l.drop (i + 1) := by
    obtain ⟨hk', e'⟩ := List.getElem?_eq_some_iff.1 e
    rw [← e']
    exact List.drop_eq_getElem_cons hk'
  rw [List.map_set, h, List.set_append_right _ _ (by omega), lt, Nat.sub_self, hd, List.set_cons_zero, hy, List.take_add_one, e, List.map_append, List.append_assoc]
  rfl

set_option maxHeartbeats 2000000 in
set_option maxRecDepth 100000 in
theorem drop1_ok (n : Int) (cb : Nat) (l : List Rw) (base box g : Nat) (rs : List Lr) (W : World) (hR : Right l) (Bc : Blk W cb [.int .i64 n] 3) (hcb : cb < base) (C : Copied l base box g rs W) (h : inI n 0 100001 = true) :
    Calls Try.prog 52 #[.pointer (some ⟨box, 0, none⟩), .pointer (some ⟨cb, 0, none⟩)] W (Does 0 (l.map (dropRw n)) base box g W) := by
  have d0 : W.cell? ⟨cb, 0, none⟩ = some (.int .i64 n) := Bc.cell 0
  have h0 : ¬ n < 0 := by unfold inI at h; simp at h; omega
  have h1 : ¬ 100001 < n := by unfold inI at h; simp at h; omega
  have d1 : W.cell? ⟨box, 0, none⟩ = some (.slice (some ⟨g, 0, none⟩) 4 4) := C.out.cell 0
  have S0 := CutS.start C hR
  have l4 : rs.length = l.length := by rw [← C.same, List.length_map]
  have hl := hR.four
  have m0 : rs.map Lr.rw = (l.take 0).map (dropRw n) ++ l.drop 0 := by rw [C.same]; simp
  have b0 := Below.refl base W
  have hbase := C.base
  replace S0 := hide S0
  replace l4 := hide l4
  replace hl := hide hl
  replace m0 := hide m0
  clear h C hR
  go_enter Try.func52, Try.ntmps52
  go_wp2_with fail
  go_loopw [19] (fun s wr => ∃ (i : Nat) (rs' : List Lr), i ≤ 4 ∧ s = .int .i64 i ∧ Hid (rs'.length = l.length) ∧ Hid (rs'.map Lr.rw = (l.take i).map (dropRw n) ++ l.drop i) ∧ Hid (CutS base box g i rs' wr) ∧ Below base W wr) (fun s _ => 4 - (intOf s).toNat)
  case atStart => exact ⟨0, rs, by omega, rfl, l4, m0, S0, b0⟩
  case round =>
    clear S0 l4 m0 b0 d0 d1
    obtain ⟨i, rs', hi, rfl, l4, m0, S0, b0⟩ := hrel
    by_cases hlt : i < 4
    · obtain ⟨r, hr⟩ : ∃ r, rs'[i]? = some r := ⟨_, List.getElem?_eq_getElem (by rw [l4.out, hl.out]; exact hlt)⟩
      obtain ⟨-, f1, f2, ho⟩ := S0.out.each i r hr
      have oR := ho (Nat.le_refl _)
      obtain ⟨bg, eb, lo, B⟩ := oR.bs
      have Bc1 := Bc.keep b0 hcb
      have d1 : wr.cell? ⟨box, 0, none⟩ = some (.slice (some ⟨g, 0, none⟩) 4 4) := S0.out.out.cell 0
      obtain ⟨m, hm⟩ : ∃ m, m = r.bs.length := ⟨_, rfl⟩
      have e0 : wr.cell? ⟨g, i * 2, none⟩ = some (.slice (some ⟨bg, 0, none⟩) m m) := by
        rw [S0.out.rows.cell]
        refine (flat_get Lr.two _ i 0 _ hr (by decide)).trans ?_
        show some (Value.slice r.ba r.bs.length r.bc) = _
        rw [eb, oR.bc, ← hm]
      have c := fun W B Bc => deleteF r.bs n bg cb m W B Bc hm.symm (by rw [hm, ← oR.bc]; exact f1)
      have neg : ∀ j, some bg = some j → j ≠ g := by
        intro j e
        obtain rfl := Option.some.inj e
        rintro rfl
        exact absurd (blkType B S0.out.rows) (by decide)
      have sub : ∀ x ∈ keptB n r.bs, x ∈ r.bs := fun x hx => (List.mem_filter.1 hx).1
      have kr : (⟨keptB n r.bs, some ⟨bg, 0, none⟩, m, r.hd, r.ha, r.hc⟩ : Lr).rw = dropRw n r.rw := by unfold Lr.rw dropRw; simp only [keptB_rw]
      generalize keptB n r.bs = kept at *
      have hb1 := S0.out.base
      replace hr := hide hr
      replace hm := hide hm
      replace eb := hide eb
      replace neg := hide neg
      replace sub := hide sub
      replace kr := hide kr
      clear oR ho
      go_wp2_with fail
      go_at_call 54
      refine (c _ B Bc1).mono ?_
      rintro e w2 ⟨tail, rfl, hlen, B2, grow2⟩
      have G2 := S0.out.rows.grown grow2 neg.out
      have e2 : w2.cell? ⟨g, i * 2, none⟩ = some (.slice (some ⟨bg, 0, none⟩) m m) := by rw [G2.cell, ← S0.out.rows.cell]; exact e0
      have fz := G2.free (i * 2)
      obtain ⟨S3, b3⟩ := S0.out.step hr.out eb.out hm.out grow2 B2 hlen sub.out
      have m3 := hide (drop_step m0.out l4.out hr.out kr.out)
      have b4 := b0.trans b3
      replace S3 := hide S3
      replace hlen := hide hlen
      clear B B2 grow2 c Bc1 G2 b3 d1 e0
      go_wp2_with fail
      go_roundw
      case rel => exact ⟨i + 1, _, by omega, by go_num, hide (by rw [List.length_set]; exact l4.out), m3, S3, b4⟩
      case measure => simp [intOf]; omega
    · obtain rfl : i = 4 := by omega
      have m1 := m0.out
      rw [List.take_of_length_le (by rw [hl.out]; exact Nat.le_refl _), List.drop_eq_nil_of_le (by rw [hl.out]; exact Nat.le_refl _), List.append_nil] at m1
      have F := hide S0.out.fin
      have O := S0.out.out
      replace m1 := hide m1
      clear S0
      go_wp2_with fail
      go_ret
      exact ⟨rfl, b0, fun _ => ⟨rs', F.out, by rw [l4.out, hl.out], m1.out, O⟩⟩

theorem drop1_any (n : Int) (cb : Nat) (l : List Rw) (base box g : Nat) (rs : List Lr) (W : World) (hR : Right l) (Bc : Blk W cb [.int .i64 n] 3) (hcb : cb < base) (C : Copied l base box g rs W) :
    Calls Try.prog 52 #[.pointer (some ⟨box, 0, none⟩), .pointer (some ⟨cb, 0, none⟩)] W (Does (dropE n) (dropL l n) base box g W) := by
  cases h : inI n 0 100001 with
  | false =>
    have e : dropE n = 3 := by unfold dropE; rw [if_pos h]
    rw [e]
    refine (drop1_range n cb box W (Bc.cell 0) h).mono ?_
    rintro e W' ⟨rfl, rfl⟩
    exact ⟨rfl, Below.refl _ _, fun h => by cases h⟩
  | true =>
    have e : dropE n = 0 := by unfold dropE; rw [h]; rfl
    have e2 : dropL l n = l.map (dropRw n) := by unfold dropL; rw [if_pos e]
    rw [e, e2]
    exact drop1_ok n cb l base box g rs W hR Bc hcb C h

set_option maxHeartbeats 1000000 in
set_option maxRecDepth 100000 in
/-- Drop, whatever it is handed. -/
theorem sDrop_any (l : List Lr) (ao : Option Addr) (cap : Nat) (n : Int) (w : World) (hs : SlR w ao cap l) :
    Calls Try.prog 14 #[.agg #[.slice ao l.length cap], .int .i64 n] w fun e w' => ∃ rs a' G, e = .returned (.tuple #[.agg #[.slice a' rs.length G], .int .i64 (chE (l.map Lr.rw) (dropE n))]) ∧ rs.map Lr.rw = chL (l.map Lr.rw) (dropE n) (dropL (l.map Lr.rw) n) ∧ SlR w' a' G rs ∧ Below w.heap.size w w' := by
  have B1 := (Blk.laid (w.alloc (.cells #[.slice ao l.length cap] 24)) [.int .i64 n] 3 (w.heap.size + 1) (by simp)).alc (.cells #[.slice none 0 0] 24)
  have R1 := Blk.laid ((w.alloc (.cells #[.slice ao l.length cap] 24)).alloc (.cells #[.int .i64 n] 3)) [.slice none 0 0] 24 (w.heap.size + 2) (by simp)
  have bel1 := below3 w (.cells #[.slice ao l.length cap] 24) (.cells #[.int .i64 n] 3) (.cells #[.slice none 0 0] 24)
  have s1 := hs.keep bel1 (Nat.le_refl _)
  have c := fun W (S : SlR W ao cap l) (B : Blk W (w.heap.size + 1) [.int .i64 n] 3) => changeD (.pointer (some ⟨w.heap.size + 1, 0, none⟩)) (dropE n) (dropL (l.map Lr.rw) n) l ao cap W S
    (fun hE W2 base box g rs hb b2 C => drop1_any n (w.heap.size + 1) (l.map Lr.rw) base box g rs W2 (right_of hE) (B.keep b2 B.lt) (Nat.lt_of_lt_of_le B.lt hb) C)
  generalize chL (l.map Lr.rw) (dropE n) (dropL (l.map Lr.rw) n) = X at *
  generalize chE (l.map Lr.rw) (dropE n) = E at *
  generalize l.length = m at *
  go_enter Try.func14, Try.ntmps14
  go_wp2_with fail
  generalize ((w.alloc _).alloc _).alloc _ = w1 at *
  go_at_call 43
  refine (c _ s1 B1).mono ?_
  rintro e w2 ⟨rs, a', G, rfl, hX, s2, fr, b2⟩
  have R2 := R1.keep b2 R1.lt
  have bel2 := belowCall bel1 b2
  have r0 : w2.cell? ⟨w.heap.size + 2, 0, none⟩ = some (.slice none 0 0) := R2.cell 0
  have r1 := R2.free 0
  have s3 := s2.written (onlyOne none 0 0) R2 (i := 0) (u := .slice a' rs.length G) (fun ad e => by have := fr ad e; have := R1.lt; omega)
  have bel3 := bel2.setCell (p := ⟨w.heap.size + 2, 0, none⟩) (by show w.heap.size ≤ w.heap.size + 2; omega) (.slice a' rs.length G)
  replace s3 := hide s3
  replace hX := hide hX
  clear s2 R1 R2 s1 B1 c hs
  go_wp2_with fail
  exact bodyPost_ret (v := .tuple #[.agg #[.slice a' rs.length G], .int .i64 E]) (by simp [results, Try.results14, go_sem, r0]) rfl ⟨rs, a', G, rfl, hX.out, s3.out, bel3⟩

end Go.Proofs.Ytnpikbpngohimaa

/-
  The contracts of package shelf over shelves as plain lists: where the parts lie is not told.
-/
namespace Go.Proofs.Ytnpikbpngohimaa
open Go.RowKit

/-- The rows from the address on are the plain rows C. -/
structure IsS (W : World) (a : Option Addr) (G : Nat) (C : List Rw) : Prop where
  ex : ∃ rs : List Lr, rs.map Lr.rw = C ∧ SlR W a G rs

theorem IsS.call {W W' : World} {a : Option Addr} {G : Nat} {C : List Rw} (h : IsS W a G C) (hb : Below W.heap.size W W') : IsS W' a G C := by
  obtain ⟨rs, e, s⟩ := h.ex
  exact ⟨rs, e, s.call hb⟩

theorem IsS.keep {W W' : World} {a : Option Addr} {G B : Nat} {C : List Rw} (h : IsS W a G C) (hb : Below B W W') (hB : W.heap.size ≤ B) : IsS W' a G C := by
  obtain ⟨rs, e, s⟩ := h.ex
  exact ⟨rs, e, s.keep hb hB⟩

theorem IsS.alloc {W : World} {a : Option Addr} {G : Nat} {C : List Rw} (h : IsS W a G C) (o : Obj) : IsS (W.alloc o) a G C := by
  obtain ⟨rs, e, s⟩ := h.ex
  exact ⟨rs, e, s.alloc o⟩

theorem IsS.drewN {W : World} {a : Option Addr} {G : Nat} {C : List Rw} (h : IsS W a G C) (n : Nat) : IsS (W.drewN n) a G C := by
  obtain ⟨rs, e, s⟩ := h.ex
  exact ⟨rs, e, s.drewN n⟩

theorem IsS.of {W : World} {a : Option Addr} {G : Nat} {l : List Lr} (h : SlR W a G l) : IsS W a G (l.map Lr.rw) := ⟨l, rfl, h⟩

/-- One row of a shelf: its cells, and what they lead to. -/
theorem IsS.at {W : World} {a : Option Addr} {G : Nat} {C : List Rw} (h : IsS W a G C) (k : Nat) (hk : k < C.length) :
    ∃ (b off : Nat) (r : Lr), a = some ⟨b, off, none⟩ ∧ b < W.heap.size ∧ W.cell? ⟨b, off + k * 2, none⟩ = some (.slice r.ba r.bs.length r.bc) ∧ W.cell? ⟨b, off + k * 2 + 1, none⟩ = some (.slice r.ha r.hd.length r.hc) ∧ r.Good W ∧ r.rw = C.getD k rw0 := by
  obtain ⟨rs, rfl, s⟩ := h.ex
  rw [List.length_map] at hk
  obtain ⟨b, off, rfl, hb⟩ := s.where (by intro e; rw [e] at hk; simp at hk)
  obtain ⟨e0, e1, g⟩ := s.at k rs[k] (List.getElem?_eq_getElem hk)
  refine ⟨b, off, rs[k], rfl, hb, e0, e1, g, ?_⟩
  rw [List.getD, List.getElem?_map, List.getElem?_eq_getElem hk]
  rfl

/-- What is owned from here on is owned from further down on. -/
theorem ownDown {w : World} {base base' : Nat} {e : TypeId} {size n : Nat} {v : Value} {xs : List Value} (h : w.ownsRow base e size v n xs) (hb : base' ≤ base) : w.ownsRow base' e size v n xs := by
  refine ⟨h.1, ?_⟩
  rcases h.2 with h0 | ⟨g, cap, cur, e1, h1, h2⟩
  · exact .inl h0
  · exact .inr ⟨g, cap, cur, e1, Nat.le_trans hb h1, h2⟩

/-- Two cells and more do not lie in a block of one. -/
theorem Row.offOne {w : World} {ao : Option Addr} {g : Nat} {C : List Value} {c : Value} {t : TypeId} (h : Row w ao C) (B : Blk w g [c] t) (hC : 2 ≤ C.length) : Off g ao := by
  obtain ⟨b, off, rfl, hb, hc⟩ := h.at (by intro e; rw [e] at hC; simp at hC)
  intro ad e
  cases e
  intro e
  have e : b = g := e
  subst e
  have h0 := hc 0 C[0] (List.getElem?_eq_getElem (by omega))
  have h1 := hc 1 C[1] (List.getElem?_eq_getElem (by omega))
  rw [B.cell] at h0 h1
  have l0 := (List.getElem?_eq_some_iff.1 h0).1
  have l1 := (List.getElem?_eq_some_iff.1 h1).1
  simp at l0 l1

/-- A shelf's box is written; its rows, and another's, stay. -/
theorem IsS.wrote {w : World} {a : Option Addr} {G g : Nat} {C : List Rw} {a1 : Option Addr} {n1 c1 : Nat} {u : Value} (h : IsS w a G C) (B : Blk w g [.slice a1 n1 c1] 24) (hC : C ≠ []) : IsS (w.setCell ⟨g, 0, none⟩ u) a G C := by
  obtain ⟨rs, rfl, s⟩ := h.ex
  have grow := grownSet (grownRefl w (some g)) 0 u
  have hl := flat_length Lr.two rs
  have hp : 0 < rs.length := by
    cases rs with
    | nil => simp at hC
    | cons x r => simp
  exact ⟨rs, rfl, ⟨⟨s.sl.row.off grow (s.sl.row.offOne B (by rw [hl]; omega)), s.sl.le, s.sl.max, s.sl.nil⟩, fun r hr => (s.good r hr).offSl grow B (onlyOne _ _ _)⟩⟩

/-- What a function answers that makes a shelf of one. -/
def Makes (E : Int) (C : List Rw) (W : World) (e : Ending) (w' : World) : Prop :=
  ∃ a' G', e = .returned (.tuple #[.agg #[.slice a' C.length G'], .int .i64 E]) ∧ IsS w' a' G' C ∧ Below W.heap.size W w'

theorem makes_of {E : Int} {C : List Rw} {W : World} {e : Ending} {w' : World} (h : ∃ rs a' G, e = .returned (.tuple #[.agg #[.slice a' rs.length G], .int .i64 E]) ∧ rs.map Lr.rw = C ∧ SlR w' a' G rs ∧ Below W.heap.size W w') : Makes E C W e w' := by
  obtain ⟨rs, a', G, he, rfl, s, b⟩ := h
  exact ⟨a', G, by rw [he, List.length_map], ⟨rs, rfl, s⟩, b⟩

theorem check_is {C : List Rw} {a : Option Addr} {G : Nat} {W : World} (h : IsS W a G C) :
    Calls Try.prog 17 #[.agg #[.slice a C.length G]] W fun e w' => e = .returned (.int .i64 (shelfE C)) ∧ Below W.heap.size W w' := by
  obtain ⟨rs, rfl, s⟩ := h.ex
  rw [List.length_map]
  exact sCheck_any rs a G W s

theorem same_is {C D : List Rw} {a b : Option Addr} {G H : Nat} {W : World} (h : IsS W a G C) (k : IsS W b H D) (hl : C.length ≤ 140737488355328) :
    Calls Try.prog 18 #[.agg #[.slice a C.length G], .agg #[.slice b D.length H]] W fun e w' => e = .returned (.bool (sameSh C D)) ∧ Below W.heap.size W w' := by
  obtain ⟨rs, rfl, s⟩ := h.ex
  obtain ⟨qs, rfl, t⟩ := k.ex
  rw [List.length_map] at hl
  rw [List.length_map, List.length_map]
  exact sSame_any rs qs a b G H W s t hl

theorem all_is {C : List Rw} {a : Option Addr} {G : Nat} {W : World} (s : Int) (h : IsS W a G C) :
    Calls Try.prog 10 #[.agg #[.slice a C.length G], .int .i64 s] W fun e w' => ∃ a' G', e = .returned (.tuple #[.slice a' (allL C s).length G', .int .i64 (allE C s)]) ∧
      w'.ownsRow W.heap.size 44 2 (.slice a' (allL C s).length G') (allL C s).length (cellsP (allL C s)) ∧ Below W.heap.size W w' := by
  obtain ⟨rs, rfl, t⟩ := h.ex
  rw [List.length_map]
  exact sAll_any rs a G s W t

def freshL : List Rw := [rw0, rw0, rw0, rw0]

theorem new_is (W : World) :
    Calls Try.prog 20 #[] W fun e w' => ∃ a' G', e = .returned (.agg #[.slice a' 4 G']) ∧ IsS w' a' G' freshL ∧ Below W.heap.size W w' := by
  refine (sNew_any W).mono ?_
  rintro e w' ⟨a', G', rfl, s, b⟩
  exact ⟨a', G', rfl, ⟨_, rfl, s⟩, b⟩

theorem put_is {C : List Rw} {a : Option Addr} {G : Nat} {W : World} (L : List En) (la : Option Addr) (lc : Nat) (h : IsS W a G C) (hL : SlW En.cells W la lc L) (few : L.length ≤ 140737488355328) :
    Calls Try.prog 11 #[.agg #[.slice a C.length G], .slice la L.length lc] W (Makes (chE C (bputE C L)) (chL C (bputE C L) (bputL C L)) W) := by
  obtain ⟨rs, rfl, t⟩ := h.ex
  rw [List.length_map]
  exact (sPut_any rs a G L la lc W t hL few).mono fun e w' h => makes_of h

theorem seal_is {C : List Rw} {a : Option Addr} {G : Nat} {W : World} (s n : Int) (h : IsS W a G C) :
    Calls Try.prog 12 #[.agg #[.slice a C.length G], .int .i64 s, .int .i64 n] W (Makes (chE C (sealE C s n)) (chL C (sealE C s n) (sealL C s n)) W) := by
  obtain ⟨rs, rfl, t⟩ := h.ex
  rw [List.length_map]
  exact (sSeal_any rs a G s n W t).mono fun e w' h => makes_of h

theorem merge_is {C : List Rw} {a : Option Addr} {G : Nat} {W : World} (s n : Int) (h : IsS W a G C) :
    Calls Try.prog 13 #[.agg #[.slice a C.length G], .int .i64 s, .int .i64 n] W (Makes (chE C (mrgE C s n)) (chL C (mrgE C s n) (mrgL C s n)) W) := by
  obtain ⟨rs, rfl, t⟩ := h.ex
  rw [List.length_map]
  exact (sMerge_any rs a G s n W t).mono fun e w' h => makes_of h

theorem drop_is {C : List Rw} {a : Option Addr} {G : Nat} {W : World} (n : Int) (h : IsS W a G C) :
    Calls Try.prog 14 #[.agg #[.slice a C.length G], .int .i64 n] W (Makes (chE C (dropE n)) (chL C (dropE n) (dropL C n)) W) := by
  obtain ⟨rs, rfl, t⟩ := h.ex
  rw [List.length_map]
  exact (sDrop_any rs a G n W t).mono fun e w' h => makes_of h

end Go.Proofs.Ytnpikbpngohimaa

/-
  query.Range: what it answers, whatever it is handed; its points lie in memory of the call's own.
-/
namespace Go.Proofs.Ytnpikbpngohimaa
open Go.RowKit

theorem allL_len (C : List Rw) (s : Int) : (allL C s).length ≤ 40 := by
  unfold allL
  split
  · rename_i h
    unfold allE at h
    split at h
    · rename_i hz
      split at h
      · cases h
      · rename_i hi
        obtain ⟨k, rfl, hk⟩ := inI_nat (by simpa using hi)
        obtain ⟨h4, hm⟩ := shelfE_mem hz
        rw [Int.toNat_natCast]
        exact (checkE_zero (rowE_zero (hm _ (getD_mem (by omega)))).2.2).1
    · rename_i h0
      exact absurd h h0
  · simp

theorem allL_check (C : List Rw) (s : Int) : checkE (allL C s) = 0 := by
  unfold allL
  split
  · rename_i h
    unfold allE at h
    split at h
    · rename_i hz
      split at h
      · cases h
      · rename_i hi
        obtain ⟨k, rfl, hk⟩ := inI_nat (by simpa using hi)
        obtain ⟨h4, hm⟩ := shelfE_mem hz
        rw [Int.toNat_natCast]
        exact (rowE_zero (hm _ (getD_mem (by omega)))).2.2
    · rename_i h0
      exact absurd h h0
  · rfl

theorem allL_rises (C : List Rw) (s : Int) : Rises (allL C s) := (check_rises (allL_check C s)).1

set_option maxHeartbeats 1000000 in
set_option maxRecDepth 100000 in
theorem range_is {C : List Rw} {a : Option Addr} {G cn : Nat} {w : World} (s f t : Int) (h : IsS w a G C) (hcn : cn = C.length) :
    Calls Try.prog 29 #[.agg #[.slice a cn G], .int .i64 s, .int .i64 f, .int .i64 t] w fun e w' => ∃ a' G', e = .returned (.tuple #[.slice a' (rngL (allL C s) f t).length G', .int .i64 (allE C s)]) ∧
      w'.ownsRow w.heap.size 44 2 (.slice a' (rngL (allL C s) f t).length G') (rngL (allL C s) f t).length (cellsP (rngL (allL C s) f t)) ∧ Below w.heap.size w w' := by
  have hl := allL_len C s
  have c1 := fun W (h : IsS W a G C) => all_is s h
  rw [← hcn] at c1
  have S1 := ((h.alloc (.cells #[.slice a cn G] 24)).alloc (.cells #[.int .i64 f] 3)).alloc (.cells #[.int .i64 t] 3)
  have Bf := (Blk.laid (w.alloc (.cells #[.slice a cn G] 24)) [.int .i64 f] 3 (w.heap.size + 1) (by simp)).alc (.cells #[.int .i64 t] 3)
  have Bt := Blk.laid ((w.alloc (.cells #[.slice a cn G] 24)).alloc (.cells #[.int .i64 f] 3)) [.int .i64 t] 3 (w.heap.size + 2) (by simp)
  have bel := below3 w (.cells #[.slice a cn G] 24) (.cells #[.int .i64 f] 3) (.cells #[.int .i64 t] 3)
  by_cases hE : allE C s = 0
  · rw [hE] at c1 ⊢
    obtain ⟨A, hA⟩ : ∃ A, A = allL C s := ⟨_, rfl⟩
    rw [← hA] at c1 hl ⊢
    obtain ⟨n, hn⟩ : ∃ n, n = A.length := ⟨_, rfl⟩
    rw [← hn] at c1 hl
    obtain ⟨m, hm⟩ : ∃ m, m = (rngL A f t).length := ⟨_, rfl⟩
    have hmn : m ≤ n := by rw [hm, hn]; exact rng_len A f t
    rw [← hm]
    replace hm := hide hm
    replace hn := hide hn
    clear hE hA hcn
    go_enter Try.func29, Try.ntmps29
    go_wp2_with fail
    go_at_call 10
    refine (c1 _ S1).mono ?_
    rintro e w2 ⟨a2, G2, rfl, o2, b2⟩
    replace Bf := Bf.keep b2 Bf.lt
    replace Bt := Bt.keep b2 Bt.lt
    replace bel := belowCall bel b2
    rcases ownSpare o2 with ⟨e2, rfl, rfl⟩ | ⟨g, G', sp, e2, hb, B, h1, h2, h3⟩
    · simp only [Value.slice.injEq, true_and] at e2
      obtain ⟨rfl, rfl⟩ := e2
      obtain rfl : m = 0 := by omega
      have cI := fun W h k m => indexR [] none 0 0 f t (w.heap.size + 1) (w.heap.size + 2) W h k m rfl (by decide)
      have cD : Calls Try.prog 73 #[.slice none 0 0, .func (.func 72) #[] #[.pointer (some ⟨w.heap.size + 1, 0, none⟩), .pointer (some ⟨w.heap.size + 2, 0, none⟩)]] w2 fun e w' => e = .returned (.slice none 0 0) ∧ Below w2.heap.size w2 w' := by
        go_enter Try.func73, Try.ntmps73
        go_wp2_with fail
        go_at_call 94
        refine (cI _ (SlP.ofNil _) Bf Bt).mono ?_
        rintro e w3 ⟨b3, ⟨rfl, _⟩ | ⟨k0, x0, _, hx0, _⟩⟩
        · go_wp2_with fail
          go_ret
          exact ⟨rfl, b3⟩
        · simp at hx0
      clear cI b2 o2
      go_wp2_with fail
      go_at_call 73
      refine cD.mono ?_
      rintro e w3 ⟨rfl, b3⟩
      go_wp2_with fail
      go_ret2
      exact ⟨none, 0, rfl, World.ownsRow_nil _ _ _ _, belowCall bel b3⟩
    · simp only [Value.slice.injEq, true_and] at e2
      obtain ⟨rfl, rfl⟩ := e2
      rw [cellsP_flat] at B h3
      have cD := deleteP A sp f t g (w.heap.size + 1) (w.heap.size + 2) n G2 w2 B Bf Bt hn.out.symm hl h1 (by unfold maxLen at h2; exact h2)
      rw [keptR_eq] at cD
      rw [← hm.out] at cD
      have h3' := hide h3
      have hbw : w.heap.size ≤ g := by simp at hb; omega
      clear b2 o2 B h3
      go_wp2_with fail
      go_at_call 73
      refine cD.mono ?_
      rintro e w3 ⟨tail, rfl, hlen, B3, gr3⟩
      have bel3 : Below w.heap.size w w3 := bel.grown gr3 bel.size (fun k hk => by obtain rfl := Option.some.inj hk; exact hbw)
      have own3 : w3.ownsRow w.heap.size 44 2 (.slice (some ⟨g, 0, none⟩) m G2) m (cellsP (rngL A f t)) := by
        rw [List.flatMap_append, List.append_assoc, ← cellsP_flat] at B3
        refine spareOwn hbw B3 hm.out.symm (by omega) h2 ?_
        rw [← h3'.out, List.length_append, List.length_append, List.length_append, cellsP_flat, flat_length pc_two, flat_length pc_two, flat_length pc_two, ← hm.out, ← hn.out]
        rw [List.length_append, ← hm.out] at hlen
        omega
      replace hlen := hide hlen
      clear B3
      go_wp2_with fail
      go_ret2
      exact ⟨_, _, rfl, own3, bel3⟩
  · have hR : allL C s = [] := by unfold allL; rw [if_neg hE]
    rw [hR] at c1 ⊢
    generalize allE C s = E at *
    clear hR hcn
    go_enter Try.func29, Try.ntmps29
    go_wp2_with fail
    go_at_call 10
    refine (c1 _ S1).mono ?_
    rintro e w2 ⟨a2, G2, rfl, o2, b2⟩
    replace bel := belowCall bel b2
    go_wp2_with fail
    go_ret2
    exact ⟨none, 0, rfl, World.ownsRow_nil _ _ _ _, bel⟩

end Go.Proofs.Ytnpikbpngohimaa

/-
  The functions that query.Buckets and query.group hand on: where a point's bucket starts, and whether it starts elsewhere; query.checkCut.
-/
namespace Go.Proofs.Ytnpikbpngohimaa
open Go.RowKit

theorem emod_le {a b : Int} (ha : 0 ≤ a) (hb : 1 ≤ b) : a % b ≤ a := by
  have h1 : 0 ≤ b * (a / b) := Int.mul_nonneg (by omega) (Int.ediv_nonneg ha (by omega))
  have h2 : b * (a / b) + a % b = a := Int.mul_ediv_add_emod a b
  omega

theorem start_le {f wd : Int} {p : Pt} (h1 : f ≤ p.1) (h3 : 1 ≤ wd) : f ≤ startOf f wd p ∧ startOf f wd p ≤ p.1 := by
  unfold startOf
  have e0 := Int.emod_nonneg (p.1 - f) (show wd ≠ 0 by omega)
  have e1 : (p.1 - f) % wd ≤ p.1 - f := emod_le (by omega) h3
  omega

set_option maxHeartbeats 400000 in
set_option maxRecDepth 100000 in
theorem start_any (p : Pt) (f wd : Int) (cf cw : Nat) (w : World) (h0 : 0 ≤ f) (h1 : f ≤ p.1) (h2 : p.1 ≤ 100001) (h3 : 1 ≤ wd) (h4 : wd ≤ 100001) (Bf : Blk w cf [.int .i64 f] 3) (Bw : Blk w cw [.int .i64 wd] 3) :
    Calls Try.prog 76 #[.agg #[.int .i64 p.1, .int .i64 p.2], .pointer (some ⟨cf, 0, none⟩), .pointer (some ⟨cw, 0, none⟩)] w fun e w' => e = .returned (.int .i64 (startOf f wd p)) ∧ Below w.heap.size w w' := by
  have d0 : w.cell? ⟨cf, 0, none⟩ = some (.int .i64 f) := Bf.cell 0
  have d1 : w.cell? ⟨cw, 0, none⟩ = some (.int .i64 wd) := Bw.cell 0
  have l0 := Bf.lt
  have l1 := Bw.lt
  obtain ⟨x, y⟩ := p
  simp only at *
  have e0 := Int.emod_nonneg (x - f) (show wd ≠ 0 by omega)
  have e1 : (x - f) % wd ≤ x - f := emod_le (by omega) h3
  have e2 : (x - f).tmod wd = (x - f) % wd := Int.tmod_eq_emod_of_nonneg (by omega)
  have hw : ¬ wd = 0 := by omega
  unfold startOf
  simp only
  generalize hr : (x - f) % wd = r at *
  clear hr
  go_enter Try.func76, Try.ntmps76
  go_wp2_with fail
  go_quiet (fail)
  go_wp2_with fail
  go_ret
  exact ⟨rfl, belowDrewN ((Below.refl _ _).alloc (Nat.le_refl _) _) nq⟩

def otherS (f wd st : Int) (p : Pt) : Bool := !decide (startOf f wd p = st)

set_option maxHeartbeats 400000 in
set_option maxRecDepth 100000 in
theorem other_any (p : Pt) (f wd st : Int) (cf cw cs ct : Nat) (w : World) (h0 : 0 ≤ f) (h1 : f ≤ p.1) (h2 : p.1 ≤ 100001) (h3 : 1 ≤ wd) (h4 : wd ≤ 100001) (Bf : Blk w cf [.int .i64 f] 3) (Bw : Blk w cw [.int .i64 wd] 3) (Bs : Blk w cs [.func (.func 76) #[] #[.pointer (some ⟨cf, 0, none⟩), .pointer (some ⟨cw, 0, none⟩)]] 108) (Bt : Blk w ct [.int .i64 st] 3) :
    Calls Try.prog 95 #[.agg #[.int .i64 p.1, .int .i64 p.2], .pointer (some ⟨cs, 0, none⟩), .pointer (some ⟨ct, 0, none⟩)] w fun e w' => e = .returned (.bool (otherS f wd st p)) ∧ Below w.heap.size w w' := by
  have d0 : w.cell? ⟨cs, 0, none⟩ = some (.func (.func 76) #[] #[.pointer (some ⟨cf, 0, none⟩), .pointer (some ⟨cw, 0, none⟩)]) := Bs.cell 0
  have d1 : w.cell? ⟨ct, 0, none⟩ = some (.int .i64 st) := Bt.cell 0
  have l0 := Bs.lt
  have l1 := Bt.lt
  have c := fun W hf hw => start_any p f wd cf cw W h0 h1 h2 h3 h4 hf hw
  obtain ⟨x, y⟩ := p
  simp only at *
  unfold otherS
  generalize startOf f wd (x, y) = S at *
  have BP := Blk.laid w [.int .i64 x, .int .i64 y] 44 _ rfl
  have bel : Below w.heap.size w (w.alloc (.cells #[.int .i64 x, .int .i64 y] 44)) := (Below.refl _ _).alloc (Nat.le_refl _) _
  go_enter Try.func95, Try.ntmps95
  go_wp2_with fail
  replace Bf := Bf.alc (.cells #[.int .i64 x, .int .i64 y] 44)
  replace Bw := Bw.alc (.cells #[.int .i64 x, .int .i64 y] 44)
  replace Bs := Bs.alc (.cells #[.int .i64 x, .int .i64 y] 44)
  replace Bt := Bt.alc (.cells #[.int .i64 x, .int .i64 y] 44)
  generalize hg : w.heap.size = g at *
  replace hg := hide hg
  generalize w.alloc _ = w1 at *
  have q0 : w1.cell? ⟨cs, 0, none⟩ = some (.func (.func 76) #[] #[.pointer (some ⟨cf, 0, none⟩), .pointer (some ⟨cw, 0, none⟩)]) := Bs.cell 0
  have q1 : w1.cell? ⟨ct, 0, none⟩ = some (.int .i64 st) := Bt.cell 0
  have q2 : w1.cell? ⟨g, 0, none⟩ = some (.int .i64 x) := BP.cell 0
  have q3 : w1.cell? ⟨g, 1, none⟩ = some (.int .i64 y) := BP.cell 1
  clear d0 d1 l0 l1
  have K0 : Below w1.heap.size w1 w1.drew := belowDrew (Below.refl _ _)
  have cc : Calls Try.prog 76 #[.agg #[.int .i64 x, .int .i64 y], .pointer (some ⟨cf, 0, none⟩), .pointer (some ⟨cw, 0, none⟩)] w1.drew fun e w' => e = .returned (.int .i64 S) ∧ w'.cell? ⟨cs, 0, none⟩ = some (.func (.func 76) #[] #[.pointer (some ⟨cf, 0, none⟩), .pointer (some ⟨cw, 0, none⟩)]) ∧ w'.cell? ⟨ct, 0, none⟩ = some (.int .i64 st) ∧ w'.cell? ⟨g, 0, none⟩ = some (.int .i64 x) ∧ w'.cell? ⟨g, 1, none⟩ = some (.int .i64 y) ∧ Below w1.heap.size w1 w' := by
    refine (c _ (Bf.keep K0 Bf.lt) (Bw.keep K0 Bw.lt)).mono ?_
    rintro e w' ⟨rfl, b'⟩
    have hb := belowCall K0 b'
    exact ⟨rfl, (Bs.keep hb Bs.lt).cell 0, (Bt.keep hb Bt.lt).cell 0, (BP.keep hb BP.lt).cell 0, (BP.keep hb BP.lt).cell 1, hb⟩
  go_region_held3 (fun w' => w'.cell? ⟨cs, 0, none⟩ = some (.func (.func 76) #[] #[.pointer (some ⟨cf, 0, none⟩), .pointer (some ⟨cw, 0, none⟩)]) ∧ w'.cell? ⟨ct, 0, none⟩ = some (.int .i64 st) ∧ w'.cell? ⟨g, 0, none⟩ = some (.int .i64 x) ∧ w'.cell? ⟨g, 1, none⟩ = some (.int .i64 y) ∧ Below w1.heap.size w1 w') (go_keep)
    (first | (go_at_call 76; refine cc.mono ?_; rintro e w3 ⟨rfl, z0, z1, z2, z3, z4⟩))
  all_goals go_wp2_with fail
  all_goals go_ret
  all_goals exact ⟨rfl, by rw [hg.out]; exact bel.trans (z4.mono (Nat.le_of_lt BP.lt))⟩

set_option maxHeartbeats 400000 in
set_option maxRecDepth 100000 in
theorem cut_any (f t wd : Int) (w : World) :
    Calls Try.prog 74 #[.int .i64 f, .int .i64 t, .int .i64 wd] w fun e w' => e = .returned (.int .i64 (cutE f t wd)) ∧ w' = w := by
  by_cases h1 : 0 ≤ f
  · by_cases h2 : f ≤ t
    · by_cases h3 : t ≤ 100001
      · by_cases h4 : 1 ≤ wd
        · by_cases h5 : wd ≤ 100001
          · have hq : (t - f + wd - 1).tdiv wd = (t - f + wd - 1) / wd := Int.tdiv_eq_ediv_of_nonneg (by omega)
            have hw : ¬ wd = 0 := by omega
            have n1 : ¬ f < 0 := by omega
            have n2 : ¬ t < f := by omega
            have n3 : ¬ 100001 < t := by omega
            have n4 : ¬ wd < 1 := by omega
            have n5 : ¬ 100001 < wd := by omega
            have q0 : 0 ≤ (t - f + wd - 1) / wd := Int.ediv_nonneg (by omega) (by omega)
            have q1 : (t - f + wd - 1) / wd ≤ 9223372036854775807 := Int.le_trans (Int.ediv_le_self _ (by omega)) (by omega)
            have e : cutE f t wd = if 200 < (t - f + wd - 1) / wd then 2 else 0 := by unfold cutE; rw [if_pos ⟨h1, h2, h3, h4, h5⟩]
            rw [e]
            clear e
            by_cases h6 : 200 < (t - f + wd - 1) / wd
            · rw [if_pos h6]
              go_enter Try.func74, Try.ntmps74
              go_wp2_with fail
              go_ret
              exact ⟨rfl, rfl⟩
            · rw [if_neg h6]
              have h6' : (t - f + wd - 1) / wd ≤ 200 := by omega
              go_enter Try.func74, Try.ntmps74
              go_wp2_with fail
              go_ret
              exact ⟨rfl, rfl⟩
          · rw [show cutE f t wd = 3 by unfold cutE; rw [if_neg (by omega)]]
            have n1 : ¬ f < 0 := by omega
            have n2 : ¬ t < f := by omega
            have n3 : ¬ 100001 < t := by omega
            have n4 : ¬ wd < 1 := by omega
            have n5 : 100001 < wd := by omega
            go_enter Try.func74, Try.ntmps74
            go_wp2_with fail
            go_ret
            exact ⟨rfl, rfl⟩
        · rw [show cutE f t wd = 3 by unfold cutE; rw [if_neg (by omega)]]
          have n1 : ¬ f < 0 := by omega
          have n2 : ¬ t < f := by omega
          have n3 : ¬ 100001 < t := by omega
          have n4 : wd < 1 := by omega
          go_enter Try.func74, Try.ntmps74
          go_wp2_with fail
          go_ret
          exact ⟨rfl, rfl⟩
      · rw [show cutE f t wd = 3 by unfold cutE; rw [if_neg (by omega)]]
        have n1 : ¬ f < 0 := by omega
        have n2 : ¬ t < f := by omega
        have n3 : 100001 < t := by omega
        go_enter Try.func74, Try.ntmps74
        go_wp2_with fail
        go_ret
        exact ⟨rfl, rfl⟩
    · rw [show cutE f t wd = 3 by unfold cutE; rw [if_neg (by omega)]]
      have n1 : ¬ f < 0 := by omega
      have n2 : t < f := by omega
      go_enter Try.func74, Try.ntmps74
      go_wp2_with fail
      go_ret
      exact ⟨rfl, rfl⟩
  · rw [show cutE f t wd = 3 by unfold cutE; rw [if_neg (by omega)]]
    have n1 : f < 0 := by omega
    go_enter Try.func74, Try.ntmps74
    go_wp2_with fail
    go_ret
    exact ⟨rfl, rfl⟩

end Go.Proofs.Ytnpikbpngohimaa

/-
  sum.Join and sum.Of: what they return; nothing that was there is written.
-/
namespace Go.Proofs.Ytnpikbpngohimaa
open Go.RowKit

set_option maxHeartbeats 1000000 in
set_option maxRecDepth 100000 in
theorem join_raw (an alo ahi atot bn blo bhi btot : Int) (w : World) :
    Calls Try.prog 38 #[.agg #[.int .i64 an, .int .i64 alo, .int .i64 ahi, .int .i64 atot], .agg #[.int .i64 bn, .int .i64 blo, .int .i64 bhi, .int .i64 btot]] w fun e w' => e = .returned (smV (joinS ⟨an, alo, ahi, atot⟩ ⟨bn, blo, bhi, btot⟩)) ∧ Below w.heap.size w w' := by
  unfold joinS
  simp only
  by_cases h1 : an = 0
  · subst h1
    rw [if_pos rfl]
    go_enter Try.func38, Try.ntmps38
    go_wp2
    exact bodyPost_ret (v := .agg #[.int .i64 bn, .int .i64 blo, .int .i64 bhi, .int .i64 btot]) (by simp [results, Try.results38, go_sem]) rfl ⟨rfl, below3 w _ _ _⟩
  · by_cases h2 : bn = 0
    · subst h2
      rw [if_neg h1, if_pos rfl]
      go_enter Try.func38, Try.ntmps38
      go_wp2
      exact bodyPost_ret (v := .agg #[.int .i64 an, .int .i64 alo, .int .i64 ahi, .int .i64 atot]) (by simp [results, Try.results38, go_sem]) rfl ⟨rfl, below3 w _ _ _⟩
    · rw [if_neg h1, if_neg h2]
      go_enter Try.func38, Try.ntmps38
      go_wp2
      exact bodyPost_ret (v := .agg #[.int .i64 (wrap64 (an + bn)), .int .i64 (min alo blo), .int .i64 (max ahi bhi), .int .i64 (wrap64 (atot + btot))]) (by simp [results, Try.results38, go_sem]) rfl ⟨rfl, below3 w _ _ _⟩

theorem join_any (a b : Sm) (w : World) :
    Calls Try.prog 38 #[smV a, smV b] w fun e w' => e = .returned (smV (joinS a b)) ∧ Below w.heap.size w w' := join_raw _ _ _ _ _ _ _ _ w

set_option maxHeartbeats 1000000 in
set_option maxRecDepth 100000 in
theorem of_any (ao : Option Addr) (cap : Nat) (l : List Pt) (w : World) (hr : SlP w ao cap l) :
    Calls Try.prog 39 #[.slice ao l.length cap] w fun e w' => e = .returned (smV (sumS l)) ∧ Below w.heap.size w w' := by
  obtain ⟨C, hC⟩ : ∃ C, C = sumS l := ⟨_, rfl⟩
  rw [← hC]
  obtain ⟨n, hn⟩ : ∃ n, n = l.length := ⟨_, rfl⟩
  rw [← hn]
  have hmax : n ≤ 9223372036854775807 := by have h1 := hr.le; have h2 := hr.max; omega
  have HL := hide hn
  have HC : Hid (C = sumFrom sm0 (l.drop 0)) := by rw [List.drop_zero]; exact hC
  clear hn hC
  go_enter Try.func39, Try.ntmps39
  go_wp2_with fail
  have B0 := Blk.laid w sm0.cells 61 _ rfl
  have B1 := Blk.laid (w.alloc (.cells sm0.cells.toArray 61)) sm0.cells 61 (w.heap.size + 1) (by simp)
  have B2 := B0.alc (.cells sm0.cells.toArray 61)
  have bel0 : Below w.heap.size w ((w.alloc (.cells sm0.cells.toArray 61)).alloc (.cells sm0.cells.toArray 61)) := below2 w _ _
  unfold Sm.cells sm0 at B1 B2 bel0
  clear B0
  generalize (w.alloc _).alloc _ = w2 at *
  go_loopw [8] (fun i wr => ∃ (k : Nat) (s : Sm), k ≤ n ∧ i = .int .i64 k ∧ Hid (C = sumFrom s (l.drop k)) ∧ Blk wr (w.heap.size + 1) s.cells 61 ∧ Blk wr w.heap.size sm0.cells 61 ∧ Below w.heap.size w wr) (fun i _ => n - (intOf i).toNat)
  case atStart => exact ⟨0, sm0, by omega, rfl, HC, B1, B2, bel0⟩
  case round =>
    clear HC B1 B2 bel0
    obtain ⟨k, ⟨sn, slo, shi, stot⟩, hk, rfl, HC, B, BR, bel⟩ := hrel
    have c0 : wr.cell? ⟨w.heap.size + 1, 0, none⟩ = some (.int .i64 sn) := B.cell 0
    have c1 : wr.cell? ⟨w.heap.size + 1, 1, none⟩ = some (.int .i64 slo) := B.cell 1
    have c2 : wr.cell? ⟨w.heap.size + 1, 2, none⟩ = some (.int .i64 shi) := B.cell 2
    have c3 : wr.cell? ⟨w.heap.size + 1, 3, none⟩ = some (.int .i64 stot) := B.cell 3
    have hgl := B.lt
    by_cases hlt : k < n
    · have hs := hr.keep bel (Nat.le_refl _)
      obtain ⟨b, off, rfl, hbw⟩ := hs.where (by intro h; rw [HL.out, h] at hlt; simp at hlt)
      obtain ⟨x, y, e0, e1, hx, hd⟩ := hs.pt k (by rw [← HL.out]; exact hlt)
      have HC' := HC.out
      rw [hd, sumFrom] at HC'
      have HC2 := hide HC'
      clear HC HC' hx hd
      have J := fun W => join_raw sn slo shi stot 1 y y y W
      obtain ⟨⟨rn, rlo, rhi, rtot⟩, hr'⟩ : ∃ r, r = joinS ⟨sn, slo, shi, stot⟩ ⟨1, y, y, y⟩ := ⟨_, rfl⟩
      rw [← hr'] at J
      unfold smV at J
      simp only at J
      have HR := hide hr'
      clear hr'
      go_wp2_with fail
      go_at_call 38
      refine (J _).mono ?_
      rintro e w3 ⟨rfl, b3⟩
      have B3 := (B.alc _).keep b3 (B.alc _).lt
      have BR3 := (BR.alc _).keep b3 (BR.alc _).lt
      have bel3 := belowCall (bel.alloc bel.size _) b3
      clear b3 c0 c1 c2 c3 B BR bel J
      have f0 := B3.free 0
      have f1 := B3.free 1
      have f2 := B3.free 2
      have f3 := B3.free 3
      have c0 : w3.cell? ⟨w.heap.size + 1, 0, none⟩ = some (.int .i64 sn) := B3.cell 0
      have c1 : w3.cell? ⟨w.heap.size + 1, 1, none⟩ = some (.int .i64 slo) := B3.cell 1
      have c2 : w3.cell? ⟨w.heap.size + 1, 2, none⟩ = some (.int .i64 shi) := B3.cell 2
      have c3 : w3.cell? ⟨w.heap.size + 1, 3, none⟩ = some (.int .i64 stot) := B3.cell 3
      have hgl3 := B3.lt
      go_wp2_with fail
      go_roundw
      case rel =>
        exact ⟨k + 1, ⟨rn, rlo, rhi, rtot⟩, by omega, by go_num, hide (by rw [HC2.out, HR.out]; rfl), (((B3.set 0 _).set 1 _).set 2 _).set 3 _,
          (((BR3.other 0 _ (by omega)).other 1 _ (by omega)).other 2 _ (by omega)).other 3 _ (by omega),
          (((bel3.setCell (by simp) _).setCell (by simp) _).setCell (by simp) _).setCell (by simp) _⟩
      case measure => simp [intOf]; omega
    · obtain rfl : k = n := by omega
      have HC' := HC.out
      rw [HL.out, List.drop_length, sumFrom] at HC'
      subst HC'
      have f0 := BR.free 0
      have f1 := BR.free 1
      have f2 := BR.free 2
      have f3 := BR.free 3
      have d0 : wr.cell? ⟨w.heap.size, 0, none⟩ = some (.int .i64 0) := BR.cell 0
      have d1 : wr.cell? ⟨w.heap.size, 1, none⟩ = some (.int .i64 0) := BR.cell 1
      have d2 : wr.cell? ⟨w.heap.size, 2, none⟩ = some (.int .i64 0) := BR.cell 2
      have d3 : wr.cell? ⟨w.heap.size, 3, none⟩ = some (.int .i64 0) := BR.cell 3
      have hgl4 := BR.lt
      go_wp2_with fail
      have bel4 : Below w.heap.size w ((((wr.setCell ⟨w.heap.size, 0, none⟩ (.int .i64 sn)).setCell ⟨w.heap.size, 1, none⟩ (.int .i64 slo)).setCell ⟨w.heap.size, 2, none⟩ (.int .i64 shi)).setCell ⟨w.heap.size, 3, none⟩ (.int .i64 stot)) :=
        (((bel.setCell (Nat.le_refl _) _).setCell (Nat.le_refl _) _).setCell (Nat.le_refl _) _).setCell (Nat.le_refl _) _
      have B4 := (((BR.set 0 (.int .i64 sn)).set 1 (.int .i64 slo)).set 2 (.int .i64 shi)).set 3 (.int .i64 stot)
      generalize (((wr.setCell _ _).setCell _ _).setCell _ _).setCell _ _ = w5 at *
      have i0 : w5.cell? ⟨w.heap.size, 0, none⟩ = some (.int .i64 sn) := B4.cell 0
      have i1 : w5.cell? ⟨w.heap.size, 1, none⟩ = some (.int .i64 slo) := B4.cell 1
      have i2 : w5.cell? ⟨w.heap.size, 2, none⟩ = some (.int .i64 shi) := B4.cell 2
      have i3 : w5.cell? ⟨w.heap.size, 3, none⟩ = some (.int .i64 stot) := B4.cell 3
      exact bodyPost_ret (v := smV ⟨sn, slo, shi, stot⟩) (by simp [results, Try.results39, go_sem, i0, i1, i2, i3, smV]) rfl ⟨rfl, bel4⟩

end Go.Proofs.Ytnpikbpngohimaa
