/-
  shelf.Merge: what it answers of a shelf, whatever it is.
-/
import Derived.Lib.SliceRun
import Derived.Test.YtgncadehaificaaHSMerge
import Derived.Test.YtgncadehaificaaP06
import Derived.Test.YtgncadehaificaaHSDelF
import Derived.Test.YtgncadehaificaaP18
import Derived.Test.YtgncadehaificaaHChange
import Derived.Test.YtgncadehaificaaP07
import Derived.Test.YtgncadehaificaaHSSame
import Derived.Test.YtgncadehaificaaP14
import Derived.Test.YtgncadehaificaaP16
import Derived.Test.YtgncadehaificaaP02
import Derived.Test.YtgncadehaificaaP04
import Derived.Test.YtgncadehaificaaP01
namespace Go.Proofs.Ytgncadehaificaa
open Go.RowKit

theorem merge1_any (n : Int) (cb : Nat) (l : List Rw) (hE : shelfE l = 0) (base box g k : Nat) (rs : List Lr) (W : World) (hk : k < 4) (Bc : Blk W cb [.int .i64 n] 3) (C : Copied l base box g rs W) :
    Calls Try.prog 49 #[.pointer (some ⟨g, k * 2, none⟩), .pointer (some ⟨cb, 0, none⟩)] W (Does (mrgE l k n) (mrgL l k n) base box g W) := by
  have hR := right_of hE
  obtain ⟨r, hr, hrw, e0, e1, oR, f1, f2⟩ := C.row hR k hk
  have d0 : W.cell? ⟨cb, 0, none⟩ = some (.int .i64 n) := Bc.cell 0
  have hi : inI (k : Int) 0 3 = true := by unfold inI; simp; omega
  have hbk : (l.getD k rw0).blocks = r.bs.map Lb.b := by rw [← hrw]; rfl
  have hhd : (l.getD k rw0).head = r.hd := by rw [← hrw]; rfl
  cases hn : inI n 0 ((r.bs.length : Int) - 2) with
  | false =>
    have e : mrgE l k n = 3 := by unfold mrgE; rw [hi, Int.toNat_natCast, hbk, List.length_map, hn]; rfl
    rw [e]
    refine (merge1_range n cb g k r.bs.length r.bc r.ba W d0 e0 f1 hn).mono ?_
    rintro e W' ⟨rfl, q, rfl⟩
    exact ⟨rfl, belowDrewN (Below.refl _ _) _, fun h => by cases h⟩
  | true =>
    have hn2 : 0 ≤ n ∧ n ≤ (r.bs.length : Int) - 2 := by unfold inI at hn; simpa using hn
    obtain ⟨q, rfl⟩ : ∃ q : Nat, n = q := ⟨n.toNat, by omega⟩
    obtain ⟨x, hx⟩ : ∃ x, r.bs[q]? = some x := ⟨_, List.getElem?_eq_getElem (by omega)⟩
    obtain ⟨y, hy⟩ : ∃ y, r.bs[q + 1]? = some y := ⟨_, List.getElem?_eq_getElem (by omega)⟩
    have bx : blkAt (l.getD k rw0) q = x.b := by unfold blkAt; rw [hbk]; simp [List.getD, hx]
    have b_y : blkAt (l.getD k rw0) (q + 1) = y.b := by unfold blkAt; rw [hbk]; simp [List.getD, hy]
    have e : mrgE l k q = mergeE x.b y.b := by unfold mrgE; rw [hi, Int.toNat_natCast, Int.toNat_natCast, hbk, List.length_map, hn, bx, b_y]; rfl
    refine (merge1_go q cb l base box g k (r.bs.length - 1) rs r x y W hR C hr Bc (by omega) (by omega) (by omega) hx hy).mono ?_
    rintro e' W' ⟨rfl, b, hf⟩
    refine ⟨by rw [e], b, fun hz => ?_⟩
    obtain ⟨rs', p1, p2, p3, p4⟩ := hf (by rw [← e]; exact hz)
    refine ⟨rs', p1, p2, ?_, p4⟩
    unfold mrgL
    rw [if_pos hz, p3, Int.toNat_natCast, Int.toNat_natCast, bx, b_y, hbk, hhd, List.map_take, List.map_drop]

set_option maxHeartbeats 1000000 in
set_option maxRecDepth 100000 in
/-- Merge, whatever it is handed. -/
theorem sMerge_any (l : List Lr) (ao : Option Addr) (cap : Nat) (s n : Int) (w : World) (hs : SlR w ao cap l) :
    Calls Try.prog 13 #[.agg #[.slice ao l.length cap], .int .i64 s, .int .i64 n] w fun e w' => ∃ rs a' G, e = .returned (.tuple #[.agg #[.slice a' rs.length G], .int .i64 (chE (l.map Lr.rw) (mrgE (l.map Lr.rw) s n))]) ∧ rs.map Lr.rw = chL (l.map Lr.rw) (mrgE (l.map Lr.rw) s n) (mrgL (l.map Lr.rw) s n) ∧ SlR w' a' G rs ∧ Below w.heap.size w w' := by
  have B1 := (Blk.laid (w.alloc (.cells #[.slice ao l.length cap] 24)) [.int .i64 n] 3 (w.heap.size + 1) (by simp)).alc (.cells #[.slice none 0 0] 24)
  have R1 := Blk.laid ((w.alloc (.cells #[.slice ao l.length cap] 24)).alloc (.cells #[.int .i64 n] 3)) [.slice none 0 0] 24 (w.heap.size + 2) (by simp)
  have bel1 := below3 w (.cells #[.slice ao l.length cap] 24) (.cells #[.int .i64 n] 3) (.cells #[.slice none 0 0] 24)
  have s1 := hs.keep bel1 (Nat.le_refl _)
  have c := fun W (S : SlR W ao cap l) (B : Blk W (w.heap.size + 1) [.int .i64 n] 3) => changeRowM (.pointer (some ⟨w.heap.size + 1, 0, none⟩)) s (mrgE (l.map Lr.rw) s n) (mrgL (l.map Lr.rw) s n) l ao cap W S
    (fun h => by unfold mrgE; rw [if_pos h])
    (fun hE W2 base box g rs hb b2 C k hk hk4 => by
      subst hk
      exact merge1_any n (w.heap.size + 1) (l.map Lr.rw) hE base box g k rs W2 hk4 (B.keep b2 B.lt) C)
  generalize chL (l.map Lr.rw) (mrgE (l.map Lr.rw) s n) (mrgL (l.map Lr.rw) s n) = X at *
  generalize chE (l.map Lr.rw) (mrgE (l.map Lr.rw) s n) = E at *
  generalize l.length = m at *
  go_enter Try.func13, Try.ntmps13
  go_wp2_with fail
  generalize ((w.alloc _).alloc _).alloc _ = w1 at *
  go_at_call 46
  refine (c _ s1 B1).mono ?_
  rintro e w2 ⟨rs, a', G, rfl, hX, s2, fr, b2⟩
  have R2 := R1.keep b2 R1.lt
  have bel2 := belowCall bel1 b2
  have r0 : w2.cell? ⟨w.heap.size + 2, 0, none⟩ = some (.slice none 0 0) := R2.cell 0
  have r1 := R2.free 0
  have s3 := s2.written (onlyOne none 0 0) R2 (i := 0) (u := .slice a' rs.length G) (fun ad e => by have := fr ad e; have := R1.lt; omega)
  have bel3 := bel2.setCell (p := ⟨w.heap.size + 2, 0, none⟩) (by show w.heap.size ≤ w.heap.size + 2; omega) (.slice a' rs.length G)
  replace s3 := hide s3
  replace hX := hide hX
  clear s2 R1 R2 s1 B1 c hs
  go_wp2_with fail
  exact bodyPost_ret (v := .tuple #[.agg #[.slice a' rs.length G], .int .i64 E]) (by simp [results, Try.results13, go_sem, r0]) rfl ⟨rs, a', G, rfl, hX.out, s3.out, bel3⟩

end Go.Proofs.Ytgncadehaificaa

/-
  What a drop makes of a shelf, as plain lists. No program is named.
-/
namespace Go.Proofs.Ytgncadehaificaa
open Go.RowKit

def dropE (n : Int) : Int := if inI n 0 100001 = false then 3 else 0

def dropRw (n : Int) (r : Rw) : Rw := ⟨r.blocks.filter (fun b => !decide (b.to < n)), r.head⟩

def dropL (l : List Rw) (n : Int) : List Rw := if dropE n = 0 then l.map (dropRw n) else []

end Go.Proofs.Ytgncadehaificaa

/-
  shelf.Drop: what it answers of a shelf, whatever it is.
-/
namespace Go.Proofs.Ytgncadehaificaa
open Go.RowKit

set_option maxHeartbeats 1000000 in
set_option maxRecDepth 100000 in
theorem drop1_range (n : Int) (cb box : Nat) (W : World) (d0 : W.cell? ⟨cb, 0, none⟩ = some (.int .i64 n)) (h : inI n 0 100001 = false) :
    Calls Try.prog 52 #[.pointer (some ⟨box, 0, none⟩), .pointer (some ⟨cb, 0, none⟩)] W fun e W' => e = .returned (.int .i64 3) ∧ W' = W := by
  by_cases h0 : n < 0
  · clear h
    go_enter Try.func52, Try.ntmps52
    go_wp2_with fail
    go_ret
    exact ⟨rfl, rfl⟩
  · have h1 : 100001 < n := by unfold inI at h; simp at h; omega
    clear h
    go_enter Try.func52, Try.ntmps52
    go_wp2_with fail
    go_ret
    exact ⟨rfl, rfl⟩

theorem keptB_rw (n : Int) (l : List Lb) : (keptB n l).map Lb.b = (l.map Lb.b).filter (fun b => !decide (b.to < n)) := by
  unfold keptB overB
  rw [List.filter_map]
  rfl

theorem drop_step {n : Int} {l : List Rw} {rs : List Lr} {r y : Lr} {i : Nat} (h : rs.map Lr.rw = (l.take i).map (dropRw n) ++ l.drop i) (hl : rs.length = l.length) (hr : rs[i]? = some r) (hy : y.rw = dropRw n r.rw) :
    (rs.set i y).map Lr.rw = (l.take (i + 1)).map (dropRw n) ++ l.drop (i + 1) := by
  have hi : i < l.length := by rw [← hl]; exact (List.getElem?_eq_some_iff.1 hr).1
  have e : (rs.map Lr.rw)[i]? = some r.rw := by rw [List.getElem?_map, hr]; rfl
  have lt : ((l.take i).map (dropRw n)).length = i := by rw [List.length_map, List.length_take]; omega
  rw [h, List.getElem?_append_right (by omega), lt, Nat.sub_self, List.getElem?_drop, Nat.add_zero] at e
  have hd : l.drop i = r.rw :: l.drop (i + 1) := by
    obtain ⟨hk', e'⟩ := List.getElem?_eq_some_iff.1 e
    rw [← e']
    exact List.drop_eq_getElem_cons hk'
  rw [List.map_set, h, List.set_append_right _ _ (by omega), lt, Nat.sub_self, hd, List.set_cons_zero, hy, List.take_add_one, e, List.map_append, List.append_assoc]
  rfl

set_option maxHeartbeats 2000000 in
set_option maxRecDepth 100000 in
theorem drop1_ok (n : Int) (cb : Nat) (l : List Rw) (base box g : Nat) (rs : List Lr) (W : World) (hR : Right l) (Bc : Blk W cb [.int .i64 n] 3) (hcb : cb < base) (C : Copied l base box g rs W) (h : inI n 0 100001 = true) :
    Calls Try.prog 52 #[.pointer (some ⟨box, 0, none⟩), .pointer (some ⟨cb, 0, none⟩)] W (Does 0 (l.map (dropRw n)) base box g W) := by
  have d0 : W.cell? ⟨cb, 0, none⟩ = some (.int .i64 n) := Bc.cell 0
  have h0 : ¬ n < 0 := by unfold inI at h; simp at h; omega
  have h1 : ¬ 100001 < n := by unfold inI at h; simp at h; omega
  have d1 : W.cell? ⟨box, 0, none⟩ = some (.slice (some ⟨g, 0, none⟩) 4 4) := C.out.cell 0
  have S0 := CutS.start C hR
  have l4 : rs.length = l.length := by rw [← C.same, List.length_map]
  have hl := hR.four
  have m0 : rs.map Lr.rw = (l.take 0).map (dropRw n) ++ l.drop 0 := by rw [C.same]; simp
  have b0 := Below.refl base W
  have hbase := C.base
  replace S0 := hide S0
  replace l4 := hide l4
  replace hl := hide hl
  replace m0 := hide m0
  clear h C hR
  go_enter Try.func52, Try.ntmps52
  go_wp2_with fail
  go_loopw [19] (fun s wr => ∃ (i : Nat) (rs' : List Lr), i ≤ 4 ∧ s = .int .i64 i ∧ Hid (rs'.length = l.length) ∧ Hid (rs'.map Lr.rw = (l.take i).map (dropRw n) ++ l.drop i) ∧ Hid (CutS base box g i rs' wr) ∧ Below base W wr) (fun s _ => 4 - (intOf s).toNat)
  case atStart => exact ⟨0, rs, by omega, rfl, l4, m0, S0, b0⟩
  case round =>
    clear S0 l4 m0 b0 d0 d1
    obtain ⟨i, rs', hi, rfl, l4, m0, S0, b0⟩ := hrel
    by_cases hlt : i < 4
    · obtain ⟨r, hr⟩ : ∃ r, rs'[i]? = some r := ⟨_, List.getElem?_eq_getElem (by rw [l4.out, hl.out]; exact hlt)⟩
      obtain ⟨-, f1, f2, ho⟩ := S0.out.each i r hr
      have oR := ho (Nat.le_refl _)
      obtain ⟨bg, eb, lo, B⟩ := oR.bs
      have Bc1 := Bc.keep b0 hcb
      have d1 : wr.cell? ⟨box, 0, none⟩ = some (.slice (some ⟨g, 0, none⟩) 4 4) := S0.out.out.cell 0
      obtain ⟨m, hm⟩ : ∃ m, m = r.bs.length := ⟨_, rfl⟩
      have e0 : wr.cell? ⟨g, i * 2, none⟩ = some (.slice (some ⟨bg, 0, none⟩) m m) := by
        rw [S0.out.rows.cell]
        refine (flat_get Lr.two _ i 0 _ hr (by decide)).trans ?_
        show some (Value.slice r.ba r.bs.length r.bc) = _
        rw [eb, oR.bc, ← hm]
      have c := fun W B Bc => deleteF r.bs n bg cb m W B Bc hm.symm (by rw [hm, ← oR.bc]; exact f1)
      have neg : ∀ j, some bg = some j → j ≠ g := by
        intro j e
        obtain rfl := Option.some.inj e
        rintro rfl
        exact absurd (blkType B S0.out.rows) (by decide)
      have sub : ∀ x ∈ keptB n r.bs, x ∈ r.bs := fun x hx => (List.mem_filter.1 hx).1
      have kr : (⟨keptB n r.bs, some ⟨bg, 0, none⟩, m, r.hd, r.ha, r.hc⟩ : Lr).rw = dropRw n r.rw := by unfold Lr.rw dropRw; simp only [keptB_rw]
      generalize keptB n r.bs = kept at *
      have hb1 := S0.out.base
      replace hr := hide hr
      replace hm := hide hm
      replace eb := hide eb
      replace neg := hide neg
      replace sub := hide sub
      replace kr := hide kr
      clear oR ho
      go_wp2_with fail
      go_at_call 54
      refine (c _ B Bc1).mono ?_
      rintro e w2 ⟨tail, rfl, hlen, B2, grow2⟩
      have G2 := S0.out.rows.grown grow2 neg.out
      have e2 : w2.cell? ⟨g, i * 2, none⟩ = some (.slice (some ⟨bg, 0, none⟩) m m) := by rw [G2.cell, ← S0.out.rows.cell]; exact e0
      have fz := G2.free (i * 2)
      obtain ⟨S3, b3⟩ := S0.out.step hr.out eb.out hm.out grow2 B2 hlen sub.out
      have m3 := hide (drop_step m0.out l4.out hr.out kr.out)
      have b4 := b0.trans b3
      replace S3 := hide S3
      replace hlen := hide hlen
      clear B B2 grow2 c Bc1 G2 b3 d1 e0
      go_wp2_with fail
      go_roundw
      case rel => exact ⟨i + 1, _, by omega, by go_num, hide (by rw [List.length_set]; exact l4.out), m3, S3, b4⟩
      case measure => simp [intOf]; omega
    · obtain rfl : i = 4 := by omega
      have m1 := m0.out
      rw [List.take_of_length_le (by rw [hl.out]; exact Nat.le_refl _), List.drop_eq_nil_of_le (by rw [hl.out]; exact Nat.le_refl _), List.append_nil] at m1
      have F := hide S0.out.fin
      have O := S0.out.out
      replace m1 := hide m1
      clear S0
      go_wp2_with fail
      go_ret
      exact ⟨rfl, b0, fun _ => ⟨rs', F.out, by rw [l4.out, hl.out], m1.out, O⟩⟩

theorem drop1_any (n : Int) (cb : Nat) (l : List Rw) (base box g : Nat) (rs : List Lr) (W : World) (hR : Right l) (Bc : Blk W cb [.int .i64 n] 3) (hcb : cb < base) (C : Copied l base box g rs W) :
    Calls Try.prog 52 #[.pointer (some ⟨box, 0, none⟩), .pointer (some ⟨cb, 0, none⟩)] W (Does (dropE n) (dropL l n) base box g W) := by
  cases h : inI n 0 100001 with
  | false =>
    have e : dropE n = 3 := by unfold dropE; rw [if_pos h]
    rw [e]
    refine (drop1_range n cb box W (Bc.cell 0) h).mono ?_
    rintro e W' ⟨rfl, rfl⟩
    exact ⟨rfl, Below.refl _ _, fun h => by cases h⟩
  | true =>
    have e : dropE n = 0 := by unfold dropE; rw [h]; rfl
    have e2 : dropL l n = l.map (dropRw n) := by unfold dropL; rw [if_pos e]
    rw [e, e2]
    exact drop1_ok n cb l base box g rs W hR Bc hcb C h

set_option maxHeartbeats 1000000 in
set_option maxRecDepth 100000 in
/-- Drop, whatever it is handed. -/
theorem sDrop_any (l : List Lr) (ao : Option Addr) (cap : Nat) (n : Int) (w : World) (hs : SlR w ao cap l) :
    Calls Try.prog 14 #[.agg #[.slice ao l.length cap], .int .i64 n] w fun e w' => ∃ rs a' G, e = .returned (.tuple #[.agg #[.slice a' rs.length G], .int .i64 (chE (l.map Lr.rw) (dropE n))]) ∧ rs.map Lr.rw = chL (l.map Lr.rw) (dropE n) (dropL (l.map Lr.rw) n) ∧ SlR w' a' G rs ∧ Below w.heap.size w w' := by
  have B1 := (Blk.laid (w.alloc (.cells #[.slice ao l.length cap] 24)) [.int .i64 n] 3 (w.heap.size + 1) (by simp)).alc (.cells #[.slice none 0 0] 24)
  have R1 := Blk.laid ((w.alloc (.cells #[.slice ao l.length cap] 24)).alloc (.cells #[.int .i64 n] 3)) [.slice none 0 0] 24 (w.heap.size + 2) (by simp)
  have bel1 := below3 w (.cells #[.slice ao l.length cap] 24) (.cells #[.int .i64 n] 3) (.cells #[.slice none 0 0] 24)
  have s1 := hs.keep bel1 (Nat.le_refl _)
  have c := fun W (S : SlR W ao cap l) (B : Blk W (w.heap.size + 1) [.int .i64 n] 3) => changeD (.pointer (some ⟨w.heap.size + 1, 0, none⟩)) (dropE n) (dropL (l.map Lr.rw) n) l ao cap W S
    (fun hE W2 base box g rs hb b2 C => drop1_any n (w.heap.size + 1) (l.map Lr.rw) base box g rs W2 (right_of hE) (B.keep b2 B.lt) (Nat.lt_of_lt_of_le B.lt hb) C)
  generalize chL (l.map Lr.rw) (dropE n) (dropL (l.map Lr.rw) n) = X at *
  generalize chE (l.map Lr.rw) (dropE n) = E at *
  generalize l.length = m at *
  go_enter Try.func14, Try.ntmps14
  go_wp2_with fail
  generalize ((w.alloc _).alloc _).alloc _ = w1 at *
  go_at_call 43
  refine (c _ s1 B1).mono ?_
  rintro e w2 ⟨rs, a', G, rfl, hX, s2, fr, b2⟩
  have R2 := R1.keep b2 R1.lt
  have bel2 := belowCall bel1 b2
  have r0 : w2.cell? ⟨w.heap.size + 2, 0, none⟩ = some (.slice none 0 0) := R2.cell 0
  have r1 := R2.free 0
  have s3 := s2.written (onlyOne none 0 0) R2 (i := 0) (u := .slice a' rs.length G) (fun ad e => by have := fr ad e; have := R1.lt; omega)
  have bel3 := bel2.setCell (p := ⟨w.heap.size + 2, 0, none⟩) (by show w.heap.size ≤ w.heap.size + 2; omega) (.slice a' rs.length G)
  replace s3 := hide s3
  replace hX := hide hX
  clear s2 R1 R2 s1 B1 c hs
  go_wp2_with fail
  exact bodyPost_ret (v := .tuple #[.agg #[.slice a' rs.length G], .int .i64 E]) (by simp [results, Try.results14, go_sem, r0]) rfl ⟨rs, a', G, rfl, hX.out, s3.out, bel3⟩

end Go.Proofs.Ytgncadehaificaa

/-
  The contracts of package shelf over shelves as plain lists: where the parts lie is not told.
-/
namespace Go.Proofs.Ytgncadehaificaa
open Go.RowKit

/-- The rows from the address on are the plain rows C. -/
structure IsS (W : World) (a : Option Addr) (G : Nat) (C : List Rw) : Prop where
  ex : ∃ rs : List Lr, rs.map Lr.rw = C ∧ SlR W a G rs

theorem IsS.call {W W' : World} {a : Option Addr} {G : Nat} {C : List Rw} (h : IsS W a G C) (hb : Below W.heap.size W W') : IsS W' a G C := by
  obtain ⟨rs, e, s⟩ := h.ex
  exact ⟨rs, e, s.call hb⟩

theorem IsS.keep {W W' : World} {a : Option Addr} {G B : Nat} {C : List Rw} (h : IsS W a G C) (hb : Below B W W') (hB : W.heap.size ≤ B) : IsS W' a G C := by
  obtain ⟨rs, e, s⟩ := h.ex
  exact ⟨rs, e, s.keep hb hB⟩

theorem IsS.alloc {W : World} {a : Option Addr} {G : Nat} {C : List Rw} (h : IsS W a G C) (o : Obj) : IsS (W.alloc o) a G C := by
  obtain ⟨rs, e, s⟩ := h.ex
  exact ⟨rs, e, s.alloc o⟩

theorem IsS.drewN {W : World} {a : Option Addr} {G : Nat} {C : List Rw} (h : IsS W a G C) (n : Nat) : IsS (W.drewN n) a G C := by
  obtain ⟨rs, e, s⟩ := h.ex
  exact ⟨rs, e, s.drewN n⟩

theorem IsS.of {W : World} {a : Option Addr} {G : Nat} {l : List Lr} (h : SlR W a G l) : IsS W a G (l.map Lr.rw) := ⟨l, rfl, h⟩

/-- One row of a shelf: its cells, and what they lead to. -/
theorem IsS.at {W : World} {a : Option Addr} {G : Nat} {C : List Rw} (h : IsS W a G C) (k : Nat) (hk : k < C.length) :
    ∃ (b off : Nat) (r : Lr), a = some ⟨b, off, none⟩ ∧ b < W.heap.size ∧ W.cell? ⟨b, off + k * 2, none⟩ = some (.slice r.ba r.bs.length r.bc) ∧ W.cell? ⟨b, off + k * 2 + 1, none⟩ = some (.slice r.ha r.hd.length r.hc) ∧ r.Good W ∧ r.rw = C.getD k rw0 := by
  obtain ⟨rs, rfl, s⟩ := h.ex
  rw [List.length_map] at hk
  obtain ⟨b, off, rfl, hb⟩ := s.where (by intro e; rw [e] at hk; simp at hk)
  obtain ⟨e0, e1, g⟩ := s.at k rs[k] (List.getElem?_eq_getElem hk)
  refine ⟨b, off, rs[k], rfl, hb, e0, e1, g, ?_⟩
  rw [List.getD, List.getElem?_map, List.getElem?_eq_getElem hk]
  rfl

/-- What is owned from here on is owned from further down on. -/
theorem ownDown {w : World} {base base' : Nat} {e : TypeId} {size n : Nat} {v : Value} {xs : List Value} (h : w.ownsRow base e size v n xs) (hb : base' ≤ base) : w.ownsRow base' e size v n xs := by
  refine ⟨h.1, ?_⟩
  rcases h.2 with h0 | ⟨g, cap, cur, e1, h1, h2⟩
  · exact .inl h0
  · exact .inr ⟨g, cap, cur, e1, Nat.le_trans hb h1, h2⟩

/-- Two cells and more do not lie in a block of one. -/
theorem Row.offOne {w : World} {ao : Option Addr} {g : Nat} {C : List Value} {c : Value} {t : TypeId} (h : Row w ao C) (B : Blk w g [c] t) (hC : 2 ≤ C.length) : Off g ao := by
  obtain ⟨b, off, rfl, hb, hc⟩ := h.at (by intro e; rw [e] at hC; simp at hC)
  intro ad e
  cases e
  intro e
  have e : b = g := e
  subst e
  have h0 := hc 0 C[0] (List.getElem?_eq_getElem (by omega))
  have h1 := hc 1 C[1] (List.getElem?_eq_getElem (by omega))
  rw [B.cell] at h0 h1
  have l0 := (List.getElem?_eq_some_iff.1 h0).1
  have l1 := (List.getElem?_eq_some_iff.1 h1).1
  simp at l0 l1

/-- A shelf's box is written; its rows, and another's, stay. -/
theorem IsS.wrote {w : World} {a : Option Addr} {G g : Nat} {C : List Rw} {a1 : Option Addr} {n1 c1 : Nat} {u : Value} (h : IsS w a G C) (B : Blk w g [.slice a1 n1 c1] 24) (hC : C ≠ []) : IsS (w.setCell ⟨g, 0, none⟩ u) a G C := by
  obtain ⟨rs, rfl, s⟩ := h.ex
  have grow := grownSet (grownRefl w (some g)) 0 u
  have hl := flat_length Lr.two rs
  have hp : 0 < rs.length := by
    cases rs with
    | nil => simp at hC
    | cons x r => simp
  exact ⟨rs, rfl, ⟨⟨s.sl.row.off grow (s.sl.row.offOne B (by rw [hl]; omega)), s.sl.le, s.sl.max, s.sl.nil⟩, fun r hr => (s.good r hr).offSl grow B (onlyOne _ _ _)⟩⟩

/-- What a function answers that makes a shelf of one. -/
def Makes (E : Int) (C : List Rw) (W : World) (e : Ending) (w' : World) : Prop :=
  ∃ a' G', e = .returned (.tuple #[.agg #[.slice a' C.length G'], .int .i64 E]) ∧ IsS w' a' G' C ∧ Below W.heap.size W w'

theorem makes_of {E : Int} {C : List Rw} {W : World} {e : Ending} {w' : World} (h : ∃ rs a' G, e = .returned (.tuple #[.agg #[.slice a' rs.length G], .int .i64 E]) ∧ rs.map Lr.rw = C ∧ SlR w' a' G rs ∧ Below W.heap.size W w') : Makes E C W e w' := by
  obtain ⟨rs, a', G, he, rfl, s, b⟩ := h
  exact ⟨a', G, by rw [he, List.length_map], ⟨rs, rfl, s⟩, b⟩

theorem check_is {C : List Rw} {a : Option Addr} {G : Nat} {W : World} (h : IsS W a G C) :
    Calls Try.prog 17 #[.agg #[.slice a C.length G]] W fun e w' => e = .returned (.int .i64 (shelfE C)) ∧ Below W.heap.size W w' := by
  obtain ⟨rs, rfl, s⟩ := h.ex
  rw [List.length_map]
  exact sCheck_any rs a G W s

theorem same_is {C D : List Rw} {a b : Option Addr} {G H : Nat} {W : World} (h : IsS W a G C) (k : IsS W b H D) (hl : C.length ≤ 140737488355328) :
    Calls Try.prog 18 #[.agg #[.slice a C.length G], .agg #[.slice b D.length H]] W fun e w' => e = .returned (.bool (sameSh C D)) ∧ Below W.heap.size W w' := by
  obtain ⟨rs, rfl, s⟩ := h.ex
  obtain ⟨qs, rfl, t⟩ := k.ex
  rw [List.length_map] at hl
  rw [List.length_map, List.length_map]
  exact sSame_any rs qs a b G H W s t hl

theorem all_is {C : List Rw} {a : Option Addr} {G : Nat} {W : World} (s : Int) (h : IsS W a G C) :
    Calls Try.prog 10 #[.agg #[.slice a C.length G], .int .i64 s] W fun e w' => ∃ a' G', e = .returned (.tuple #[.slice a' (allL C s).length G', .int .i64 (allE C s)]) ∧
      w'.ownsRow W.heap.size 44 2 (.slice a' (allL C s).length G') (allL C s).length (cellsP (allL C s)) ∧ Below W.heap.size W w' := by
  obtain ⟨rs, rfl, t⟩ := h.ex
  rw [List.length_map]
  exact sAll_any rs a G s W t

def freshL : List Rw := [rw0, rw0, rw0, rw0]

theorem new_is (W : World) :
    Calls Try.prog 20 #[] W fun e w' => ∃ a' G', e = .returned (.agg #[.slice a' 4 G']) ∧ IsS w' a' G' freshL ∧ Below W.heap.size W w' := by
  refine (sNew_any W).mono ?_
  rintro e w' ⟨a', G', rfl, s, b⟩
  exact ⟨a', G', rfl, ⟨_, rfl, s⟩, b⟩

theorem put_is {C : List Rw} {a : Option Addr} {G : Nat} {W : World} (L : List En) (la : Option Addr) (lc : Nat) (h : IsS W a G C) (hL : SlW En.cells W la lc L) (few : L.length ≤ 140737488355328) :
    Calls Try.prog 11 #[.agg #[.slice a C.length G], .slice la L.length lc] W (Makes (chE C (bputE C L)) (chL C (bputE C L) (bputL C L)) W) := by
  obtain ⟨rs, rfl, t⟩ := h.ex
  rw [List.length_map]
  exact (sPut_any rs a G L la lc W t hL few).mono fun e w' h => makes_of h

theorem seal_is {C : List Rw} {a : Option Addr} {G : Nat} {W : World} (s n : Int) (h : IsS W a G C) :
    Calls Try.prog 12 #[.agg #[.slice a C.length G], .int .i64 s, .int .i64 n] W (Makes (chE C (sealE C s n)) (chL C (sealE C s n) (sealL C s n)) W) := by
  obtain ⟨rs, rfl, t⟩ := h.ex
  rw [List.length_map]
  exact (sSeal_any rs a G s n W t).mono fun e w' h => makes_of h

theorem merge_is {C : List Rw} {a : Option Addr} {G : Nat} {W : World} (s n : Int) (h : IsS W a G C) :
    Calls Try.prog 13 #[.agg #[.slice a C.length G], .int .i64 s, .int .i64 n] W (Makes (chE C (mrgE C s n)) (chL C (mrgE C s n) (mrgL C s n)) W) := by
  obtain ⟨rs, rfl, t⟩ := h.ex
  rw [List.length_map]
  exact (sMerge_any rs a G s n W t).mono fun e w' h => makes_of h

theorem drop_is {C : List Rw} {a : Option Addr} {G : Nat} {W : World} (n : Int) (h : IsS W a G C) :
    Calls Try.prog 14 #[.agg #[.slice a C.length G], .int .i64 n] W (Makes (chE C (dropE n)) (chL C (dropE n) (dropL C n)) W) := by
  obtain ⟨rs, rfl, t⟩ := h.ex
  rw [List.length_map]
  exact (sDrop_any rs a G n W t).mono fun e w' h => makes_of h

end Go.Proofs.Ytgncadehaificaa

/-
  slices.Clone at bools: a slice of the call's own with the same values.
-/
namespace Go.Proofs.Ytgncadehaificaa
open Go.RowKit

set_option maxHeartbeats 1000000 in
set_option maxRecDepth 100000 in
theorem clone_any (ao : Option Addr) (cap : Nat) (l : List Bool) (w : World) (hr : Sl w ao cap (l.map Value.bool)) (hl : l.length ≤ 140737488355328) :
    Calls Try.prog 127 #[.slice ao l.length cap] w fun e w' =>
      ∃ v', e = .returned v' ∧ w'.ownsRow w.heap.size 4 1 v' l.length (l.map Value.bool) ∧ Below w.heap.size w w' := by
  obtain ⟨i0, hi, hz0, hz1, hz2⟩ := info_parts infoBool
  have q : ∀ (w : World) (a : Option Addr) (n c n' c' : Nat), (binOp .eql 81 (.slice a n c) (.slice none n' c')).run Try.prog w = .ok (.bool a.isNone) w := fun w a n c n' c' => Lib.run_eql_slice_nil w _ _ a n c n' c' Try.underlying81
  cases ao with
  | none =>
    obtain ⟨h1, rfl⟩ := hr.src0 rfl
    obtain rfl : l = [] := by simpa using h1
    clear h1
    go_enter Try.func127, Try.ntmps127
    go_wp2_with fail
    go_ret
    exact ⟨_, rfl, ⟨rfl, .inl ⟨rfl, rfl⟩⟩, Below.refl _ _⟩
  | some ad =>
    have own0 : (w.alloc (.cells #[] 4)).ownsRow w.heap.size 4 1 (.slice (some ⟨w.heap.size, 0, none⟩) 0 0) 0 [] := by
      have hB := Blk.laid w [] 4 _ rfl
      exact ownOfBlk hB w.heap.size (Nat.le_refl _) 0 (Nat.le_refl _) (by decide)
    have belA := (Below.refl w.heap.size w).alloc (Nat.le_refl _) (Obj.cells #[] 4)
    by_cases h0 : l = []
    · subst h0
      have hs := hr.alloc (.cells #[] 4)
      have hx := hs.src
      have hy := hs.src0
      have bA : w.heap.size ≤ (w.alloc (.cells #[] 4)).heap.size := by simp
      clear hr hs
      go_enter Try.func127, Try.ntmps127
      go_wp2_with (at_builtin; refine wpList_append_fits_any _ rfl (.tmp 5) (.tmp 6) 81 rfl w.heap.size 4 i0 1 Try.underlying81 hi hz1 w.heap.size 0 0 [] rfl own0 (some ad) 0 cap [] rfl rfl hy hx (by simp) (Nat.le_refl _) ?_)
      intro w1 own1 grow1
      have bel1 := belowGrown belA own0 grow1 (Nat.le_refl _) bA
      go_wp2_with fail
      go_ret
      exact ⟨_, rfl, own1, bel1⟩
    · have hpos : 0 < l.length := List.length_pos_iff.2 h0
      have hs := hr.alloc (.cells #[] 4)
      have hsrc := hs.src ad rfl
      have one := bools_one l
      have bA : w.heap.size ≤ (w.alloc (.cells #[] 4)).heap.size := by simp
      clear hr hs h0
      go_enter Try.func127, Try.ntmps127
      go_wp2_with (at_builtin; refine wpList_append_went _ rfl (.tmp 5) (.tmp 6) 81 rfl w.heap.size 4 i0 (.bool false) 1 1 Try.underlying81 hi hz0 hz1 hz2 rfl (by decide) _ 0 _ rfl own0 ad l.length cap (l.map Value.bool) rfl (by simp) hsrc one hpos (by unfold maxLen; omega) (by omega) bA ?_)
      intro v' w1 own1 grow1 went1
      have bel1 := belowGrown belA own0 grow1 (Nat.le_refl _) bA
      obtain ⟨a1, c1, rfl, t1, n1⟩ := ownSl own1
      go_wp2_with fail
      go_ret
      exact ⟨_, rfl, own1, bel1⟩

end Go.Proofs.Ytgncadehaificaa

/-
  'in' of the reference: is a number from one to another one; it touches no memory.
-/
namespace Go.Proofs.Ytgncadehaificaa
open Go.RowKit

theorem in_any (n a b : Int) (w : World) :
    Calls Try.prog 64 #[.int .i64 n, .int .i64 a, .int .i64 b] w fun e w' => e = .returned (.bool (decide (a ≤ n ∧ n ≤ b))) ∧ w = w' := by
  by_cases h1 : a ≤ n
  · by_cases h2 : n ≤ b
    · have e : decide (a ≤ n ∧ n ≤ b) = true := by simp [h1, h2]
      rw [e]
      clear e
      go_enter Try.func64, Try.ntmps64
      go_wp2
      go_ret
      exact ⟨rfl, rfl⟩
    · have e : decide (a ≤ n ∧ n ≤ b) = false := by simp [h2]
      rw [e]
      clear e
      go_enter Try.func64, Try.ntmps64
      go_wp2
      go_ret
      exact ⟨rfl, rfl⟩
  · have e : decide (a ≤ n ∧ n ≤ b) = false := by simp [h1]
    rw [e]
    clear e
    go_enter Try.func64, Try.ntmps64
    go_wp2
    go_ret
    exact ⟨rfl, rfl⟩

end Go.Proofs.Ytgncadehaificaa
