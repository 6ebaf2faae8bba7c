/-
  shelf.Merge: what it answers of a shelf, whatever it is.
-/
import Derived.Test.YtcjdpilmhlfmfaaGreatDoorHSMerge
import Derived.Test.YtcjdpilmhlfmfaaGreatDoorHSDelF
import Derived.Test.YtcjdpilmhlfmfaaGreatDoorP27
import Derived.Test.YtcjdpilmhlfmfaaGreatDoorP11
import Derived.Test.YtcjdpilmhlfmfaaGreatDoorHChange
import Derived.Test.YtcjdpilmhlfmfaaGreatDoorP19
import Derived.Test.YtcjdpilmhlfmfaaGreatDoorP25
import Derived.Test.YtcjdpilmhlfmfaaGreatDoorHQRange
import Derived.Test.YtcjdpilmhlfmfaaGreatDoorP13
import Derived.Test.YtcjdpilmhlfmfaaGreatDoorP14
import Derived.Test.YtcjdpilmhlfmfaaGreatDoorP12
import Derived.Test.YtcjdpilmhlfmfaaGreatDoorP08
namespace Go.Proofs.YtcjdpilmhlfmfaaGreatDoor
open Go.RowKit

theorem merge1_any (n : Int) (cb : Nat) (l : List Rw) (hE : shelfE l = 0) (base box g k : Nat) (rs : List Lr) (W : World) (hk : k < 4) (Bc : Blk W cb [.int .i64 n] 3) (C : Copied l base box g rs W) :
    Calls Tryz.prog 153 #[.pointer (some ⟨g, k * 2, none⟩), .pointer (some ⟨cb, 0, none⟩)] W (Does (mrgE l k n) (mrgL l k n) base box g W) := by
  have hR := right_of hE
  obtain ⟨r, hr, hrw, e0, e1, oR, f1, f2⟩ := C.row hR k hk
  have d0 : W.cell? ⟨cb, 0, none⟩ = some (.int .i64 n) := Bc.cell 0
  have hi : inI (k : Int) 0 3 = true := by unfold inI; simp; omega
  have hbk : (l.getD k rw0).blocks = r.bs.map Lb.b := by rw [← hrw]; rfl
  have hhd : (l.getD k rw0).head = r.hd := by rw [← hrw]; rfl
  cases hn : inI n 0 ((r.bs.length : Int) - 2) with
  | false =>
    have e : mrgE l k n = 3 := by unfold mrgE; rw [hi, Int.toNat_natCast, hbk, List.length_map, hn]; rfl
    rw [e]
    refine (merge1_range n cb g k r.bs.length r.bc r.ba W d0 e0 f1 hn).mono ?_
    rintro e W' ⟨rfl, q, rfl⟩
    exact ⟨rfl, belowDrewN (Below.refl _ _) _, fun h => by cases h⟩
  | true =>
    have hn2 : 0 ≤ n ∧ n ≤ (r.bs.length : Int) - 2 := by unfold inI at hn; simpa using hn
    obtain ⟨q, rfl⟩ : ∃ q : Nat, n = q := ⟨n.toNat, by omega⟩
    obtain ⟨x, hx⟩ : ∃ x, r.bs[q]? = some x := ⟨_, List.getElem?_eq_getElem (by omega)⟩
    obtain ⟨y, hy⟩ : ∃ y, r.bs[q + 1]? = some y := ⟨_, List.getElem?_eq_getElem (by omega)⟩
    have bx : blkAt (l.getD k rw0) q = x.b := by unfold blkAt; rw [hbk]; simp [List.getD, hx]
    have b_y : blkAt (l.getD k rw0) (q + 1) = y.b := by unfold blkAt; rw [hbk]; simp [List.getD, hy]
    have e : mrgE l k q = mergeE x.b y.b := by unfold mrgE; rw [hi, Int.toNat_natCast, Int.toNat_natCast, hbk, List.length_map, hn, bx, b_y]; rfl
    refine (merge1_go q cb l base box g k (r.bs.length - 1) rs r x y W hR C hr Bc (by omega) (by omega) (by omega) hx hy).mono ?_
    rintro e' W' ⟨rfl, b, hf⟩
    refine ⟨by rw [e], b, fun hz => ?_⟩
    obtain ⟨rs', p1, p2, p3, p4⟩ := hf (by rw [← e]; exact hz)
    refine ⟨rs', p1, p2, ?_, p4⟩
    unfold mrgL
    rw [if_pos hz, p3, Int.toNat_natCast, Int.toNat_natCast, bx, b_y, hbk, hhd, List.map_take, List.map_drop]

set_option maxHeartbeats 1000000 in
set_option maxRecDepth 100000 in
/-- Merge, whatever it is handed. -/
theorem sMerge_own (l : List Lr) (ao : Option Addr) (cap : Nat) (s n : Int) (w : World) (hs : SlR w ao cap l) :
    Calls Tryz.prog 118 #[.agg #[.slice ao l.length cap], .int .i64 s, .int .i64 n] w fun e w' => ∃ rs a' G, e = .returned (.tuple #[.agg #[.slice a' rs.length G], .int .i64 (chE (l.map Lr.rw) (mrgE (l.map Lr.rw) s n))]) ∧ rs.map Lr.rw = chL (l.map Lr.rw) (mrgE (l.map Lr.rw) s n) (mrgL (l.map Lr.rw) s n) ∧ SlR w' a' G rs ∧ HdLo w.heap.size rs ∧ Below w.heap.size w w' := by
  have B1 := (Blk.laid (w.alloc (.cells #[.slice ao l.length cap] 24)) [.int .i64 n] 3 (w.heap.size + 1) (by simp)).alc (.cells #[.slice none 0 0] 24)
  have R1 := Blk.laid ((w.alloc (.cells #[.slice ao l.length cap] 24)).alloc (.cells #[.int .i64 n] 3)) [.slice none 0 0] 24 (w.heap.size + 2) (by simp)
  have bel1 := below3 w (.cells #[.slice ao l.length cap] 24) (.cells #[.int .i64 n] 3) (.cells #[.slice none 0 0] 24)
  have s1 := hs.keep bel1 (Nat.le_refl _)
  have c := fun W (S : SlR W ao cap l) (B : Blk W (w.heap.size + 1) [.int .i64 n] 3) => changeRowM (.pointer (some ⟨w.heap.size + 1, 0, none⟩)) s (mrgE (l.map Lr.rw) s n) (mrgL (l.map Lr.rw) s n) l ao cap W S
    (fun h => by unfold mrgE; rw [if_pos h])
    (fun hE W2 base box g rs hb b2 C k hk hk4 => by
      subst hk
      exact merge1_any n (w.heap.size + 1) (l.map Lr.rw) hE base box g k rs W2 hk4 (B.keep b2 B.lt) C)
  generalize chL (l.map Lr.rw) (mrgE (l.map Lr.rw) s n) (mrgL (l.map Lr.rw) s n) = X at *
  generalize chE (l.map Lr.rw) (mrgE (l.map Lr.rw) s n) = E at *
  generalize l.length = m at *
  go_enter Tryz.func118, Tryz.ntmps118
  go_wp2_with fail
  generalize ((w.alloc _).alloc _).alloc _ = w1 at *
  go_at_call 150
  refine (c _ s1 B1).mono ?_
  rintro e w2 ⟨rs, a', G, rfl, hX, s2, fr, b2⟩
  have R2 := R1.keep b2 R1.lt
  have bel2 := belowCall bel1 b2
  have r0 : w2.cell? ⟨w.heap.size + 2, 0, none⟩ = some (.slice none 0 0) := R2.cell 0
  have r1 := R2.free 0
  have s3 := s2.written (onlyOne none 0 0) R2 (i := 0) (u := .slice a' rs.length G) (fun ad e => by have := fr.1 ad e; have := R1.lt; omega)
  have bel3 := bel2.setCell (p := ⟨w.heap.size + 2, 0, none⟩) (by show w.heap.size ≤ w.heap.size + 2; omega) (.slice a' rs.length G)
  have hlo := hide (fr.2.mono bel1.size)
  replace s3 := hide s3
  replace hX := hide hX
  clear s2 R1 R2 s1 B1 c hs
  go_wp2_with fail
  exact bodyPost_ret (v := .tuple #[.agg #[.slice a' rs.length G], .int .i64 E]) (by simp [results, Tryz.results118, go_sem, r0]) rfl ⟨rs, a', G, rfl, hX.out, s3.out, hlo.out, bel3⟩

end Go.Proofs.YtcjdpilmhlfmfaaGreatDoor

/-
  shelf.Drop: what it answers of a shelf, whatever it is.
-/
namespace Go.Proofs.YtcjdpilmhlfmfaaGreatDoor
open Go.RowKit

set_option maxHeartbeats 1000000 in
set_option maxRecDepth 100000 in
theorem drop1_range (n : Int) (cb box : Nat) (W : World) (d0 : W.cell? ⟨cb, 0, none⟩ = some (.int .i64 n)) (h : inI n 0 100001 = false) :
    Calls Tryz.prog 156 #[.pointer (some ⟨box, 0, none⟩), .pointer (some ⟨cb, 0, none⟩)] W fun e W' => e = .returned (.int .i64 3) ∧ W' = W := by
  by_cases h0 : n < 0
  · clear h
    go_enter Tryz.func156, Tryz.ntmps156
    go_wp2_with fail
    go_ret
    exact ⟨rfl, rfl⟩
  · have h1 : 100001 < n := by unfold inI at h; simp at h; omega
    clear h
    go_enter Tryz.func156, Tryz.ntmps156
    go_wp2_with fail
    go_ret
    exact ⟨rfl, rfl⟩

theorem keptB_rw (n : Int) (l : List Lb) : (keptB n l).map Lb.b = (l.map Lb.b).filter (fun b => !decide (b.to < n)) := by
  unfold keptB overB
  rw [List.filter_map]
  rfl

theorem drop_step {n : Int} {l : List Rw} {rs : List Lr} {r y : Lr} {i : Nat} (h : rs.map Lr.rw = (l.take i).map (dropRw n) ++ l.drop i) (hl : rs.length = l.length) (hr : rs[i]? = some r) (hy : y.rw = dropRw n r.rw) :
    (rs.set i y).map Lr.rw = (l.take (i + 1)).map (dropRw n) ++ l.drop (i + 1) := by
  have hi : i < l.length := by rw [← hl]; exact (List.getElem?_eq_some_iff.1 hr).1
  have e : (rs.map Lr.rw)[i]? = some r.rw := by rw [List.getElem?_map, hr]; rfl
  have lt : ((l.take i).map (dropRw n)).length = i := by rw [List.length_map, List.length_take]; omega
  rw [h, List.getElem?_append_right (by omega), lt, Nat.sub_self, List.getElem?_drop, Nat.add_zero] at e
  have hd : l.drop i = r.rw :: l.drop (i + 1) := by
    obtain ⟨hk', e'⟩ := List.getElem?_eq_some_iff.1 e
    rw [← e']
    exact List.drop_eq_getElem_cons hk'
  rw [List.map_set, h, List.set_append_right _ _ (by omega), lt, Nat.sub_self, hd, List.set_cons_zero, hy, List.take_add_one, e, List.map_append, List.append_assoc]
  rfl

set_option maxHeartbeats 2000000 in
set_option maxRecDepth 100000 in
theorem drop1_ok (n : Int) (cb : Nat) (l : List Rw) (base box g : Nat) (rs : List Lr) (W : World) (hR : Right l) (Bc : Blk W cb [.int .i64 n] 3) (hcb : cb < base) (C : Copied l base box g rs W) (h : inI n 0 100001 = true) :
    Calls Tryz.prog 156 #[.pointer (some ⟨box, 0, none⟩), .pointer (some ⟨cb, 0, none⟩)] W (Does 0 (l.map (dropRw n)) base box g W) := by
  have d0 : W.cell? ⟨cb, 0, none⟩ = some (.int .i64 n) := Bc.cell 0
  have h0 : ¬ n < 0 := by unfold inI at h; simp at h; omega
  have h1 : ¬ 100001 < n := by unfold inI at h; simp at h; omega
  have d1 : W.cell? ⟨box, 0, none⟩ = some (.slice (some ⟨g, 0, none⟩) 4 4) := C.out.cell 0
  have S0 := CutS.start C hR
  have l4 : rs.length = l.length := by rw [← C.same, List.length_map]
  have hl := hR.four
  have m0 : rs.map Lr.rw = (l.take 0).map (dropRw n) ++ l.drop 0 := by rw [C.same]; simp
  have b0 := Below.refl base W
  have hbase := C.base
  replace S0 := hide S0
  replace l4 := hide l4
  replace hl := hide hl
  replace m0 := hide m0
  clear h C hR
  go_enter Tryz.func156, Tryz.ntmps156
  go_wp2_with fail
  go_loopw [19] (fun s wr => ∃ (i : Nat) (rs' : List Lr), i ≤ 4 ∧ s = .int .i64 i ∧ Hid (rs'.length = l.length) ∧ Hid (rs'.map Lr.rw = (l.take i).map (dropRw n) ++ l.drop i) ∧ Hid (CutS base box g i rs' wr) ∧ Below base W wr) (fun s _ => 4 - (intOf s).toNat)
  case atStart => exact ⟨0, rs, by omega, rfl, l4, m0, S0, b0⟩
  case round =>
    clear S0 l4 m0 b0 d0 d1
    obtain ⟨i, rs', hi, rfl, l4, m0, S0, b0⟩ := hrel
    by_cases hlt : i < 4
    · obtain ⟨r, hr⟩ : ∃ r, rs'[i]? = some r := ⟨_, List.getElem?_eq_getElem (by rw [l4.out, hl.out]; exact hlt)⟩
      obtain ⟨-, f1, f2, ho⟩ := S0.out.each i r hr
      have oR := ho (Nat.le_refl _)
      obtain ⟨bg, eb, lo, B⟩ := oR.bs
      have Bc1 := Bc.keep b0 hcb
      have d1 : wr.cell? ⟨box, 0, none⟩ = some (.slice (some ⟨g, 0, none⟩) 4 4) := S0.out.out.cell 0
      obtain ⟨m, hm⟩ : ∃ m, m = r.bs.length := ⟨_, rfl⟩
      have e0 : wr.cell? ⟨g, i * 2, none⟩ = some (.slice (some ⟨bg, 0, none⟩) m m) := by
        rw [S0.out.rows.cell]
        refine (flat_get Lr.two _ i 0 _ hr (by decide)).trans ?_
        show some (Value.slice r.ba r.bs.length r.bc) = _
        rw [eb, oR.bc, ← hm]
      have c := fun W B Bc => deleteF r.bs n bg cb m W B Bc hm.symm (by rw [hm, ← oR.bc]; exact f1)
      have neg : ∀ j, some bg = some j → j ≠ g := by
        intro j e
        obtain rfl := Option.some.inj e
        rintro rfl
        exact absurd (blkType B S0.out.rows) (by decide)
      have sub : ∀ x ∈ keptB n r.bs, x ∈ r.bs := fun x hx => (List.mem_filter.1 hx).1
      have kr : (⟨keptB n r.bs, some ⟨bg, 0, none⟩, m, r.hd, r.ha, r.hc⟩ : Lr).rw = dropRw n r.rw := by unfold Lr.rw dropRw; simp only [keptB_rw]
      generalize keptB n r.bs = kept at *
      have hb1 := S0.out.base
      replace hr := hide hr
      replace hm := hide hm
      replace eb := hide eb
      replace neg := hide neg
      replace sub := hide sub
      replace kr := hide kr
      clear oR ho
      go_wp2_with fail
      go_at_call 158
      refine (c _ B Bc1).mono ?_
      rintro e w2 ⟨tail, rfl, hlen, B2, grow2⟩
      have G2 := S0.out.rows.grown grow2 neg.out
      have e2 : w2.cell? ⟨g, i * 2, none⟩ = some (.slice (some ⟨bg, 0, none⟩) m m) := by rw [G2.cell, ← S0.out.rows.cell]; exact e0
      have fz := G2.free (i * 2)
      obtain ⟨S3, b3⟩ := S0.out.step hr.out eb.out hm.out grow2 B2 hlen sub.out
      have m3 := hide (drop_step m0.out l4.out hr.out kr.out)
      have b4 := b0.trans b3
      replace S3 := hide S3
      replace hlen := hide hlen
      clear B B2 grow2 c Bc1 G2 b3 d1 e0
      go_wp2_with fail
      go_roundw
      case rel => exact ⟨i + 1, _, by omega, by go_num, hide (by rw [List.length_set]; exact l4.out), m3, S3, b4⟩
      case measure => simp [intOf]; omega
    · obtain rfl : i = 4 := by omega
      have m1 := m0.out
      rw [List.take_of_length_le (by rw [hl.out]; exact Nat.le_refl _), List.drop_eq_nil_of_le (by rw [hl.out]; exact Nat.le_refl _), List.append_nil] at m1
      have F := hide S0.out.fin
      have O := S0.out.out
      have hlo := hide S0.out.hdLo
      replace m1 := hide m1
      clear S0
      go_wp2_with fail
      go_ret
      exact ⟨rfl, b0, fun _ => ⟨rs', F.out, ⟨by rw [l4.out, hl.out], hlo.out⟩, m1.out, O⟩⟩

theorem drop1_any (n : Int) (cb : Nat) (l : List Rw) (base box g : Nat) (rs : List Lr) (W : World) (hR : Right l) (Bc : Blk W cb [.int .i64 n] 3) (hcb : cb < base) (C : Copied l base box g rs W) :
    Calls Tryz.prog 156 #[.pointer (some ⟨box, 0, none⟩), .pointer (some ⟨cb, 0, none⟩)] W (Does (dropE n) (dropL l n) base box g W) := by
  cases h : inI n 0 100001 with
  | false =>
    have e : dropE n = 3 := by unfold dropE; rw [if_pos h]
    rw [e]
    refine (drop1_range n cb box W (Bc.cell 0) h).mono ?_
    rintro e W' ⟨rfl, rfl⟩
    exact ⟨rfl, Below.refl _ _, fun h => by cases h⟩
  | true =>
    have e : dropE n = 0 := by unfold dropE; rw [h]; rfl
    have e2 : dropL l n = l.map (dropRw n) := by unfold dropL; rw [if_pos e]
    rw [e, e2]
    exact drop1_ok n cb l base box g rs W hR Bc hcb C h

set_option maxHeartbeats 1000000 in
set_option maxRecDepth 100000 in
/-- Drop, whatever it is handed. -/
theorem sDrop_own (l : List Lr) (ao : Option Addr) (cap : Nat) (n : Int) (w : World) (hs : SlR w ao cap l) :
    Calls Tryz.prog 119 #[.agg #[.slice ao l.length cap], .int .i64 n] w fun e w' => ∃ rs a' G, e = .returned (.tuple #[.agg #[.slice a' rs.length G], .int .i64 (chE (l.map Lr.rw) (dropE n))]) ∧ rs.map Lr.rw = chL (l.map Lr.rw) (dropE n) (dropL (l.map Lr.rw) n) ∧ SlR w' a' G rs ∧ HdLo w.heap.size rs ∧ Below w.heap.size w w' := by
  have B1 := (Blk.laid (w.alloc (.cells #[.slice ao l.length cap] 24)) [.int .i64 n] 3 (w.heap.size + 1) (by simp)).alc (.cells #[.slice none 0 0] 24)
  have R1 := Blk.laid ((w.alloc (.cells #[.slice ao l.length cap] 24)).alloc (.cells #[.int .i64 n] 3)) [.slice none 0 0] 24 (w.heap.size + 2) (by simp)
  have bel1 := below3 w (.cells #[.slice ao l.length cap] 24) (.cells #[.int .i64 n] 3) (.cells #[.slice none 0 0] 24)
  have s1 := hs.keep bel1 (Nat.le_refl _)
  have c := fun W (S : SlR W ao cap l) (B : Blk W (w.heap.size + 1) [.int .i64 n] 3) => changeD (.pointer (some ⟨w.heap.size + 1, 0, none⟩)) (dropE n) (dropL (l.map Lr.rw) n) l ao cap W S
    (fun hE W2 base box g rs hb b2 C => drop1_any n (w.heap.size + 1) (l.map Lr.rw) base box g rs W2 (right_of hE) (B.keep b2 B.lt) (Nat.lt_of_lt_of_le B.lt hb) C)
  generalize chL (l.map Lr.rw) (dropE n) (dropL (l.map Lr.rw) n) = X at *
  generalize chE (l.map Lr.rw) (dropE n) = E at *
  generalize l.length = m at *
  go_enter Tryz.func119, Tryz.ntmps119
  go_wp2_with fail
  generalize ((w.alloc _).alloc _).alloc _ = w1 at *
  go_at_call 147
  refine (c _ s1 B1).mono ?_
  rintro e w2 ⟨rs, a', G, rfl, hX, s2, fr, b2⟩
  have R2 := R1.keep b2 R1.lt
  have bel2 := belowCall bel1 b2
  have r0 : w2.cell? ⟨w.heap.size + 2, 0, none⟩ = some (.slice none 0 0) := R2.cell 0
  have r1 := R2.free 0
  have s3 := s2.written (onlyOne none 0 0) R2 (i := 0) (u := .slice a' rs.length G) (fun ad e => by have := fr.1 ad e; have := R1.lt; omega)
  have bel3 := bel2.setCell (p := ⟨w.heap.size + 2, 0, none⟩) (by show w.heap.size ≤ w.heap.size + 2; omega) (.slice a' rs.length G)
  have hlo := hide (fr.2.mono bel1.size)
  replace s3 := hide s3
  replace hX := hide hX
  clear s2 R1 R2 s1 B1 c hs
  go_wp2_with fail
  exact bodyPost_ret (v := .tuple #[.agg #[.slice a' rs.length G], .int .i64 E]) (by simp [results, Tryz.results119, go_sem, r0]) rfl ⟨rs, a', G, rfl, hX.out, s3.out, hlo.out, bel3⟩

end Go.Proofs.YtcjdpilmhlfmfaaGreatDoor

/-
  The contracts of package shelf over shelves as plain lists: where the parts lie is not told.
-/
namespace Go.Proofs.YtcjdpilmhlfmfaaGreatDoor
open Go.RowKit

/-- The rows from the address on are the plain rows C. -/
structure IsS (W : World) (a : Option Addr) (G : Nat) (C : List Rw) : Prop where
  ex : ∃ rs : List Lr, rs.map Lr.rw = C ∧ SlR W a G rs

theorem IsS.call {W W' : World} {a : Option Addr} {G : Nat} {C : List Rw} (h : IsS W a G C) (hb : Below W.heap.size W W') : IsS W' a G C := by
  obtain ⟨rs, e, s⟩ := h.ex
  exact ⟨rs, e, s.call hb⟩

theorem IsS.keep {W W' : World} {a : Option Addr} {G B : Nat} {C : List Rw} (h : IsS W a G C) (hb : Below B W W') (hB : W.heap.size ≤ B) : IsS W' a G C := by
  obtain ⟨rs, e, s⟩ := h.ex
  exact ⟨rs, e, s.keep hb hB⟩

theorem IsS.alloc {W : World} {a : Option Addr} {G : Nat} {C : List Rw} (h : IsS W a G C) (o : Obj) : IsS (W.alloc o) a G C := by
  obtain ⟨rs, e, s⟩ := h.ex
  exact ⟨rs, e, s.alloc o⟩

/-- What is owned from here on is owned from further down on. -/
theorem ownDown {w : World} {base base' : Nat} {e : TypeId} {size n : Nat} {v : Value} {xs : List Value} (h : w.ownsRow base e size v n xs) (hb : base' ≤ base) : w.ownsRow base' e size v n xs := by
  refine ⟨h.1, ?_⟩
  rcases h.2 with h0 | ⟨g, cap, cur, e1, h1, h2⟩
  · exact .inl h0
  · exact .inr ⟨g, cap, cur, e1, Nat.le_trans hb h1, h2⟩

/-- Two cells and more do not lie in a block of one. -/
theorem Row.offOne {w : World} {ao : Option Addr} {g : Nat} {C : List Value} {c : Value} {t : TypeId} (h : Row w ao C) (B : Blk w g [c] t) (hC : 2 ≤ C.length) : Off g ao := by
  obtain ⟨b, off, rfl, hb, hc⟩ := h.at (by intro e; rw [e] at hC; simp at hC)
  intro ad e
  cases e
  intro e
  have e : b = g := e
  subst e
  have h0 := hc 0 C[0] (List.getElem?_eq_getElem (by omega))
  have h1 := hc 1 C[1] (List.getElem?_eq_getElem (by omega))
  rw [B.cell] at h0 h1
  have l0 := (List.getElem?_eq_some_iff.1 h0).1
  have l1 := (List.getElem?_eq_some_iff.1 h1).1
  simp at l0 l1

theorem shCheck_is {C : List Rw} {a : Option Addr} {G : Nat} {W : World} (h : IsS W a G C) :
    Calls Tryz.prog 77 #[.agg #[.slice a C.length G]] W fun e w' => e = .returned (.int .i64 (shelfE C)) ∧ Below W.heap.size W w' := by
  obtain ⟨rs, rfl, s⟩ := h.ex
  rw [List.length_map]
  exact sCheck_any rs a G W s

theorem all_is {C : List Rw} {a : Option Addr} {G : Nat} {W : World} (s : Int) (h : IsS W a G C) :
    Calls Tryz.prog 38 #[.agg #[.slice a C.length G], .int .i64 s] W fun e w' => ∃ a' G', e = .returned (.tuple #[.slice a' (allL C s).length G', .int .i64 (allE C s)]) ∧
      w'.ownsRow W.heap.size 50 2 (.slice a' (allL C s).length G') (allL C s).length (cellsP (allL C s)) ∧ Below W.heap.size W w' := by
  obtain ⟨rs, rfl, t⟩ := h.ex
  rw [List.length_map]
  exact sAll_any rs a G s W t

def freshL : List Rw := [rw0, rw0, rw0, rw0]

theorem new_is (W : World) :
    Calls Tryz.prog 68 #[] W fun e w' => ∃ a' G', e = .returned (.agg #[.slice a' 4 G']) ∧ IsS w' a' G' freshL ∧ Below W.heap.size W w' := by
  refine (sNew_any W).mono ?_
  rintro e w' ⟨a', G', rfl, s, b⟩
  exact ⟨a', G', rfl, ⟨_, rfl, s⟩, b⟩

end Go.Proofs.YtcjdpilmhlfmfaaGreatDoor

/-
  query.Range: what it answers, whatever it is handed; its points lie in memory of the call's own.
-/
namespace Go.Proofs.YtcjdpilmhlfmfaaGreatDoor
open Go.RowKit

theorem allL_len (C : List Rw) (s : Int) : (allL C s).length ≤ 40 := by
  unfold allL
  split
  · rename_i h
    unfold allE at h
    split at h
    · rename_i hz
      split at h
      · cases h
      · rename_i hi
        obtain ⟨k, rfl, hk⟩ := inI_nat (by simpa using hi)
        obtain ⟨h4, hm⟩ := shelfE_mem hz
        rw [Int.toNat_natCast]
        exact (checkE_zero (rowE_zero (hm _ (getD_mem (by omega)))).2.2).1
    · rename_i h0
      exact absurd h h0
  · simp

theorem allL_check (C : List Rw) (s : Int) : checkE (allL C s) = 0 := by
  unfold allL
  split
  · rename_i h
    unfold allE at h
    split at h
    · rename_i hz
      split at h
      · cases h
      · rename_i hi
        obtain ⟨k, rfl, hk⟩ := inI_nat (by simpa using hi)
        obtain ⟨h4, hm⟩ := shelfE_mem hz
        rw [Int.toNat_natCast]
        exact (rowE_zero (hm _ (getD_mem (by omega)))).2.2
    · rename_i h0
      exact absurd h h0
  · rfl

set_option maxHeartbeats 1000000 in
set_option maxRecDepth 100000 in
theorem range_is {C : List Rw} {a : Option Addr} {G cn : Nat} {w : World} (s f t : Int) (h : IsS w a G C) (hcn : cn = C.length) :
    Calls Tryz.prog 22 #[.agg #[.slice a cn G], .int .i64 s, .int .i64 f, .int .i64 t] w fun e w' => ∃ a' G', e = .returned (.tuple #[.slice a' (rngL (allL C s) f t).length G', .int .i64 (allE C s)]) ∧
      w'.ownsRow w.heap.size 50 2 (.slice a' (rngL (allL C s) f t).length G') (rngL (allL C s) f t).length (cellsP (rngL (allL C s) f t)) ∧ Below w.heap.size w w' := by
  have hl := allL_len C s
  have c1 := fun W (h : IsS W a G C) => all_is s h
  rw [← hcn] at c1
  have S1 := ((h.alloc (.cells #[.slice a cn G] 24)).alloc (.cells #[.int .i64 f] 3)).alloc (.cells #[.int .i64 t] 3)
  have Bf := (Blk.laid (w.alloc (.cells #[.slice a cn G] 24)) [.int .i64 f] 3 (w.heap.size + 1) (by simp)).alc (.cells #[.int .i64 t] 3)
  have Bt := Blk.laid ((w.alloc (.cells #[.slice a cn G] 24)).alloc (.cells #[.int .i64 f] 3)) [.int .i64 t] 3 (w.heap.size + 2) (by simp)
  have bel := below3 w (.cells #[.slice a cn G] 24) (.cells #[.int .i64 f] 3) (.cells #[.int .i64 t] 3)
  by_cases hE : allE C s = 0
  · rw [hE] at c1 ⊢
    obtain ⟨A, hA⟩ : ∃ A, A = allL C s := ⟨_, rfl⟩
    rw [← hA] at c1 hl ⊢
    obtain ⟨n, hn⟩ : ∃ n, n = A.length := ⟨_, rfl⟩
    rw [← hn] at c1 hl
    obtain ⟨m, hm⟩ : ∃ m, m = (rngL A f t).length := ⟨_, rfl⟩
    have hmn : m ≤ n := by rw [hm, hn]; exact rng_len A f t
    rw [← hm]
    replace hm := hide hm
    replace hn := hide hn
    clear hE hA hcn
    go_enter Tryz.func22, Tryz.ntmps22
    go_wp2_with fail
    go_at_call 38
    refine (c1 _ S1).mono ?_
    rintro e w2 ⟨a2, G2, rfl, o2, b2⟩
    replace Bf := Bf.keep b2 Bf.lt
    replace Bt := Bt.keep b2 Bt.lt
    replace bel := belowCall bel b2
    rcases ownSpare o2 with ⟨e2, rfl, rfl⟩ | ⟨g, G', sp, e2, hb, B, h1, h2, h3⟩
    · simp only [Value.slice.injEq, true_and] at e2
      obtain ⟨rfl, rfl⟩ := e2
      obtain rfl : m = 0 := by omega
      have cI := fun W h k m => indexR [] none 0 0 f t (w.heap.size + 1) (w.heap.size + 2) W h k m rfl (by decide)
      have cD : Calls Tryz.prog 54 #[.slice none 0 0, .func (.func 53) #[] #[.pointer (some ⟨w.heap.size + 1, 0, none⟩), .pointer (some ⟨w.heap.size + 2, 0, none⟩)]] w2 fun e w' => e = .returned (.slice none 0 0) ∧ Below w2.heap.size w2 w' := by
        go_enter Tryz.func54, Tryz.ntmps54
        go_wp2_with fail
        go_at_call 97
        refine (cI _ (SlP.ofNil _) Bf Bt).mono ?_
        rintro e w3 ⟨b3, ⟨rfl, _⟩ | ⟨k0, x0, _, hx0, _⟩⟩
        · go_wp2_with fail
          go_ret
          exact ⟨rfl, b3⟩
        · simp at hx0
      clear cI b2 o2
      go_wp2_with fail
      go_at_call 54
      refine cD.mono ?_
      rintro e w3 ⟨rfl, b3⟩
      go_wp2_with fail
      go_ret2
      exact ⟨none, 0, rfl, World.ownsRow_nil _ _ _ _, belowCall bel b3⟩
    · simp only [Value.slice.injEq, true_and] at e2
      obtain ⟨rfl, rfl⟩ := e2
      rw [cellsP_flat] at B h3
      have cD := deleteP A sp f t g (w.heap.size + 1) (w.heap.size + 2) n G2 w2 B Bf Bt hn.out.symm hl h1 (by unfold maxLen at h2; exact h2)
      rw [keptR_eq] at cD
      rw [← hm.out] at cD
      have h3' := hide h3
      have hbw : w.heap.size ≤ g := by simp at hb; omega
      clear b2 o2 B h3
      go_wp2_with fail
      go_at_call 54
      refine cD.mono ?_
      rintro e w3 ⟨tail, rfl, hlen, B3, gr3⟩
      have bel3 : Below w.heap.size w w3 := bel.grown gr3 bel.size (fun k hk => by obtain rfl := Option.some.inj hk; exact hbw)
      have own3 : w3.ownsRow w.heap.size 50 2 (.slice (some ⟨g, 0, none⟩) m G2) m (cellsP (rngL A f t)) := by
        rw [List.flatMap_append, List.append_assoc, ← cellsP_flat] at B3
        refine spareOwn hbw B3 hm.out.symm (by omega) h2 ?_
        rw [← h3'.out, List.length_append, List.length_append, List.length_append, cellsP_flat, flat_length pc_two, flat_length pc_two, flat_length pc_two, ← hm.out, ← hn.out]
        rw [List.length_append, ← hm.out] at hlen
        omega
      replace hlen := hide hlen
      clear B3
      go_wp2_with fail
      go_ret2
      exact ⟨_, _, rfl, own3, bel3⟩
  · have hR : allL C s = [] := by unfold allL; rw [if_neg hE]
    rw [hR] at c1 ⊢
    generalize allE C s = E at *
    clear hR hcn
    go_enter Tryz.func22, Tryz.ntmps22
    go_wp2_with fail
    go_at_call 38
    refine (c1 _ S1).mono ?_
    rintro e w2 ⟨a2, G2, rfl, o2, b2⟩
    replace bel := belowCall bel b2
    go_wp2_with fail
    go_ret2
    exact ⟨none, 0, rfl, World.ownsRow_nil _ _ _ _, bel⟩

end Go.Proofs.YtcjdpilmhlfmfaaGreatDoor

/-
  A happening keeps a right world right; the power goes in the midst of a batch; a reader's version. No program is named.
-/
namespace Go.Proofs.YtcjdpilmhlfmfaaGreatDoor

theorem hap_kind {w : Wd} {x : Hp} (h : hapE w x = 0) : (1 ≤ x.k ∧ x.k ≤ 9) ∧ w.up = decide (x.k ≠ 8) := by
  unfold hapE at h
  split at h
  · cases h
  · rename_i h1
    split at h
    · cases h
    · rename_i h2
      exact ⟨Decidable.not_not.1 h1, Decidable.not_not.1 h2⟩

/-- The record of a happening that writes one. -/
theorem hap_rec {w : Wd} {x : Hp} (hk : (1 ≤ x.k ∧ x.k ≤ 4) ∨ x.k = 9) (hu : w.up = true) :
    hapE w x = (if nextE w.c (recOf x) ≠ 0 then nextE w.c (recOf x) else if dputE w.d (recOf x) ≠ 0 then dputE w.d (recOf x) else if x.k = 9 then 0 else syncE (dputD w.d (recOf x))) := by
  unfold hapE
  rw [if_neg (fun h => h ⟨by omega, by omega⟩), if_neg (fun h => h (by rw [hu]; exact (decide_eq_true (by omega)).symm)), if_neg (by omega), if_neg (by omega), if_neg (by omega)]

theorem hap_rec0 {w : Wd} {x : Hp} (hk : (1 ≤ x.k ∧ x.k ≤ 4) ∨ x.k = 9) (h : hapE w x = 0) :
    w.up = true ∧ nextE w.c (recOf x) = 0 ∧ dputE w.d (recOf x) = 0 ∧ (x.k ≠ 9 → syncE (dputD w.d (recOf x)) = 0) := by
  have hu : w.up = true := by rw [(hap_kind h).2]; exact decide_eq_true (by omega)
  rw [hap_rec hk hu] at h
  split at h
  · contradiction
  · rename_i h1
    split at h
    · contradiction
    · rename_i h2
      refine ⟨hu, Decidable.not_not.1 h1, Decidable.not_not.1 h2, fun h9 => ?_⟩
      rw [if_neg h9] at h
      exact h

theorem repl_snoc {L : List Rc} {r : Rc} (h : replE L = 0) (hn : nextE (replL L) r = 0) (h60 : (L ++ [r]).length ≤ 60) : replE (L ++ [r]) = 0 ∧ replL (L ++ [r]) = nextL (replL L) r := by
  have h60' : ¬ 60 < L.length := by rw [List.length_append] at h60; simp only [List.length_cons, List.length_nil] at h60; omega
  have e1 : (workAll newS L).2 = 0 := by unfold replE at h; rw [if_neg h60'] at h; exact h
  have e2 : replL L = (workAll newS L).1 := if_neg h60'
  rw [e2] at hn
  have := workAll_snoc L r newS e1
  rw [if_pos hn] at this
  unfold replE replL
  rw [if_neg (by omega), if_neg (by omega), if_neg h60', this]
  exact ⟨rfl, rfl⟩

theorem repl_take {L : List Rc} (h : replE L = 0) (k : Nat) : replE (L.take k) = 0 := by
  unfold replE at h ⊢
  split at h
  · cases h
  · rename_i h60
    rw [if_neg (by rw [List.length_take]; omega)]
    exact work_pre h k

theorem repl_right {L : List Rc} (h : replE L = 0) : shelfE (replL L) = 0 := by
  unfold replE at h
  unfold replL
  split at h
  · cases h
  · rename_i h60
    rw [if_neg h60]
    exact workAll_right L newS fresh_right h

theorem rdOk_up {n m : Nat} {v : Int} (h : rdOk true n v = true) (hm : n ≤ m) : rdOk true m v = true := by
  unfold rdOk at h ⊢
  simp only [Bool.true_or, Bool.and_true, decide_eq_true_eq] at h ⊢
  omega

theorem rdOk_down {n m : Nat} {v : Int} (h : rdOk false n v = true) : rdOk true m v = true := by
  unfold rdOk at h ⊢
  simp only [Bool.false_or, Bool.true_or, Bool.and_true, Bool.and_eq_true, decide_eq_true_eq] at h ⊢
  omega

/-- A record's work: what the world is then. -/
theorem hap_write {w : Wd} {x : Hp} (hr : wdE w = 0) (hk : 1 ≤ x.k ∧ x.k ≤ 4) (h : hapE w x = 0) :
    hapW w x = ⟨nextL w.c (recOf x), dkOf (recL w.d ++ [recOf x]), true, w.rd⟩ ∧ recL (hapW w x).d = recL w.d ++ [recOf x] ∧ wdE (hapW w x) = 0 ∧ (recL w.d ++ [recOf x]).length ≤ 60 := by
  obtain ⟨hu, h1, h2, h3⟩ := hap_rec0 (.inl hk) h
  obtain ⟨u1, u2, u3, u4, u5⟩ := wd_up hr hu
  obtain ⟨r1, r2, r3, r4, r5, r6⟩ := wd_right hr
  have hL : wdL w = recL w.d := if_pos hu
  rw [hL, hu] at r6
  have h3' := h3 (by omega)
  have e : hapW w x = ⟨nextL w.c (recOf x), syncD (dputD w.d (recOf x)), w.up, w.rd⟩ := by
    unfold hapW
    rw [if_neg (by simp [h]), if_neg (by omega), if_neg (by omega), if_neg (by omega), if_neg (by omega), if_neg (by omega)]
  obtain ⟨L, eL⟩ : ∃ L, L = recL w.d := ⟨_, rfl⟩
  rw [← eL] at u1 u2 u3 u4 u5 r6 ⊢
  rw [u1] at h2 h3'
  obtain ⟨m1, m2, m3⟩ := log_more u4 u5 h2 h3'
  rw [u3] at h1
  obtain ⟨p1, p2⟩ := repl_snoc u2 h1 m3
  have oks : ∀ r ∈ L ++ [recOf x], recE r = 0 := by
    intro r hr'
    rcases List.mem_append.1 hr' with hr' | hr'
    · exact u4 r hr'
    · rw [List.mem_singleton.1 hr']; exact m2
  have e2 : hapW w x = ⟨nextL w.c (recOf x), dkOf (L ++ [recOf x]), true, w.rd⟩ := by rw [e, u1, m1, hu]
  have eR : recL (dkOf (L ++ [recOf x])) = L ++ [recOf x] := dk_end oks m3
  refine ⟨e2, by rw [e2]; exact eR, ?_, m3⟩
  rw [e2]
  have eW : wdL ⟨nextL w.c (recOf x), dkOf (L ++ [recOf x]), true, w.rd⟩ = L ++ [recOf x] := by unfold wdL; rw [if_pos rfl]; exact eR
  refine wd_of (dkOf_ok oks m3) (fun _ => rfl) ?_ ?_ r5 ?_
  · rw [eW]; exact p1
  · rw [eW, p2, u3]
  · rw [eW]
    intro v hv
    exact rdOk_up (r6 v hv) (by rw [List.length_append]; omega)

/-- A reader is opened, or closed. -/
theorem hap_reader {w : Wd} {x : Hp} (hr : wdE w = 0) (hk : x.k = 5 ∨ x.k = 6) (h : hapE w x = 0) :
    0 ≤ x.n ∧ x.n ≤ 2 ∧ w.up = true ∧ hapW w x = ⟨w.c, w.d, true, w.rd.set x.n.toNat (if x.k = 5 then ((recL w.d).length : Int) else -1)⟩ ∧ wdE (hapW w x) = 0 := by
  have hu : w.up = true := by rw [(hap_kind h).2]; exact decide_eq_true (by omega)
  have hL : wdL w = recL w.d := if_pos hu
  obtain ⟨r1, r2, r3, r4, r5, r6⟩ := wd_right hr
  have hn : 0 ≤ x.n ∧ x.n ≤ 2 := by
    unfold hapE at h
    rw [if_neg (fun h => h ⟨by omega, by omega⟩), if_neg (fun h => h (by rw [hu]; exact (decide_eq_true (by omega)).symm)), if_pos hk] at h
    split at h
    · assumption
    · cases h
  have e : hapW w x = ⟨w.c, w.d, true, w.rd.set x.n.toNat (if x.k = 5 then ((recL w.d).length : Int) else -1)⟩ := by
    unfold hapW
    rw [if_neg (by simp [h])]
    rcases hk with hk | hk
    · rw [if_pos hk, if_pos hk, hu]
    · rw [if_neg (by omega), if_pos hk, if_neg (by omega), hu]
  refine ⟨hn.1, hn.2, hu, e, ?_⟩
  rw [e]
  refine wd_of r1 (fun _ => r2 hu) ?_ ?_ (by rw [List.length_set]; exact r5) ?_
  · show replE (if true = true then recL w.d else []) = 0
    rw [if_pos rfl, ← hL]; exact r3
  · show w.c = replL (if true = true then recL w.d else [])
    rw [if_pos rfl, ← hL]; exact r4
  · show ∀ v ∈ _, rdOk true (if true = true then recL w.d else []).length v = true
    rw [if_pos rfl]
    intro v hv
    rw [hL, hu] at r6
    rcases List.mem_or_eq_of_mem_set hv with hv | rfl
    · exact r6 v hv
    · unfold rdOk
      split <;> simp <;> omega

theorem dk_less {d : Dk} (h : dkE d = 0) (n : Nat) : dkE ⟨d.safe, d.wait.take n⟩ = 0 := by
  unfold dkE at h ⊢
  split at h
  · cases h
  · rename_i h1
    rw [if_neg (by simp only [List.length_take]; omega)]
    exact h

/-- A world without power. -/
theorem down_right {d : Dk} (h : dkE d = 0) : wdE ⟨newS, d, false, shutR⟩ = 0 :=
  wd_of h (fun h => (by cases h)) rfl rfl rfl (shut_ok _ _)

theorem hap_crash {w : Wd} {x : Hp} (hr : wdE w = 0) (hk : x.k = 7) (h : hapE w x = 0) : hapW w x = ⟨newS, w.d, false, shutR⟩ ∧ wdE (hapW w x) = 0 := by
  have e : hapW w x = ⟨newS, w.d, false, shutR⟩ := by
    unfold hapW
    rw [if_neg (by simp [h]), if_neg (by omega), if_neg (by omega), if_pos hk]
  exact ⟨e, by rw [e]; exact down_right (wd_right hr).1⟩

theorem hap_tear {w : Wd} {x : Hp} (hk : x.k = 9) (h : hapE w x = 0) : hapW w x = ⟨newS, ⟨w.d.safe, (dputD w.d (recOf x)).wait.take x.n.toNat⟩, false, shutR⟩ ∧ wdE (hapW w x) = 0 := by
  obtain ⟨hu, h1, h2, _⟩ := hap_rec0 (.inr hk) h
  have e : hapW w x = ⟨newS, ⟨w.d.safe, (dputD w.d (recOf x)).wait.take x.n.toNat⟩, false, shutR⟩ := by
    unfold hapW
    rw [if_neg (by simp [h]), if_neg (by omega), if_neg (by omega), if_neg (by omega), if_neg (by omega), if_pos hk]
  refine ⟨e, ?_⟩
  rw [e]
  obtain ⟨_, _, p3, p4⟩ := dput_ok h2
  have := dk_less p4 x.n.toNat
  have es : (dputD w.d (recOf x)).safe = w.d.safe := by rw [p3]
  rw [es] at this
  exact down_right this

theorem hap_boot {w : Wd} {x : Hp} (hr : wdE w = 0) (hk : x.k = 8) (h : hapE w x = 0) :
    w.up = false ∧ replE (recL w.d) = 0 ∧ hapW w x = ⟨replL (recL w.d), recD w.d, true, w.rd⟩ ∧ wdE (hapW w x) = 0 ∧ recL (hapW w x).d = recL w.d := by
  have hu : w.up = false := by rw [(hap_kind h).2]; exact decide_eq_false (by omega)
  obtain ⟨r1, r2, r3, r4, r5, r6⟩ := wd_right hr
  have hz : replE (recL w.d) = 0 := by
    unfold hapE at h
    rw [if_neg (fun h => h ⟨by omega, by omega⟩), if_neg (fun h => h (by rw [hu]; exact (decide_eq_false (by omega)).symm)), if_neg (by omega), if_neg (by omega), if_pos hk] at h
    exact h
  have e : hapW w x = ⟨replL (recL w.d), recD w.d, true, w.rd⟩ := by
    unfold hapW
    rw [if_neg (by simp [h]), if_neg (by omega), if_neg (by omega), if_neg (by omega), if_pos hk]
  obtain ⟨c1, c2, c3, c4, c5, c6, c7, c8⟩ := disk_canon r1
  have eW : wdL ⟨replL (recL w.d), recD w.d, true, w.rd⟩ = recL w.d := by unfold wdL; rw [if_pos rfl]; exact c7
  refine ⟨hu, hz, e, ?_, by rw [e]; exact c7⟩
  rw [e]
  refine wd_of c6 (fun _ => by show (recD w.d).wait = []; rw [c4]) (by rw [eW]; exact hz) (by rw [eW]) r5 ?_
  rw [eW]
  intro v hv
  have := r6 v hv
  rw [hu] at this
  exact rdOk_down this

/-- A right world stays right. -/
theorem hap_right {w : Wd} {x : Hp} (hr : wdE w = 0) (h : hapE w x = 0) : wdE (hapW w x) = 0 := by
  obtain ⟨hk, _⟩ := hap_kind h
  by_cases k1 : x.k ≤ 4
  · exact (hap_write hr ⟨hk.1, k1⟩ h).2.2.1
  by_cases k2 : x.k = 5 ∨ x.k = 6
  · exact (hap_reader hr k2 h).2.2.2.2
  by_cases k3 : x.k = 7
  · exact (hap_crash hr k3 h).2
  by_cases k4 : x.k = 8
  · exact (hap_boot hr k4 h).2.2.2.1
  · exact (hap_tear (by omega) h).2

/-- What a torn disk holds: the record wholly, or not at all. -/
theorem torn_recs {L : List Rc} {r : Rc} (hL : ∀ x ∈ L, recE x = 0) (h60 : L.length ≤ 60) (hp : dputE (dkOf L) r = 0) (n : Nat) :
    dkE ⟨logT L, (dputD (dkOf L) r).wait.take n⟩ = 0 ∧ (recL ⟨logT L, (dputD (dkOf L) r).wait.take n⟩ = L ∨ L.length < 60 ∧ recL ⟨logT L, (dputD (dkOf L) r).wait.take n⟩ = L ++ [r]) := by
  obtain ⟨_, hr, hd, h0⟩ := dput_ok hp
  have e : dputD (dkOf L) r = ⟨logT L, recT r ++ [10]⟩ := by rw [hd]; rfl
  rw [e] at h0 ⊢
  have d0 := dk_less h0 n
  simp only at d0 ⊢
  refine ⟨d0, ?_⟩
  by_cases hlt : L.length < 60
  · have h1 : recT r ++ [10] = logT [r] := (logT_one r).symm
    have hsz : (logT L).length + (logT [r]).length ≤ 60000 := by
      rw [← h1]
      unfold dkE at h0
      split at h0
      · cases h0
      · simp only at *
        omega
    obtain ⟨_, m, hm, k1, _⟩ := keep_log L [r] n hL (fun x hx => by rw [List.mem_singleton.1 hx]; exact hr) (by simp only [List.length_cons, List.length_nil]; omega) hsz
    rw [h1, k1]
    simp only [List.length_cons, List.length_nil] at hm
    by_cases m0 : m = 0
    · left; rw [m0]; simp
    · right
      obtain rfl : m = 1 := by omega
      exact ⟨hlt, by simp⟩
  · left
    have hl : dkL ⟨logT L, (recT r ++ [10]).take n⟩ = L := by
      unfold dkL
      rw [if_pos d0]
      simp only
      rw [scan_log0 L hL h60]
    unfold recL
    rw [if_pos d0, hl, tail_stop (by omega), List.append_nil]

/-- What a reader sees. -/
def readE (w : Wd) (r s : Int) : Int :=
  if wdE w ≠ 0 then wdE w else if ¬ (0 ≤ r ∧ r ≤ 2) then 5 else if w.rd.getD r.toNat 0 < 0 then 7 else allE (replL ((recL w.d).take (w.rd.getD r.toNat 0).toNat)) s
def readL (w : Wd) (r s f t : Int) : List Pt :=
  if readE w r s = 0 then rngL (allL (replL ((recL w.d).take (w.rd.getD r.toNat 0).toNat)) s) f t else []

theorem all_right {C : List Rw} {s : Nat} (h : shelfE C = 0) (hs : s < 4) : allE C s = 0 ∧ allL C s = allPts (C.getD s rw0) := by
  have e : allE C s = 0 := by
    unfold allE
    rw [if_pos h, if_neg (by unfold inI; simp; omega)]
  refine ⟨e, ?_⟩
  unfold allL
  rw [if_pos e, Int.toNat_natCast]

theorem rng_all {l : List Pt} (h : checkE l = 0) : rngL l 0 100001 = l := by
  unfold rngL inR
  rw [List.filter_eq_self]
  intro p hp
  have := (check_rises h).2 p hp
  unfold ptOk at this
  simp at this ⊢
  omega

end Go.Proofs.YtcjdpilmhlfmfaaGreatDoor

/-
  store.Next: what a record makes of a shelf.
-/
namespace Go.Proofs.YtcjdpilmhlfmfaaGreatDoor
open Go.RowKit

theorem slEn {W : World} {a : Option Addr} {c : Nat} {l : List Nt} (h : SlW ec W a c l) : SlW En.cells W a c (enL l) := by
  have e : (enL l).flatMap En.cells = l.flatMap ec := by
    unfold enL
    rw [List.flatMap_map]
    rfl
  exact ⟨by rw [e]; exact h.row, by unfold enL; rw [List.length_map]; exact h.le, h.max, h.nil⟩

theorem enL_len (l : List Nt) : (enL l).length = l.length := List.length_map _

theorem IsS.none (w : World) : IsS w none 0 [] := ⟨[], rfl, ⟨⟨.inl rfl, Nat.le_refl _, by decide, fun _ => rfl⟩, fun r hr => (by cases hr)⟩⟩

theorem ch_good {C : List Rw} (hz : shelfE C = 0) : (∀ x, chE C x = x) ∧ (∀ L, chL C (bputE C L) (bputL C L) = bputL C L) ∧ (∀ s n, chL C (sealE C s n) (sealL C s n) = sealL C s n) ∧ (∀ s n, chL C (mrgE C s n) (mrgL C s n) = mrgL C s n) ∧ (∀ n, chL C (dropE n) (dropL C n) = dropL C n) := by
  have e : ∀ x, chE C x = x := fun x => if_pos hz
  refine ⟨e, fun L => ?_, fun s n => ?_, fun s n => ?_, fun n => ?_⟩
  · unfold chL; rw [e]; unfold bputL; split <;> rfl
  · unfold chL; rw [e]; unfold sealL; split <;> rfl
  · unfold chL; rw [e]; unfold mrgL; split <;> rfl
  · unfold chL; rw [e]; unfold dropL; split <;> rfl

theorem few_rec {r : Rc} (h : recE r = 0) : r.e.length ≤ 10 := by
  unfold recE at h
  split at h
  · split at h
    · cases h
    · split at h
      · cases h
      · omega
  · split at h
    · split at h
      · cases h
      · rename_i h1
        have : r.e = [] := Decidable.byContradiction fun e => h1 (.inl e)
        rw [this]
        exact Nat.zero_le _
    · cases h

theorem kind_rec {r : Rc} (h : recE r = 0) : r.k = 1 ∨ r.k = 2 ∨ r.k = 3 ∨ r.k = 4 := by
  unfold recE at h
  split at h
  · exact .inl (by assumption)
  · split at h
    · rename_i h1
      exact .inr h1
    · cases h

end Go.Proofs.YtcjdpilmhlfmfaaGreatDoor
