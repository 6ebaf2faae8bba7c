/-
  shelf.Merge: what it answers of a shelf, whatever it is.
-/
import Derived.Test.YtabeihkfjlmepaaGreatDoorHSMerge
import Derived.Test.YtabeihkfjlmepaaGreatDoorHSDelF
import Derived.Test.YtabeihkfjlmepaaGreatDoorP31
import Derived.Test.YtabeihkfjlmepaaGreatDoorP20
import Derived.Test.YtabeihkfjlmepaaGreatDoorHChange
import Derived.Test.YtabeihkfjlmepaaGreatDoorP21
import Derived.Test.YtabeihkfjlmepaaGreatDoorP27
import Derived.Test.YtabeihkfjlmepaaGreatDoorP29
import Derived.Test.YtabeihkfjlmepaaGreatDoorP05
import Derived.Test.YtabeihkfjlmepaaGreatDoorP06
namespace Go.Proofs.YtabeihkfjlmepaaGreatDoor
open Go.RowKit

theorem merge1_any (n : Int) (cb : Nat) (l : List Rw) (hE : shelfE l = 0) (base box g k : Nat) (rs : List Lr) (W : World) (hk : k < 4) (Bc : Blk W cb [.int .i64 n] 3) (C : Copied l base box g rs W) :
    Calls Tryz.prog 72 #[.pointer (some ⟨g, k * 2, none⟩), .pointer (some ⟨cb, 0, none⟩)] W (Does (mrgE l k n) (mrgL l k n) base box g W) := by
  have hR := right_of hE
  obtain ⟨r, hr, hrw, e0, e1, oR, f1, f2⟩ := C.row hR k hk
  have d0 : W.cell? ⟨cb, 0, none⟩ = some (.int .i64 n) := Bc.cell 0
  have hi : inI (k : Int) 0 3 = true := by unfold inI; simp; omega
  have hbk : (l.getD k rw0).blocks = r.bs.map Lb.b := by rw [← hrw]; rfl
  have hhd : (l.getD k rw0).head = r.hd := by rw [← hrw]; rfl
  cases hn : inI n 0 ((r.bs.length : Int) - 2) with
  | false =>
    have e : mrgE l k n = 3 := by unfold mrgE; rw [hi, Int.toNat_natCast, hbk, List.length_map, hn]; rfl
    rw [e]
    refine (merge1_range n cb g k r.bs.length r.bc r.ba W d0 e0 f1 hn).mono ?_
    rintro e W' ⟨rfl, q, rfl⟩
    exact ⟨rfl, belowDrewN (Below.refl _ _) _, fun h => by cases h⟩
  | true =>
    have hn2 : 0 ≤ n ∧ n ≤ (r.bs.length : Int) - 2 := by unfold inI at hn; simpa using hn
    obtain ⟨q, rfl⟩ : ∃ q : Nat, n = q := ⟨n.toNat, by omega⟩
    obtain ⟨x, hx⟩ : ∃ x, r.bs[q]? = some x := ⟨_, List.getElem?_eq_getElem (by omega)⟩
    obtain ⟨y, hy⟩ : ∃ y, r.bs[q + 1]? = some y := ⟨_, List.getElem?_eq_getElem (by omega)⟩
    have bx : blkAt (l.getD k rw0) q = x.b := by unfold blkAt; rw [hbk]; simp [List.getD, hx]
    have b_y : blkAt (l.getD k rw0) (q + 1) = y.b := by unfold blkAt; rw [hbk]; simp [List.getD, hy]
    have e : mrgE l k q = mergeE x.b y.b := by unfold mrgE; rw [hi, Int.toNat_natCast, Int.toNat_natCast, hbk, List.length_map, hn, bx, b_y]; rfl
    refine (merge1_go q cb l base box g k (r.bs.length - 1) rs r x y W hR C hr Bc (by omega) (by omega) (by omega) hx hy).mono ?_
    rintro e' W' ⟨rfl, b, hf⟩
    refine ⟨by rw [e], b, fun hz => ?_⟩
    obtain ⟨rs', p1, p2, p3, p4⟩ := hf (by rw [← e]; exact hz)
    refine ⟨rs', p1, p2, ?_, p4⟩
    unfold mrgL
    rw [if_pos hz, p3, Int.toNat_natCast, Int.toNat_natCast, bx, b_y, hbk, hhd, List.map_take, List.map_drop]

set_option maxHeartbeats 1000000 in
set_option maxRecDepth 100000 in
/-- Merge, whatever it is handed. -/
theorem sMerge_any (l : List Lr) (ao : Option Addr) (cap : Nat) (s n : Int) (w : World) (hs : SlR w ao cap l) :
    Calls Tryz.prog 44 #[.agg #[.slice ao l.length cap], .int .i64 s, .int .i64 n] w fun e w' => ∃ rs a' G, e = .returned (.tuple #[.agg #[.slice a' rs.length G], .int .i64 (chE (l.map Lr.rw) (mrgE (l.map Lr.rw) s n))]) ∧ rs.map Lr.rw = chL (l.map Lr.rw) (mrgE (l.map Lr.rw) s n) (mrgL (l.map Lr.rw) s n) ∧ SlR w' a' G rs ∧ Below w.heap.size w w' := by
  have B1 := (Blk.laid (w.alloc (.cells #[.slice ao l.length cap] 46)) [.int .i64 n] 3 (w.heap.size + 1) (by simp)).alc (.cells #[.slice none 0 0] 46)
  have R1 := Blk.laid ((w.alloc (.cells #[.slice ao l.length cap] 46)).alloc (.cells #[.int .i64 n] 3)) [.slice none 0 0] 46 (w.heap.size + 2) (by simp)
  have bel1 := below3 w (.cells #[.slice ao l.length cap] 46) (.cells #[.int .i64 n] 3) (.cells #[.slice none 0 0] 46)
  have s1 := hs.keep bel1 (Nat.le_refl _)
  have c := fun W (S : SlR W ao cap l) (B : Blk W (w.heap.size + 1) [.int .i64 n] 3) => changeRowM (.pointer (some ⟨w.heap.size + 1, 0, none⟩)) s (mrgE (l.map Lr.rw) s n) (mrgL (l.map Lr.rw) s n) l ao cap W S
    (fun h => by unfold mrgE; rw [if_pos h])
    (fun hE W2 base box g rs hb b2 C k hk hk4 => by
      subst hk
      exact merge1_any n (w.heap.size + 1) (l.map Lr.rw) hE base box g k rs W2 hk4 (B.keep b2 B.lt) C)
  generalize chL (l.map Lr.rw) (mrgE (l.map Lr.rw) s n) (mrgL (l.map Lr.rw) s n) = X at *
  generalize chE (l.map Lr.rw) (mrgE (l.map Lr.rw) s n) = E at *
  generalize l.length = m at *
  go_enter Tryz.func44, Tryz.ntmps44
  go_wp2_with fail
  generalize ((w.alloc _).alloc _).alloc _ = w1 at *
  go_at_call 69
  refine (c _ s1 B1).mono ?_
  rintro e w2 ⟨rs, a', G, rfl, hX, s2, fr, b2⟩
  have R2 := R1.keep b2 R1.lt
  have bel2 := belowCall bel1 b2
  have r0 : w2.cell? ⟨w.heap.size + 2, 0, none⟩ = some (.slice none 0 0) := R2.cell 0
  have r1 := R2.free 0
  have s3 := s2.written (onlyOne none 0 0) R2 (i := 0) (u := .slice a' rs.length G) (fun ad e => by have := fr ad e; have := R1.lt; omega)
  have bel3 := bel2.setCell (p := ⟨w.heap.size + 2, 0, none⟩) (by show w.heap.size ≤ w.heap.size + 2; omega) (.slice a' rs.length G)
  replace s3 := hide s3
  replace hX := hide hX
  clear s2 R1 R2 s1 B1 c hs
  go_wp2_with fail
  exact bodyPost_ret (v := .tuple #[.agg #[.slice a' rs.length G], .int .i64 E]) (by simp [results, Tryz.results44, go_sem, r0]) rfl ⟨rs, a', G, rfl, hX.out, s3.out, bel3⟩

end Go.Proofs.YtabeihkfjlmepaaGreatDoor

/-
  shelf.Drop: what it answers of a shelf, whatever it is.
-/
namespace Go.Proofs.YtabeihkfjlmepaaGreatDoor
open Go.RowKit

set_option maxHeartbeats 1000000 in
set_option maxRecDepth 100000 in
theorem drop1_range (n : Int) (cb box : Nat) (W : World) (d0 : W.cell? ⟨cb, 0, none⟩ = some (.int .i64 n)) (h : inI n 0 100001 = false) :
    Calls Tryz.prog 75 #[.pointer (some ⟨box, 0, none⟩), .pointer (some ⟨cb, 0, none⟩)] W fun e W' => e = .returned (.int .i64 3) ∧ W' = W := by
  by_cases h0 : n < 0
  · clear h
    go_enter Tryz.func75, Tryz.ntmps75
    go_wp2_with fail
    go_ret
    exact ⟨rfl, rfl⟩
  · have h1 : 100001 < n := by unfold inI at h; simp at h; omega
    clear h
    go_enter Tryz.func75, Tryz.ntmps75
    go_wp2_with fail
    go_ret
    exact ⟨rfl, rfl⟩

theorem keptB_rw (n : Int) (l : List Lb) : (keptB n l).map Lb.b = (l.map Lb.b).filter (fun b => !decide (b.to < n)) := by
  unfold keptB overB
  rw [List.filter_map]
  rfl

theorem drop_step {n : Int} {l : List Rw} {rs : List Lr} {r y : Lr} {i : Nat} (h : rs.map Lr.rw = (l.take i).map (dropRw n) ++ l.drop i) (hl : rs.length = l.length) (hr : rs[i]? = some r) (hy : y.rw = dropRw n r.rw) :
    (rs.set i y).map Lr.rw = (l.take (i + 1)).map (dropRw n) ++ l.drop (i + 1) := by
  have hi : i < l.length := by rw [← hl]; exact (List.getElem?_eq_some_iff.1 hr).1
  have e : (rs.map Lr.rw)[i]? = some r.rw := by rw [List.getElem?_map, hr]; rfl
  have lt : ((l.take i).map (dropRw n)).length = i := by rw [List.length_map, List.length_take]; omega
  rw [h, List.getElem?_append_right (by omega), lt, Nat.sub_self, List.getElem?_drop, Nat.add_zero] at e
  have hd : l.drop i = r.rw :: l.drop (i + 1) := by
    obtain ⟨hk', e'⟩ := List.getElem?_eq_some_iff.1 e
    rw [← e']
    exact List.drop_eq_getElem_cons hk'
  rw [List.map_set, h, List.set_append_right _ _ (by omega), lt, Nat.sub_self, hd, List.set_cons_zero, hy, List.take_add_one, e, List.map_append, List.append_assoc]
  rfl

set_option maxHeartbeats 2000000 in
set_option maxRecDepth 100000 in
theorem drop1_ok (n : Int) (cb : Nat) (l : List Rw) (base box g : Nat) (rs : List Lr) (W : World) (hR : Right l) (Bc : Blk W cb [.int .i64 n] 3) (hcb : cb < base) (C : Copied l base box g rs W) (h : inI n 0 100001 = true) :
    Calls Tryz.prog 75 #[.pointer (some ⟨box, 0, none⟩), .pointer (some ⟨cb, 0, none⟩)] W (Does 0 (l.map (dropRw n)) base box g W) := by
  have d0 : W.cell? ⟨cb, 0, none⟩ = some (.int .i64 n) := Bc.cell 0
  have h0 : ¬ n < 0 := by unfold inI at h; simp at h; omega
  have h1 : ¬ 100001 < n := by unfold inI at h; simp at h; omega
  have d1 : W.cell? ⟨box, 0, none⟩ = some (.slice (some ⟨g, 0, none⟩) 4 4) := C.out.cell 0
  have S0 := CutS.start C hR
  have l4 : rs.length = l.length := by rw [← C.same, List.length_map]
  have hl := hR.four
  have m0 : rs.map Lr.rw = (l.take 0).map (dropRw n) ++ l.drop 0 := by rw [C.same]; simp
  have b0 := Below.refl base W
  have hbase := C.base
  replace S0 := hide S0
  replace l4 := hide l4
  replace hl := hide hl
  replace m0 := hide m0
  clear h C hR
  go_enter Tryz.func75, Tryz.ntmps75
  go_wp2_with fail
  go_loopw [19] (fun s wr => ∃ (i : Nat) (rs' : List Lr), i ≤ 4 ∧ s = .int .i64 i ∧ Hid (rs'.length = l.length) ∧ Hid (rs'.map Lr.rw = (l.take i).map (dropRw n) ++ l.drop i) ∧ Hid (CutS base box g i rs' wr) ∧ Below base W wr) (fun s _ => 4 - (intOf s).toNat)
  case atStart => exact ⟨0, rs, by omega, rfl, l4, m0, S0, b0⟩
  case round =>
    clear S0 l4 m0 b0 d0 d1
    obtain ⟨i, rs', hi, rfl, l4, m0, S0, b0⟩ := hrel
    by_cases hlt : i < 4
    · obtain ⟨r, hr⟩ : ∃ r, rs'[i]? = some r := ⟨_, List.getElem?_eq_getElem (by rw [l4.out, hl.out]; exact hlt)⟩
      obtain ⟨-, f1, f2, ho⟩ := S0.out.each i r hr
      have oR := ho (Nat.le_refl _)
      obtain ⟨bg, eb, lo, B⟩ := oR.bs
      have Bc1 := Bc.keep b0 hcb
      have d1 : wr.cell? ⟨box, 0, none⟩ = some (.slice (some ⟨g, 0, none⟩) 4 4) := S0.out.out.cell 0
      obtain ⟨m, hm⟩ : ∃ m, m = r.bs.length := ⟨_, rfl⟩
      have e0 : wr.cell? ⟨g, i * 2, none⟩ = some (.slice (some ⟨bg, 0, none⟩) m m) := by
        rw [S0.out.rows.cell]
        refine (flat_get Lr.two _ i 0 _ hr (by decide)).trans ?_
        show some (Value.slice r.ba r.bs.length r.bc) = _
        rw [eb, oR.bc, ← hm]
      have c := fun W B Bc => deleteF r.bs n bg cb m W B Bc hm.symm (by rw [hm, ← oR.bc]; exact f1)
      have neg : ∀ j, some bg = some j → j ≠ g := by
        intro j e
        obtain rfl := Option.some.inj e
        rintro rfl
        exact absurd (blkType B S0.out.rows) (by decide)
      have sub : ∀ x ∈ keptB n r.bs, x ∈ r.bs := fun x hx => (List.mem_filter.1 hx).1
      have kr : (⟨keptB n r.bs, some ⟨bg, 0, none⟩, m, r.hd, r.ha, r.hc⟩ : Lr).rw = dropRw n r.rw := by unfold Lr.rw dropRw; simp only [keptB_rw]
      generalize keptB n r.bs = kept at *
      have hb1 := S0.out.base
      replace hr := hide hr
      replace hm := hide hm
      replace eb := hide eb
      replace neg := hide neg
      replace sub := hide sub
      replace kr := hide kr
      clear oR ho
      go_wp2_with fail
      go_at_call 77
      refine (c _ B Bc1).mono ?_
      rintro e w2 ⟨tail, rfl, hlen, B2, grow2⟩
      have G2 := S0.out.rows.grown grow2 neg.out
      have e2 : w2.cell? ⟨g, i * 2, none⟩ = some (.slice (some ⟨bg, 0, none⟩) m m) := by rw [G2.cell, ← S0.out.rows.cell]; exact e0
      have fz := G2.free (i * 2)
      obtain ⟨S3, b3⟩ := S0.out.step hr.out eb.out hm.out grow2 B2 hlen sub.out
      have m3 := hide (drop_step m0.out l4.out hr.out kr.out)
      have b4 := b0.trans b3
      replace S3 := hide S3
      replace hlen := hide hlen
      clear B B2 grow2 c Bc1 G2 b3 d1 e0
      go_wp2_with fail
      go_roundw
      case rel => exact ⟨i + 1, _, by omega, by go_num, hide (by rw [List.length_set]; exact l4.out), m3, S3, b4⟩
      case measure => simp [intOf]; omega
    · obtain rfl : i = 4 := by omega
      have m1 := m0.out
      rw [List.take_of_length_le (by rw [hl.out]; exact Nat.le_refl _), List.drop_eq_nil_of_le (by rw [hl.out]; exact Nat.le_refl _), List.append_nil] at m1
      have F := hide S0.out.fin
      have O := S0.out.out
      replace m1 := hide m1
      clear S0
      go_wp2_with fail
      go_ret
      exact ⟨rfl, b0, fun _ => ⟨rs', F.out, by rw [l4.out, hl.out], m1.out, O⟩⟩

theorem drop1_any (n : Int) (cb : Nat) (l : List Rw) (base box g : Nat) (rs : List Lr) (W : World) (hR : Right l) (Bc : Blk W cb [.int .i64 n] 3) (hcb : cb < base) (C : Copied l base box g rs W) :
    Calls Tryz.prog 75 #[.pointer (some ⟨box, 0, none⟩), .pointer (some ⟨cb, 0, none⟩)] W (Does (dropE n) (dropL l n) base box g W) := by
  cases h : inI n 0 100001 with
  | false =>
    have e : dropE n = 3 := by unfold dropE; rw [if_pos h]
    rw [e]
    refine (drop1_range n cb box W (Bc.cell 0) h).mono ?_
    rintro e W' ⟨rfl, rfl⟩
    exact ⟨rfl, Below.refl _ _, fun h => by cases h⟩
  | true =>
    have e : dropE n = 0 := by unfold dropE; rw [h]; rfl
    have e2 : dropL l n = l.map (dropRw n) := by unfold dropL; rw [if_pos e]
    rw [e, e2]
    exact drop1_ok n cb l base box g rs W hR Bc hcb C h

set_option maxHeartbeats 1000000 in
set_option maxRecDepth 100000 in
/-- Drop, whatever it is handed. -/
theorem sDrop_any (l : List Lr) (ao : Option Addr) (cap : Nat) (n : Int) (w : World) (hs : SlR w ao cap l) :
    Calls Tryz.prog 45 #[.agg #[.slice ao l.length cap], .int .i64 n] w fun e w' => ∃ rs a' G, e = .returned (.tuple #[.agg #[.slice a' rs.length G], .int .i64 (chE (l.map Lr.rw) (dropE n))]) ∧ rs.map Lr.rw = chL (l.map Lr.rw) (dropE n) (dropL (l.map Lr.rw) n) ∧ SlR w' a' G rs ∧ Below w.heap.size w w' := by
  have B1 := (Blk.laid (w.alloc (.cells #[.slice ao l.length cap] 46)) [.int .i64 n] 3 (w.heap.size + 1) (by simp)).alc (.cells #[.slice none 0 0] 46)
  have R1 := Blk.laid ((w.alloc (.cells #[.slice ao l.length cap] 46)).alloc (.cells #[.int .i64 n] 3)) [.slice none 0 0] 46 (w.heap.size + 2) (by simp)
  have bel1 := below3 w (.cells #[.slice ao l.length cap] 46) (.cells #[.int .i64 n] 3) (.cells #[.slice none 0 0] 46)
  have s1 := hs.keep bel1 (Nat.le_refl _)
  have c := fun W (S : SlR W ao cap l) (B : Blk W (w.heap.size + 1) [.int .i64 n] 3) => changeD (.pointer (some ⟨w.heap.size + 1, 0, none⟩)) (dropE n) (dropL (l.map Lr.rw) n) l ao cap W S
    (fun hE W2 base box g rs hb b2 C => drop1_any n (w.heap.size + 1) (l.map Lr.rw) base box g rs W2 (right_of hE) (B.keep b2 B.lt) (Nat.lt_of_lt_of_le B.lt hb) C)
  generalize chL (l.map Lr.rw) (dropE n) (dropL (l.map Lr.rw) n) = X at *
  generalize chE (l.map Lr.rw) (dropE n) = E at *
  generalize l.length = m at *
  go_enter Tryz.func45, Tryz.ntmps45
  go_wp2_with fail
  generalize ((w.alloc _).alloc _).alloc _ = w1 at *
  go_at_call 66
  refine (c _ s1 B1).mono ?_
  rintro e w2 ⟨rs, a', G, rfl, hX, s2, fr, b2⟩
  have R2 := R1.keep b2 R1.lt
  have bel2 := belowCall bel1 b2
  have r0 : w2.cell? ⟨w.heap.size + 2, 0, none⟩ = some (.slice none 0 0) := R2.cell 0
  have r1 := R2.free 0
  have s3 := s2.written (onlyOne none 0 0) R2 (i := 0) (u := .slice a' rs.length G) (fun ad e => by have := fr ad e; have := R1.lt; omega)
  have bel3 := bel2.setCell (p := ⟨w.heap.size + 2, 0, none⟩) (by show w.heap.size ≤ w.heap.size + 2; omega) (.slice a' rs.length G)
  replace s3 := hide s3
  replace hX := hide hX
  clear s2 R1 R2 s1 B1 c hs
  go_wp2_with fail
  exact bodyPost_ret (v := .tuple #[.agg #[.slice a' rs.length G], .int .i64 E]) (by simp [results, Tryz.results45, go_sem, r0]) rfl ⟨rs, a', G, rfl, hX.out, s3.out, bel3⟩

end Go.Proofs.YtabeihkfjlmepaaGreatDoor

/-
  The contracts of package shelf over shelves as plain lists: where the parts lie is not told.
-/
namespace Go.Proofs.YtabeihkfjlmepaaGreatDoor
open Go.RowKit

/-- The rows from the address on are the plain rows C. -/
structure IsS (W : World) (a : Option Addr) (G : Nat) (C : List Rw) : Prop where
  ex : ∃ rs : List Lr, rs.map Lr.rw = C ∧ SlR W a G rs

theorem IsS.call {W W' : World} {a : Option Addr} {G : Nat} {C : List Rw} (h : IsS W a G C) (hb : Below W.heap.size W W') : IsS W' a G C := by
  obtain ⟨rs, e, s⟩ := h.ex
  exact ⟨rs, e, s.call hb⟩

theorem IsS.keep {W W' : World} {a : Option Addr} {G B : Nat} {C : List Rw} (h : IsS W a G C) (hb : Below B W W') (hB : W.heap.size ≤ B) : IsS W' a G C := by
  obtain ⟨rs, e, s⟩ := h.ex
  exact ⟨rs, e, s.keep hb hB⟩

theorem IsS.alloc {W : World} {a : Option Addr} {G : Nat} {C : List Rw} (h : IsS W a G C) (o : Obj) : IsS (W.alloc o) a G C := by
  obtain ⟨rs, e, s⟩ := h.ex
  exact ⟨rs, e, s.alloc o⟩

theorem IsS.drewN {W : World} {a : Option Addr} {G : Nat} {C : List Rw} (h : IsS W a G C) (n : Nat) : IsS (W.drewN n) a G C := by
  obtain ⟨rs, e, s⟩ := h.ex
  exact ⟨rs, e, s.drewN n⟩

theorem IsS.of {W : World} {a : Option Addr} {G : Nat} {l : List Lr} (h : SlR W a G l) : IsS W a G (l.map Lr.rw) := ⟨l, rfl, h⟩

/-- One row of a shelf: its cells, and what they lead to. -/
theorem IsS.at {W : World} {a : Option Addr} {G : Nat} {C : List Rw} (h : IsS W a G C) (k : Nat) (hk : k < C.length) :
    ∃ (b off : Nat) (r : Lr), a = some ⟨b, off, none⟩ ∧ b < W.heap.size ∧ W.cell? ⟨b, off + k * 2, none⟩ = some (.slice r.ba r.bs.length r.bc) ∧ W.cell? ⟨b, off + k * 2 + 1, none⟩ = some (.slice r.ha r.hd.length r.hc) ∧ r.Good W ∧ r.rw = C.getD k rw0 := by
  obtain ⟨rs, rfl, s⟩ := h.ex
  rw [List.length_map] at hk
  obtain ⟨b, off, rfl, hb⟩ := s.where (by intro e; rw [e] at hk; simp at hk)
  obtain ⟨e0, e1, g⟩ := s.at k rs[k] (List.getElem?_eq_getElem hk)
  refine ⟨b, off, rs[k], rfl, hb, e0, e1, g, ?_⟩
  rw [List.getD, List.getElem?_map, List.getElem?_eq_getElem hk]
  rfl

/-- What is owned from here on is owned from further down on. -/
theorem ownDown {w : World} {base base' : Nat} {e : TypeId} {size n : Nat} {v : Value} {xs : List Value} (h : w.ownsRow base e size v n xs) (hb : base' ≤ base) : w.ownsRow base' e size v n xs := by
  refine ⟨h.1, ?_⟩
  rcases h.2 with h0 | ⟨g, cap, cur, e1, h1, h2⟩
  · exact .inl h0
  · exact .inr ⟨g, cap, cur, e1, Nat.le_trans hb h1, h2⟩

/-- Two cells and more do not lie in a block of one. -/
theorem Row.offOne {w : World} {ao : Option Addr} {g : Nat} {C : List Value} {c : Value} {t : TypeId} (h : Row w ao C) (B : Blk w g [c] t) (hC : 2 ≤ C.length) : Off g ao := by
  obtain ⟨b, off, rfl, hb, hc⟩ := h.at (by intro e; rw [e] at hC; simp at hC)
  intro ad e
  cases e
  intro e
  have e : b = g := e
  subst e
  have h0 := hc 0 C[0] (List.getElem?_eq_getElem (by omega))
  have h1 := hc 1 C[1] (List.getElem?_eq_getElem (by omega))
  rw [B.cell] at h0 h1
  have l0 := (List.getElem?_eq_some_iff.1 h0).1
  have l1 := (List.getElem?_eq_some_iff.1 h1).1
  simp at l0 l1

/-- A shelf's box is written; its rows, and another's, stay. -/
theorem IsS.wrote {w : World} {a : Option Addr} {G g : Nat} {C : List Rw} {a1 : Option Addr} {n1 c1 : Nat} {u : Value} (h : IsS w a G C) (B : Blk w g [.slice a1 n1 c1] 46) (hC : C ≠ []) : IsS (w.setCell ⟨g, 0, none⟩ u) a G C := by
  obtain ⟨rs, rfl, s⟩ := h.ex
  have grow := grownSet (grownRefl w (some g)) 0 u
  have hl := flat_length Lr.two rs
  have hp : 0 < rs.length := by
    cases rs with
    | nil => simp at hC
    | cons x r => simp
  exact ⟨rs, rfl, ⟨⟨s.sl.row.off grow (s.sl.row.offOne B (by rw [hl]; omega)), s.sl.le, s.sl.max, s.sl.nil⟩, fun r hr => (s.good r hr).offSl grow B (onlyOne _ _ _)⟩⟩

/-- What a function answers that makes a shelf of one. -/
def Makes (E : Int) (C : List Rw) (W : World) (e : Ending) (w' : World) : Prop :=
  ∃ a' G', e = .returned (.tuple #[.agg #[.slice a' C.length G'], .int .i64 E]) ∧ IsS w' a' G' C ∧ Below W.heap.size W w'

theorem makes_of {E : Int} {C : List Rw} {W : World} {e : Ending} {w' : World} (h : ∃ rs a' G, e = .returned (.tuple #[.agg #[.slice a' rs.length G], .int .i64 E]) ∧ rs.map Lr.rw = C ∧ SlR w' a' G rs ∧ Below W.heap.size W w') : Makes E C W e w' := by
  obtain ⟨rs, a', G, he, rfl, s, b⟩ := h
  exact ⟨a', G, by rw [he, List.length_map], ⟨rs, rfl, s⟩, b⟩

theorem shCheck_is {C : List Rw} {a : Option Addr} {G : Nat} {W : World} (h : IsS W a G C) :
    Calls Tryz.prog 40 #[.agg #[.slice a C.length G]] W fun e w' => e = .returned (.int .i64 (shelfE C)) ∧ Below W.heap.size W w' := by
  obtain ⟨rs, rfl, s⟩ := h.ex
  rw [List.length_map]
  exact sCheck_any rs a G W s

theorem all_is {C : List Rw} {a : Option Addr} {G : Nat} {W : World} (s : Int) (h : IsS W a G C) :
    Calls Tryz.prog 39 #[.agg #[.slice a C.length G], .int .i64 s] W fun e w' => ∃ a' G', e = .returned (.tuple #[.slice a' (allL C s).length G', .int .i64 (allE C s)]) ∧
      w'.ownsRow W.heap.size 125 2 (.slice a' (allL C s).length G') (allL C s).length (cellsP (allL C s)) ∧ Below W.heap.size W w' := by
  obtain ⟨rs, rfl, t⟩ := h.ex
  rw [List.length_map]
  exact sAll_any rs a G s W t

def freshL : List Rw := [rw0, rw0, rw0, rw0]

theorem new_is (W : World) :
    Calls Tryz.prog 37 #[] W fun e w' => ∃ a' G', e = .returned (.agg #[.slice a' 4 G']) ∧ IsS w' a' G' freshL ∧ Below W.heap.size W w' := by
  refine (sNew_any W).mono ?_
  rintro e w' ⟨a', G', rfl, s, b⟩
  exact ⟨a', G', rfl, ⟨_, rfl, s⟩, b⟩

theorem put_is {C : List Rw} {a : Option Addr} {G : Nat} {W : World} (L : List En) (la : Option Addr) (lc : Nat) (h : IsS W a G C) (hL : SlW En.cells W la lc L) (few : L.length ≤ 140737488355328) :
    Calls Tryz.prog 42 #[.agg #[.slice a C.length G], .slice la L.length lc] W (Makes (chE C (bputE C L)) (chL C (bputE C L) (bputL C L)) W) := by
  obtain ⟨rs, rfl, t⟩ := h.ex
  rw [List.length_map]
  exact (sPut_any rs a G L la lc W t hL few).mono fun e w' h => makes_of h

theorem seal_is {C : List Rw} {a : Option Addr} {G : Nat} {W : World} (s n : Int) (h : IsS W a G C) :
    Calls Tryz.prog 43 #[.agg #[.slice a C.length G], .int .i64 s, .int .i64 n] W (Makes (chE C (sealE C s n)) (chL C (sealE C s n) (sealL C s n)) W) := by
  obtain ⟨rs, rfl, t⟩ := h.ex
  rw [List.length_map]
  exact (sSeal_any rs a G s n W t).mono fun e w' h => makes_of h

theorem merge_is {C : List Rw} {a : Option Addr} {G : Nat} {W : World} (s n : Int) (h : IsS W a G C) :
    Calls Tryz.prog 44 #[.agg #[.slice a C.length G], .int .i64 s, .int .i64 n] W (Makes (chE C (mrgE C s n)) (chL C (mrgE C s n) (mrgL C s n)) W) := by
  obtain ⟨rs, rfl, t⟩ := h.ex
  rw [List.length_map]
  exact (sMerge_any rs a G s n W t).mono fun e w' h => makes_of h

theorem drop_is {C : List Rw} {a : Option Addr} {G : Nat} {W : World} (n : Int) (h : IsS W a G C) :
    Calls Tryz.prog 45 #[.agg #[.slice a C.length G], .int .i64 n] W (Makes (chE C (dropE n)) (chL C (dropE n) (dropL C n)) W) := by
  obtain ⟨rs, rfl, t⟩ := h.ex
  rw [List.length_map]
  exact (sDrop_any rs a G n W t).mono fun e w' h => makes_of h

end Go.Proofs.YtabeihkfjlmepaaGreatDoor

/-
  store.Next: what a record makes of a shelf.
-/
namespace Go.Proofs.YtabeihkfjlmepaaGreatDoor
open Go.RowKit

theorem slEn {W : World} {a : Option Addr} {c : Nat} {l : List Nt} (h : SlW ec W a c l) : SlW En.cells W a c (enL l) := by
  have e : (enL l).flatMap En.cells = l.flatMap ec := by
    unfold enL
    rw [List.flatMap_map]
    rfl
  exact ⟨by rw [e]; exact h.row, by unfold enL; rw [List.length_map]; exact h.le, h.max, h.nil⟩

theorem enL_len (l : List Nt) : (enL l).length = l.length := List.length_map _

/-- A shelf's box is written; what lies elsewhere stays. -/
theorem IsS.boxed {w : World} {a : Option Addr} {G g : Nat} {C : List Rw} {a1 : Option Addr} {n1 c1 : Nat} (h : IsS w a G C) (B : Blk w g [.slice a1 n1 c1] 46) (u : Value) : IsS (w.setCell ⟨g, 0, none⟩ u) a G C := by
  by_cases hC : C = []
  · subst hC
    obtain ⟨rs, e, s⟩ := h.ex
    obtain rfl := List.map_eq_nil_iff.1 e
    exact ⟨[], rfl, ⟨⟨.inl rfl, s.sl.le, s.sl.max, s.sl.nil⟩, fun r hr => (by cases hr)⟩⟩
  · exact h.wrote B hC

theorem IsS.none (w : World) : IsS w none 0 [] := ⟨[], rfl, ⟨⟨.inl rfl, Nat.le_refl _, by decide, fun _ => rfl⟩, fun r hr => (by cases hr)⟩⟩

/-- What a function answers that makes a shelf of dn rows. -/
def Mk (E : Int) (D : List Rw) (dn : Nat) (W : World) (e : Ending) (w' : World) : Prop :=
  ∃ a' G', e = .returned (.tuple #[.agg #[.slice a' dn G'], .int .i64 E]) ∧ IsS w' a' G' D ∧ Below W.heap.size W w'

theorem mk_of {E : Int} {D : List Rw} {dn : Nat} {W : World} {f : Nat} {args : Array Value} (hd : Hid (dn = D.length)) (c : Calls Tryz.prog f args W (Makes E D W)) : Calls Tryz.prog f args W (Mk E D dn W) := by
  obtain rfl := hd.out
  exact c

theorem ch_good {C : List Rw} (hz : shelfE C = 0) : (∀ x, chE C x = x) ∧ (∀ L, chL C (bputE C L) (bputL C L) = bputL C L) ∧ (∀ s n, chL C (sealE C s n) (sealL C s n) = sealL C s n) ∧ (∀ s n, chL C (mrgE C s n) (mrgL C s n) = mrgL C s n) ∧ (∀ n, chL C (dropE n) (dropL C n) = dropL C n) := by
  have e : ∀ x, chE C x = x := fun x => if_pos hz
  refine ⟨e, fun L => ?_, fun s n => ?_, fun s n => ?_, fun n => ?_⟩
  · unfold chL; rw [e]; unfold bputL; split <;> rfl
  · unfold chL; rw [e]; unfold sealL; split <;> rfl
  · unfold chL; rw [e]; unfold mrgL; split <;> rfl
  · unfold chL; rw [e]; unfold dropL; split <;> rfl

theorem few_rec {r : Rc} (h : recE r = 0) : r.e.length ≤ 10 := by
  unfold recE at h
  split at h
  · split at h
    · cases h
    · split at h
      · cases h
      · omega
  · split at h
    · split at h
      · cases h
      · rename_i h1
        have : r.e = [] := Decidable.byContradiction fun e => h1 (.inl e)
        rw [this]
        exact Nat.zero_le _
    · cases h

theorem kind_rec {r : Rc} (h : recE r = 0) : r.k = 1 ∨ r.k = 2 ∨ r.k = 3 ∨ r.k = 4 := by
  unfold recE at h
  split at h
  · exact .inl (by assumption)
  · split at h
    · rename_i h1
      exact .inr h1
    · cases h

set_option maxHeartbeats 2000000 in
set_option maxRecDepth 100000 in
theorem next_any (C : List Rw) (r : Rc) (a a3 : Option Addr) (G c3 n3 cn dn : Nat) (w : World) (h : IsS w a G C) (s3 : SlW ec w a3 c3 r.e) (h3 : Hid (n3 = r.e.length)) (hcn : Hid (cn = C.length)) (hdn : Hid (dn = (nextL C r).length)) :
    Calls Tryz.prog 22 #[.agg #[.slice a cn G], .agg #[.int .i64 r.k, .int .i64 r.s, .int .i64 r.n, .slice a3 n3 c3]] w (Mk (nextE C r) (nextL C r) dn w) := by
  have bel := newB (newB (newB (Below.refl w.heap.size w) (.cells #[.slice a cn G] 46)) (.cells #[.int .i64 r.k, .int .i64 r.s, .int .i64 r.n, .slice a3 n3 c3] 27)) (.cells #[.slice none 0 0] 46)
  have B1 := ((Blk.laid w [.slice a cn G] 46 _ rfl).alc (.cells #[.int .i64 r.k, .int .i64 r.s, .int .i64 r.n, .slice a3 n3 c3] 27)).alc (.cells #[.slice none 0 0] 46)
  have B2 := (Blk.laid (w.alloc (.cells #[.slice a cn G] 46)) [.int .i64 r.k, .int .i64 r.s, .int .i64 r.n, .slice a3 n3 c3] 27 (w.heap.size + 1) (by simp)).alc (.cells #[.slice none 0 0] 46)
  have B3 := Blk.laid ((w.alloc (.cells #[.slice a cn G] 46)).alloc (.cells #[.int .i64 r.k, .int .i64 r.s, .int .i64 r.n, .slice a3 n3 c3] 27)) [.slice none 0 0] 46 (w.heap.size + 1 + 1) (by simp)
  have S := h.keep bel (Nat.le_refl _)
  have S3 := s3.keep bel (Nat.le_refl _)
  have cC := fun W (h : IsS W a G C) => shCheck_is h
  have cN := fun W (s : SlW ec W a3 c3 r.e) => check_is r a3 c3 n3 W s h3.out
  rw [← hcn.out] at cC
  by_cases hz : shelfE C = 0
  · by_cases hr : recE r = 0
    · obtain ⟨g1, g2, g3, g4, g5⟩ := ch_good hz
      have hE : nextE C r = workE C r := by unfold nextE; rw [if_neg (by simp [hz]), if_neg (by simp [hr])]
      have hL : nextL C r = workL C r := by unfold nextL; rw [if_neg (by simp [hz]), if_neg (by simp [hr])]
      have few := few_rec hr
      have cP := fun W (h : IsS W a G C) (t : SlW ec W a3 c3 r.e) => put_is (enL r.e) a3 c3 h (slEn t) (by rw [enL_len]; omega)
      have cS := fun W (h : IsS W a G C) => seal_is r.s r.n h
      have cM := fun W (h : IsS W a G C) => merge_is r.s r.n h
      have cD := fun W (h : IsS W a G C) => drop_is r.n h
      simp only [g1, g2, g3, g4, g5, enL_len] at cP cS cM cD
      rw [← hcn.out] at cP cS cM cD
      rw [← h3.out] at cP
      rw [hz] at cC
      rw [hr] at cN
      obtain ⟨w1, w2, w3, w4⟩ := work_of C r
      have kd := kind_rec hr
      rw [← hE, ← hL] at w1 w2 w3 w4
      obtain ⟨K, s', m', l⟩ := r
      simp only at *
      generalize nextE C ⟨K, s', m', l⟩ = E at *
      generalize nextL C ⟨K, s', m', l⟩ = D at *
      clear hE hL g1 g2 g3 g4 g5 hr hz
      rcases kd with rfl | rfl | rfl | rfl
      · obtain ⟨w5, w6⟩ := w1 rfl
        rw [← w5, ← w6] at cP
        clear w1 w2 w3 w4 w5 w6 cS cM cD
        go_enter Tryz.func22, Tryz.ntmps22
        go_upto_region 1 with fail
        generalize World.alloc (World.alloc (World.alloc w _) _) _ = wa at *
        have b10 := B1.cell 0
        have b1l := B1.lt
        go_wp2_with fail
        go_at_call 40
        refine (cC _ S).mono ?_
        rintro e wb ⟨rfl, bb⟩
        clear b10 b1l
        replace B1 := B1.keep bb B1.lt
        replace B2 := B2.keep bb B2.lt
        replace B3 := B3.keep bb B3.lt
        replace S := S.call bb
        replace S3 := S3.call bb
        replace bel := belowCall bel bb
        clear bb
        have b20 := B2.cell 0
        have b21 := B2.cell 1
        have b22 := B2.cell 2
        have b23 := B2.cell 3
        have b2l := B2.lt
        go_wp2_with fail
        go_at_call 41
        refine (cN _ S3).mono ?_
        rintro e wc ⟨rfl, bb⟩
        clear b20 b21 b22 b23 b2l
        replace B1 := B1.keep bb B1.lt
        replace B2 := B2.keep bb B2.lt
        replace B3 := B3.keep bb B3.lt
        replace S := S.call bb
        replace S3 := S3.call bb
        replace bel := belowCall bel bb
        clear bb
        have b10 := B1.cell 0
        have b1l := B1.lt
        have b20 := B2.cell 0
        have b21 := B2.cell 1
        have b22 := B2.cell 2
        have b23 := B2.cell 3
        have b2l := B2.lt
        go_wp2_with fail
        go_at_call 42
        refine (mk_of hdn (cP _ S S3)).mono ?_
        rintro e wd ⟨a', G', rfl, I, bb⟩
        clear b10 b1l b20 b21 b22 b23 b2l
        replace B3 := B3.keep bb B3.lt
        replace bel := belowCall bel bb
        clear bb
        have b30 := B3.cell 0
        have b3l := B3.lt
        have f0 := B3.free 0
        go_wp2_with fail
        have B9 := B3.set 0 (.slice a' dn G')
        have bel9 := bel.setCell (p := ⟨w.heap.size + 1 + 1, 0, none⟩) (Nat.le_trans (Nat.le_succ _) (Nat.le_succ _)) (.slice a' dn G')
        have I9 := IsS.boxed (I) B3 (.slice a' dn G')
        have i0 := B9.cell 0
        exact bodyPost_ret (v := .tuple #[.agg #[.slice a' dn G'], .int .i64 E]) (by simp [results, Tryz.results22, go_sem, i0]) rfl ⟨_, _, rfl, I9, bel9⟩
      · obtain ⟨w5, w6⟩ := w2 rfl
        rw [← w5, ← w6] at cS
        clear w1 w2 w3 w4 w5 w6 cP cM cD
        go_enter Tryz.func22, Tryz.ntmps22
        go_upto_region 1 with fail
        generalize World.alloc (World.alloc (World.alloc w _) _) _ = wa at *
        have b10 := B1.cell 0
        have b1l := B1.lt
        go_wp2_with fail
        go_at_call 40
        refine (cC _ S).mono ?_
        rintro e wb ⟨rfl, bb⟩
        clear b10 b1l
        replace B1 := B1.keep bb B1.lt
        replace B2 := B2.keep bb B2.lt
        replace B3 := B3.keep bb B3.lt
        replace S := S.call bb
        replace S3 := S3.call bb
        replace bel := belowCall bel bb
        clear bb
        have b20 := B2.cell 0
        have b21 := B2.cell 1
        have b22 := B2.cell 2
        have b23 := B2.cell 3
        have b2l := B2.lt
        go_wp2_with fail
        go_at_call 41
        refine (cN _ S3).mono ?_
        rintro e wc ⟨rfl, bb⟩
        clear b20 b21 b22 b23 b2l
        replace B1 := B1.keep bb B1.lt
        replace B2 := B2.keep bb B2.lt
        replace B3 := B3.keep bb B3.lt
        replace S := S.call bb
        replace S3 := S3.call bb
        replace bel := belowCall bel bb
        clear bb
        have b10 := B1.cell 0
        have b1l := B1.lt
        have b20 := B2.cell 0
        have b21 := B2.cell 1
        have b22 := B2.cell 2
        have b23 := B2.cell 3
        have b2l := B2.lt
        go_wp2_with fail
        go_at_call 43
        refine (mk_of hdn (cS _ S)).mono ?_
        rintro e wd ⟨a', G', rfl, I, bb⟩
        clear b10 b1l b20 b21 b22 b23 b2l
        replace B3 := B3.keep bb B3.lt
        replace bel := belowCall bel bb
        clear bb
        have b30 := B3.cell 0
        have b3l := B3.lt
        have f0 := B3.free 0
        go_wp2_with fail
        have B9 := B3.set 0 (.slice a' dn G')
        have bel9 := bel.setCell (p := ⟨w.heap.size + 1 + 1, 0, none⟩) (Nat.le_trans (Nat.le_succ _) (Nat.le_succ _)) (.slice a' dn G')
        have I9 := IsS.boxed (I) B3 (.slice a' dn G')
        have i0 := B9.cell 0
        exact bodyPost_ret (v := .tuple #[.agg #[.slice a' dn G'], .int .i64 E]) (by simp [results, Tryz.results22, go_sem, i0]) rfl ⟨_, _, rfl, I9, bel9⟩
      · obtain ⟨w5, w6⟩ := w3 rfl
        rw [← w5, ← w6] at cM
        clear w1 w2 w3 w4 w5 w6 cP cS cD
        go_enter Tryz.func22, Tryz.ntmps22
        go_upto_region 1 with fail
        generalize World.alloc (World.alloc (World.alloc w _) _) _ = wa at *
        have b10 := B1.cell 0
        have b1l := B1.lt
        go_wp2_with fail
        go_at_call 40
        refine (cC _ S).mono ?_
        rintro e wb ⟨rfl, bb⟩
        clear b10 b1l
        replace B1 := B1.keep bb B1.lt
        replace B2 := B2.keep bb B2.lt
        replace B3 := B3.keep bb B3.lt
        replace S := S.call bb
        replace S3 := S3.call bb
        replace bel := belowCall bel bb
        clear bb
        have b20 := B2.cell 0
        have b21 := B2.cell 1
        have b22 := B2.cell 2
        have b23 := B2.cell 3
        have b2l := B2.lt
        go_wp2_with fail
        go_at_call 41
        refine (cN _ S3).mono ?_
        rintro e wc ⟨rfl, bb⟩
        clear b20 b21 b22 b23 b2l
        replace B1 := B1.keep bb B1.lt
        replace B2 := B2.keep bb B2.lt
        replace B3 := B3.keep bb B3.lt
        replace S := S.call bb
        replace S3 := S3.call bb
        replace bel := belowCall bel bb
        clear bb
        have b10 := B1.cell 0
        have b1l := B1.lt
        have b20 := B2.cell 0
        have b21 := B2.cell 1
        have b22 := B2.cell 2
        have b23 := B2.cell 3
        have b2l := B2.lt
        go_wp2_with fail
        go_at_call 44
        refine (mk_of hdn (cM _ S)).mono ?_
        rintro e wd ⟨a', G', rfl, I, bb⟩
        clear b10 b1l b20 b21 b22 b23 b2l
        replace B3 := B3.keep bb B3.lt
        replace bel := belowCall bel bb
        clear bb
        have b30 := B3.cell 0
        have b3l := B3.lt
        have f0 := B3.free 0
        go_wp2_with fail
        have B9 := B3.set 0 (.slice a' dn G')
        have bel9 := bel.setCell (p := ⟨w.heap.size + 1 + 1, 0, none⟩) (Nat.le_trans (Nat.le_succ _) (Nat.le_succ _)) (.slice a' dn G')
        have I9 := IsS.boxed (I) B3 (.slice a' dn G')
        have i0 := B9.cell 0
        exact bodyPost_ret (v := .tuple #[.agg #[.slice a' dn G'], .int .i64 E]) (by simp [results, Tryz.results22, go_sem, i0]) rfl ⟨_, _, rfl, I9, bel9⟩
      · obtain ⟨w5, w6⟩ := w4 rfl
        rw [← w5, ← w6] at cD
        clear w1 w2 w3 w4 w5 w6 cP cS cM
        go_enter Tryz.func22, Tryz.ntmps22
        go_upto_region 1 with fail
        generalize World.alloc (World.alloc (World.alloc w _) _) _ = wa at *
        have b10 := B1.cell 0
        have b1l := B1.lt
        go_wp2_with fail
        go_at_call 40
        refine (cC _ S).mono ?_
        rintro e wb ⟨rfl, bb⟩
        clear b10 b1l
        replace B1 := B1.keep bb B1.lt
        replace B2 := B2.keep bb B2.lt
        replace B3 := B3.keep bb B3.lt
        replace S := S.call bb
        replace S3 := S3.call bb
        replace bel := belowCall bel bb
        clear bb
        have b20 := B2.cell 0
        have b21 := B2.cell 1
        have b22 := B2.cell 2
        have b23 := B2.cell 3
        have b2l := B2.lt
        go_wp2_with fail
        go_at_call 41
        refine (cN _ S3).mono ?_
        rintro e wc ⟨rfl, bb⟩
        clear b20 b21 b22 b23 b2l
        replace B1 := B1.keep bb B1.lt
        replace B2 := B2.keep bb B2.lt
        replace B3 := B3.keep bb B3.lt
        replace S := S.call bb
        replace S3 := S3.call bb
        replace bel := belowCall bel bb
        clear bb
        have b10 := B1.cell 0
        have b1l := B1.lt
        have b20 := B2.cell 0
        have b21 := B2.cell 1
        have b22 := B2.cell 2
        have b23 := B2.cell 3
        have b2l := B2.lt
        go_wp2_with fail
        go_at_call 45
        refine (mk_of hdn (cD _ S)).mono ?_
        rintro e wd ⟨a', G', rfl, I, bb⟩
        clear b10 b1l b20 b21 b22 b23 b2l
        replace B3 := B3.keep bb B3.lt
        replace bel := belowCall bel bb
        clear bb
        have b30 := B3.cell 0
        have b3l := B3.lt
        have f0 := B3.free 0
        go_wp2_with fail
        have B9 := B3.set 0 (.slice a' dn G')
        have bel9 := bel.setCell (p := ⟨w.heap.size + 1 + 1, 0, none⟩) (Nat.le_trans (Nat.le_succ _) (Nat.le_succ _)) (.slice a' dn G')
        have I9 := IsS.boxed (I) B3 (.slice a' dn G')
        have i0 := B9.cell 0
        exact bodyPost_ret (v := .tuple #[.agg #[.slice a' dn G'], .int .i64 E]) (by simp [results, Tryz.results22, go_sem, i0]) rfl ⟨_, _, rfl, I9, bel9⟩
    · have hE : nextE C r = recE r := by unfold nextE; rw [if_neg (by simp [hz]), if_pos hr]
      have hD : nextL C r = [] := next_bad (by rw [hE]; exact hr)
      have hzd : decide (recE r = 0) = false := decide_eq_false hr
      rw [hz] at cC
      rw [hD] at hdn ⊢
      rw [hE]
      obtain rfl : dn = 0 := hdn.out
      generalize recE r = E at *
      obtain ⟨K, s', m', l⟩ := r
      simp only at *
      clear hE hD hdn hz
      go_enter Tryz.func22, Tryz.ntmps22
      go_upto_region 1 with fail
      generalize World.alloc (World.alloc (World.alloc w _) _) _ = wa at *
      have b10 := B1.cell 0
      have b1l := B1.lt
      go_wp2_with fail
      go_at_call 40
      refine (cC _ S).mono ?_
      rintro e wb ⟨rfl, bb⟩
      clear b10 b1l
      replace B1 := B1.keep bb B1.lt
      replace B2 := B2.keep bb B2.lt
      replace B3 := B3.keep bb B3.lt
      replace S := S.call bb
      replace S3 := S3.call bb
      replace bel := belowCall bel bb
      clear bb
      have b20 := B2.cell 0
      have b21 := B2.cell 1
      have b22 := B2.cell 2
      have b23 := B2.cell 3
      have b2l := B2.lt
      go_wp2_with fail
      go_at_call 41
      refine (cN _ S3).mono ?_
      rintro e wc ⟨rfl, bb⟩
      clear b20 b21 b22 b23 b2l
      replace B1 := B1.keep bb B1.lt
      replace B2 := B2.keep bb B2.lt
      replace B3 := B3.keep bb B3.lt
      replace S := S.call bb
      replace S3 := S3.call bb
      replace bel := belowCall bel bb
      clear bb
      have b30 := B3.cell 0
      have b3l := B3.lt
      have f0 := B3.free 0
      go_wp2_with fail
      have B9 := B3.set 0 (.slice none 0 0)
      have bel9 := bel.setCell (p := ⟨w.heap.size + 1 + 1, 0, none⟩) (Nat.le_trans (Nat.le_succ _) (Nat.le_succ _)) (.slice none 0 0)
      have I9 := IsS.boxed (IsS.none _) B3 (.slice none 0 0)
      have i0 := B9.cell 0
      exact bodyPost_ret (v := .tuple #[.agg #[.slice none 0 0], .int .i64 E]) (by simp [results, Tryz.results22, go_sem, i0]) rfl ⟨_, _, rfl, I9, bel9⟩
  · have hE : nextE C r = shelfE C := if_pos hz
    have hD : nextL C r = [] := if_pos hz
    have hzd : decide (shelfE C = 0) = false := decide_eq_false hz
    rw [hD] at hdn ⊢
    rw [hE]
    obtain rfl : dn = 0 := hdn.out
    generalize shelfE C = E at *
    obtain ⟨K, s', m', l⟩ := r
    simp only at *
    clear hE hD hdn
    go_enter Tryz.func22, Tryz.ntmps22
    go_upto_region 1 with fail
    generalize World.alloc (World.alloc (World.alloc w _) _) _ = wa at *
    have b10 := B1.cell 0
    have b1l := B1.lt
    go_wp2_with fail
    go_at_call 40
    refine (cC _ S).mono ?_
    rintro e wb ⟨rfl, bb⟩
    clear b10 b1l
    replace B1 := B1.keep bb B1.lt
    replace B2 := B2.keep bb B2.lt
    replace B3 := B3.keep bb B3.lt
    replace S := S.call bb
    replace S3 := S3.call bb
    replace bel := belowCall bel bb
    clear bb
    have b30 := B3.cell 0
    have b3l := B3.lt
    have f0 := B3.free 0
    go_wp2_with fail
    have B9 := B3.set 0 (.slice none 0 0)
    have bel9 := bel.setCell (p := ⟨w.heap.size + 1 + 1, 0, none⟩) (Nat.le_trans (Nat.le_succ _) (Nat.le_succ _)) (.slice none 0 0)
    have I9 := IsS.boxed (IsS.none _) B3 (.slice none 0 0)
    have i0 := B9.cell 0
    exact bodyPost_ret (v := .tuple #[.agg #[.slice none 0 0], .int .i64 E]) (by simp [results, Tryz.results22, go_sem, i0]) rfl ⟨_, _, rfl, I9, bel9⟩

end Go.Proofs.YtabeihkfjlmepaaGreatDoor

/-
  store.Replay: what the records of a whole log make of a new shelf.
-/
namespace Go.Proofs.YtabeihkfjlmepaaGreatDoor
open Go.RowKit

theorem repl_many {R : List Rc} (h : 60 < R.length) : replE R = 2 ∧ replL R = [] := ⟨if_pos h, if_pos h⟩
theorem repl_few {R : List Rc} (h : ¬ 60 < R.length) : replE R = (workAll newS R).2 ∧ replL R = (workAll newS R).1 := ⟨if_neg h, if_neg h⟩

theorem work_take {R : List Rc} {k : Nat} {C : List Rw} {x : Rc} (h : workAll newS (R.take k) = (C, 0)) (hx : R[k]? = some x) :
    (nextE C x = 0 → workAll newS (R.take (k + 1)) = (nextL C x, 0)) ∧ (nextE C x ≠ 0 → workAll newS R = ([], nextE C x)) := by
  have h1 : (workAll newS (R.take k)).1 = C := by rw [h]
  have h2 : (workAll newS (R.take k)).2 = 0 := by rw [h]
  refine ⟨fun hz => ?_, fun hz => ?_⟩
  · rw [List.take_add_one, hx]
    have := workAll_snoc (R.take k) x newS h2
    rw [h1, if_pos hz] at this
    exact this
  · have hk : k < R.length := (List.getElem?_eq_some_iff.1 hx).1
    have e : R = R.take k ++ x :: R.drop (k + 1) := by
      conv => lhs; rw [← List.take_append_drop k R]
      rw [List.drop_eq_getElem_cons hk]
      have := (List.getElem?_eq_some_iff.1 hx).2
      rw [this]
    rw [e]
    have := workAll_stop (R.take k) (R.drop (k + 1)) x newS h2 (by rw [h1]; exact hz)
    rw [h1] at this
    exact this

theorem work_shelf {R : List Rc} {k : Nat} {C : List Rw} (h : workAll newS (R.take k) = (C, 0)) : shelfE C = 0 := by
  have := workAll_right (R.take k) newS fresh_right (by rw [h])
  rwa [h] at this

set_option maxHeartbeats 2000000 in
set_option maxRecDepth 100000 in
theorem replay_any (l : List Lrc) (la : Option Addr) (n c dn : Nat) (w : World) (S : SlRec w la c l) (hn : Hid (n = l.length)) (hdn : Hid (dn = (replL (l.map (·.r))).length)) :
    Calls Tryz.prog 19 #[.slice la n c] w (Mk (replE (l.map (·.r))) (replL (l.map (·.r))) dn w) := by
  have hmax := S.row.max
  have hle := S.row.le
  have hnc : n ≤ c := by rw [hn.out]; exact hle
  obtain ⟨R, hR⟩ : ∃ R, R = l.map (·.r) := ⟨_, rfl⟩
  have hRl : R.length = n := by rw [hR, List.length_map, hn.out]
  rw [← hR] at hdn ⊢
  have BR := Blk.laid w [.slice none 0 0] 46 _ rfl
  have bel := newB (Below.refl w.heap.size w) (.cells #[.slice none 0 0] 46)
  by_cases hm : 60 < n
  · have hm' : (60 : Int) < n := by omega
    obtain ⟨e1, e2⟩ := repl_many (R := R) (by omega)
    rw [e2] at hdn ⊢
    rw [e1]
    obtain rfl : dn = 0 := hdn.out
    clear hdn e1 e2 hR hRl hmax hle
    go_enter Tryz.func19, Tryz.ntmps19
    go_upto_region 1 with fail
    generalize World.alloc w _ = w1 at *
    have x0 := BR.cell 0
    have f0 := BR.free 0
    have xl := BR.lt
    go_wp2_with fail
    have B9 := BR.set 0 (.slice none 0 0)
    have bel9 := bel.setCell (p := ⟨w.heap.size, 0, none⟩) (Nat.le_refl _) (.slice none 0 0)
    have I9 := (IsS.none w1).boxed BR (.slice none 0 0)
    have i0 := B9.cell 0
    exact bodyPost_ret (v := .tuple #[.agg #[.slice none 0 0], .int .i64 2]) (by simp [results, Tryz.results19, go_sem, i0]) rfl ⟨_, _, rfl, I9, bel9⟩
  · have hm' : ¬ (60 : Int) < n := by omega
    obtain ⟨e1, e2⟩ := repl_few (R := R) (by omega)
    rw [e2] at hdn ⊢
    rw [e1]
    have hn60 : n ≤ 60 := by omega
    have hxR : ∀ (k : Nat) (x : Lrc), l[k]? = some x → R[k]? = some x.r := by
      intro k x hx
      rw [hR, List.getElem?_map, hx]
      rfl
    clear e1 e2 hmax hle
    generalize hEE : (workAll newS R).2 = EE at *
    generalize hDD : (workAll newS R).1 = DD at *
    replace hEE := hide hEE
    replace hDD := hide hDD
    replace hR := hide hR
    replace hRl := hide hRl
    go_enter Tryz.func19, Tryz.ntmps19
    go_upto_region 1 with fail
    generalize World.alloc w _ = w1 at *
    go_wp2_with fail
    go_at_call 37
    refine (new_is _).mono ?_
    rintro e w2 ⟨aN, GN, rfl, IN, b2⟩
    have BS := Blk.laid w2 [.slice aN 4 GN] 46 _ rfl
    have bq := newB b2 (.cells #[.slice aN 4 GN] 46)
    have IN2 := IN.alloc (.cells #[.slice aN 4 GN] 46)
    have lgS : w.heap.size < w2.heap.size := Nat.lt_of_lt_of_le BR.lt b2.size
    replace BR := BR.keep bq BR.lt
    replace bel := belowCall bel bq
    clear b2 bq IN
    go_upto_region 4 with fail
    generalize w2.heap.size = gS at *
    generalize World.alloc w2 _ = w3 at *
    go_wp2_with fail
    go_loopw [15] (fun i wr => ∃ (k : Nat) (aS : Option Addr) (cS : Nat) (C : List Rw), k ≤ n ∧ i = .int .i64 k ∧ Blk wr w.heap.size [.slice none 0 0] 46 ∧ Blk wr gS [.slice aS 4 cS] 46 ∧ IsS wr aS cS C ∧ Hid (workAll newS (R.take k) = (C, 0)) ∧ Below w.heap.size w wr) (fun i _ => n - (intOf i).toNat)
    case atStart => exact ⟨0, aN, GN, newS, Nat.zero_le _, rfl, BR, BS, IN2, by simp [workAll, Hid], bel⟩
    case round =>
      clear BR BS IN2 bel
      obtain ⟨k, aS, cS, C, hk, rfl, BR, BS, I, hC, bel⟩ := hrel
      have hz := work_shelf hC.out
      have h4 := hide (right_len hz)
      by_cases hlt : k < n
      · have hkl : k < l.length := by rw [← hn.out]; exact hlt
        obtain ⟨x, hx⟩ : ∃ x, l[k]? = some x := ⟨_, List.getElem?_eq_getElem hkl⟩
        obtain ⟨lb, lo, rfl, hlb⟩ := S.row.where Lrc.four (by decide) (by intro h; subst h; simp at hkl)
        have S' := S.keep bel (Nat.le_refl _)
        have d0 := S'.row.cell Lrc.four k 0 x _ hx rfl
        have d1 := S'.row.cell Lrc.four k 1 x _ hx rfl
        have d2 := S'.row.cell Lrc.four k 2 x _ hx rfl
        have d3 := S'.row.cell Lrc.four k 3 x _ hx rfl
        simp only [Nat.add_zero] at d0
        have llb := Nat.lt_of_lt_of_le hlb bel.size
        have hent := S'.ent x (List.mem_of_getElem? hx)
        obtain ⟨wz, wb⟩ := work_take hC.out (hxR k x hx)
        obtain ⟨dk, hdk⟩ : ∃ d, Hid (d = (nextL C x.r).length) := ⟨_, hide rfl⟩
        have cN := fun W h t => next_any C x.r aS x.a cS x.c x.r.e.length 4 dk W h t (hide rfl) (hide h4.out.symm) hdk
        have BC := Blk.laid wr x.cells 27 _ rfl
        have bc := newB (Below.refl wr.heap.size wr) (.cells x.cells.toArray 27)
        have hent1 := hent.call bc
        have I1 := I.call bc
        replace BR := BR.keep bc BR.lt
        replace BS := BS.keep bc BS.lt
        have bel1 := bel.trans (bc.mono bel.size)
        have ly := right_len hz
        simp only [Lrc.cells] at BC bc hent1 I1 BR BS bel1
        replace hx := hide hx
        clear S' hkl hent I bc bel ly
        go_upto_region 7 with fail
        generalize wr.heap.size = gC at *
        generalize World.alloc wr _ = w4 at *
        have x0 := BC.cell 0
        have x1 := BC.cell 1
        have x2 := BC.cell 2
        have x3 := BC.cell 3
        have lC := BC.lt
        have y0 := BS.cell 0
        have lS := BS.lt
        go_wp2_with fail
        go_at_call 22
        refine (cN _ I1 hent1).mono ?_
        rintro e w5 ⟨a', G', rfl, I5, b5⟩
        clear x0 x1 x2 x3 lC y0 lS I1 hent1 cN BC
        replace BR := BR.keep b5 BR.lt
        replace BS := BS.keep b5 BS.lt
        replace bel1 := bel1.trans (b5.mono bel1.size)
        clear b5
        have y0 := BS.cell 0
        have f0 := BS.free 0
        have lS := BS.lt
        have BS6 := BS.set 0 (.slice a' dk G')
        have BR6 : Blk (w5.setCell ⟨gS, 0, none⟩ (.slice a' dk G')) w.heap.size [.slice none 0 0] 46 := BR.other 0 _ (by omega)
        have I6 := I5.boxed BS (.slice a' dk G')
        have bel6 := bel1.setCell (p := ⟨gS, 0, none⟩) (Nat.le_of_lt lgS) (.slice a' dk G')
        by_cases hE : nextE C x.r = 0
        · rw [hE]
          have hw := wz hE
          obtain rfl : dk = 4 := by rw [hdk.out]; exact right_len (next_right hE)
          clear wz wb
          go_wp2_with fail
          go_roundw
          case rel => exact ⟨k + 1, a', G', nextL C x.r, by omega, by go_num, BR6, BS6, I6, hide hw, bel6⟩
          case measure => simp [intOf]; omega
        · have hw := wb hE
          have hzd : decide (nextE C x.r = 0) = false := decide_eq_false hE
          generalize nextE C x.r = E at *
          obtain rfl : DD = [] := by rw [← hDD.out, hw]
          obtain rfl : EE = E := by rw [← hEE.out, hw]
          obtain rfl : dn = 0 := hdn.out
          clear wz wb hEE hDD hw
          go_upto_region 9 with fail
          clear y0 f0 lS BS I5 bel1 BR
          generalize World.setCell w5 _ _ = w6 at *
          have z0 := BR6.cell 0
          have f0 := BR6.free 0
          have lR := BR6.lt
          go_wp2_with fail
          have B9 := BR6.set 0 (.slice none 0 0)
          have bel9 := bel6.setCell (p := ⟨w.heap.size, 0, none⟩) (Nat.le_refl _) (.slice none 0 0)
          have I9 := (IsS.none w6).boxed BR6 (.slice none 0 0)
          have i0 := B9.cell 0
          exact bodyPost_ret (v := .tuple #[.agg #[.slice none 0 0], .int .i64 EE]) (by simp [results, Tryz.results19, go_sem, i0]) rfl ⟨_, _, rfl, I9, bel9⟩
      · obtain rfl : k = n := by omega
        have hw := hC.out
        rw [List.take_of_length_le (by rw [hRl.out]; exact Nat.le_refl _)] at hw
        obtain rfl : DD = C := by rw [← hDD.out, hw]
        obtain rfl : EE = 0 := by rw [← hEE.out, hw]
        obtain rfl : dn = 4 := hdn.out.trans h4.out
        clear hw hEE hDD
        have y0 := BS.cell 0
        have lS := BS.lt
        have z0 := BR.cell 0
        have f0 := BR.free 0
        have lR := BR.lt
        go_wp2_with fail
        have B9 := BR.set 0 (.slice aS 4 cS)
        have bel9 := bel.setCell (p := ⟨w.heap.size, 0, none⟩) (Nat.le_refl _) (.slice aS 4 cS)
        have I9 := I.boxed BR (.slice aS 4 cS)
        have i0 := B9.cell 0
        exact bodyPost_ret (v := .tuple #[.agg #[.slice aS 4 cS], .int .i64 0]) (by simp [results, Tryz.results19, go_sem, i0]) rfl ⟨_, _, rfl, I9, bel9⟩

end Go.Proofs.YtabeihkfjlmepaaGreatDoor

/-
  What the closed fact 'stored' reckons, as plain lists. No program is named.
-/
namespace Go.Proofs.YtabeihkfjlmepaaGreatDoor

def rSt : Rc := ⟨2, 1, 1, []⟩
def rDr : Rc := ⟨4, 0, 11, []⟩
def rNo : Rc := ⟨0, 0, 0, []⟩
def rBt : Rc := ⟨1, 0, 0, [(1, 10, -5), (2, 3, 4)]⟩

def stC : List Rw := replL [rBt, rSt]
def stD : List Rw := nextL stC rDr

theorem st_e : replE [rBt, rSt] = 0 := by decide +kernel
theorem st_4 : stC.length = 4 := by decide +kernel
theorem st_f : nextE stC rDr = 0 := by decide +kernel
theorem st_d4 : stD.length = 4 := by decide +kernel
theorem st_g : nextE stC rBt = 7 := by decide +kernel
theorem st_g0 : nextL stC rBt = [] := next_bad (by rw [st_g]; decide)
theorem st_h : nextE stC rNo = 4 := by decide +kernel
theorem st_h0 : nextL stC rNo = [] := next_bad (by rw [st_h]; decide)
theorem st_i : allE stC 1 = 0 ∧ (allL stC 1).length = 1 := by decide +kernel
theorem st_j : allE stD 1 = 0 ∧ (allL stD 1).length = 0 := by decide +kernel
theorem st_k : allE stD 2 = 0 ∧ (allL stD 2).length = 1 := by decide +kernel

end Go.Proofs.YtabeihkfjlmepaaGreatDoor
