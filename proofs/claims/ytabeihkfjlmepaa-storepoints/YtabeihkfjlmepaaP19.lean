/-
  shelf.Merge: what it answers of a shelf, whatever it is.
-/
import Derived.Test.YtabeihkfjlmepaaHSMerge
import Derived.Test.YtabeihkfjlmepaaP06
import Derived.Test.YtabeihkfjlmepaaHSDelF
import Derived.Test.YtabeihkfjlmepaaP17
import Derived.Test.YtabeihkfjlmepaaHChange
import Derived.Test.YtabeihkfjlmepaaP07
import Derived.Test.YtabeihkfjlmepaaP13
import Derived.Test.YtabeihkfjlmepaaP15
import Derived.Test.YtabeihkfjlmepaaP04
import Derived.Test.YtabeihkfjlmepaaP05
import Derived.Test.YtabeihkfjlmepaaP08
namespace Go.Proofs.Ytabeihkfjlmepaa
open Go.RowKit

theorem merge1_any (n : Int) (cb : Nat) (l : List Rw) (hE : shelfE l = 0) (base box g k : Nat) (rs : List Lr) (W : World) (hk : k < 4) (Bc : Blk W cb [.int .i64 n] 3) (C : Copied l base box g rs W) :
    Calls Try.prog 41 #[.pointer (some ⟨g, k * 2, none⟩), .pointer (some ⟨cb, 0, none⟩)] W (Does (mrgE l k n) (mrgL l k n) base box g W) := by
  have hR := right_of hE
  obtain ⟨r, hr, hrw, e0, e1, oR, f1, f2⟩ := C.row hR k hk
  have d0 : W.cell? ⟨cb, 0, none⟩ = some (.int .i64 n) := Bc.cell 0
  have hi : inI (k : Int) 0 3 = true := by unfold inI; simp; omega
  have hbk : (l.getD k rw0).blocks = r.bs.map Lb.b := by rw [← hrw]; rfl
  have hhd : (l.getD k rw0).head = r.hd := by rw [← hrw]; rfl
  cases hn : inI n 0 ((r.bs.length : Int) - 2) with
  | false =>
    have e : mrgE l k n = 3 := by unfold mrgE; rw [hi, Int.toNat_natCast, hbk, List.length_map, hn]; rfl
    rw [e]
    refine (merge1_range n cb g k r.bs.length r.bc r.ba W d0 e0 f1 hn).mono ?_
    rintro e W' ⟨rfl, q, rfl⟩
    exact ⟨rfl, belowDrewN (Below.refl _ _) _, fun h => by cases h⟩
  | true =>
    have hn2 : 0 ≤ n ∧ n ≤ (r.bs.length : Int) - 2 := by unfold inI at hn; simpa using hn
    obtain ⟨q, rfl⟩ : ∃ q : Nat, n = q := ⟨n.toNat, by omega⟩
    obtain ⟨x, hx⟩ : ∃ x, r.bs[q]? = some x := ⟨_, List.getElem?_eq_getElem (by omega)⟩
    obtain ⟨y, hy⟩ : ∃ y, r.bs[q + 1]? = some y := ⟨_, List.getElem?_eq_getElem (by omega)⟩
    have bx : blkAt (l.getD k rw0) q = x.b := by unfold blkAt; rw [hbk]; simp [List.getD, hx]
    have b_y : blkAt (l.getD k rw0) (q + 1) = y.b := by unfold blkAt; rw [hbk]; simp [List.getD, hy]
    have e : mrgE l k q = mergeE x.b y.b := by unfold mrgE; rw [hi, Int.toNat_natCast, Int.toNat_natCast, hbk, List.length_map, hn, bx, b_y]; rfl
    refine (merge1_go q cb l base box g k (r.bs.length - 1) rs r x y W hR C hr Bc (by omega) (by omega) (by omega) hx hy).mono ?_
    rintro e' W' ⟨rfl, b, hf⟩
    refine ⟨by rw [e], b, fun hz => ?_⟩
    obtain ⟨rs', p1, p2, p3, p4⟩ := hf (by rw [← e]; exact hz)
    refine ⟨rs', p1, p2, ?_, p4⟩
    unfold mrgL
    rw [if_pos hz, p3, Int.toNat_natCast, Int.toNat_natCast, bx, b_y, hbk, hhd, List.map_take, List.map_drop]

set_option maxHeartbeats 1000000 in
set_option maxRecDepth 100000 in
/-- Merge, whatever it is handed. -/
theorem sMerge_any (l : List Lr) (ao : Option Addr) (cap : Nat) (s n : Int) (w : World) (hs : SlR w ao cap l) :
    Calls Try.prog 18 #[.agg #[.slice ao l.length cap], .int .i64 s, .int .i64 n] w fun e w' => ∃ rs a' G, e = .returned (.tuple #[.agg #[.slice a' rs.length G], .int .i64 (chE (l.map Lr.rw) (mrgE (l.map Lr.rw) s n))]) ∧ rs.map Lr.rw = chL (l.map Lr.rw) (mrgE (l.map Lr.rw) s n) (mrgL (l.map Lr.rw) s n) ∧ SlR w' a' G rs ∧ Below w.heap.size w w' := by
  have B1 := (Blk.laid (w.alloc (.cells #[.slice ao l.length cap] 24)) [.int .i64 n] 3 (w.heap.size + 1) (by simp)).alc (.cells #[.slice none 0 0] 24)
  have R1 := Blk.laid ((w.alloc (.cells #[.slice ao l.length cap] 24)).alloc (.cells #[.int .i64 n] 3)) [.slice none 0 0] 24 (w.heap.size + 2) (by simp)
  have bel1 := below3 w (.cells #[.slice ao l.length cap] 24) (.cells #[.int .i64 n] 3) (.cells #[.slice none 0 0] 24)
  have s1 := hs.keep bel1 (Nat.le_refl _)
  have c := fun W (S : SlR W ao cap l) (B : Blk W (w.heap.size + 1) [.int .i64 n] 3) => changeRowM (.pointer (some ⟨w.heap.size + 1, 0, none⟩)) s (mrgE (l.map Lr.rw) s n) (mrgL (l.map Lr.rw) s n) l ao cap W S
    (fun h => by unfold mrgE; rw [if_pos h])
    (fun hE W2 base box g rs hb b2 C k hk hk4 => by
      subst hk
      exact merge1_any n (w.heap.size + 1) (l.map Lr.rw) hE base box g k rs W2 hk4 (B.keep b2 B.lt) C)
  generalize chL (l.map Lr.rw) (mrgE (l.map Lr.rw) s n) (mrgL (l.map Lr.rw) s n) = X at *
  generalize chE (l.map Lr.rw) (mrgE (l.map Lr.rw) s n) = E at *
  generalize l.length = m at *
  go_enter Try.func18, Try.ntmps18
  go_wp2_with fail
  generalize ((w.alloc _).alloc _).alloc _ = w1 at *
  go_at_call 38
  refine (c _ s1 B1).mono ?_
  rintro e w2 ⟨rs, a', G, rfl, hX, s2, fr, b2⟩
  have R2 := R1.keep b2 R1.lt
  have bel2 := belowCall bel1 b2
  have r0 : w2.cell? ⟨w.heap.size + 2, 0, none⟩ = some (.slice none 0 0) := R2.cell 0
  have r1 := R2.free 0
  have s3 := s2.written (onlyOne none 0 0) R2 (i := 0) (u := .slice a' rs.length G) (fun ad e => by have := fr ad e; have := R1.lt; omega)
  have bel3 := bel2.setCell (p := ⟨w.heap.size + 2, 0, none⟩) (by show w.heap.size ≤ w.heap.size + 2; omega) (.slice a' rs.length G)
  replace s3 := hide s3
  replace hX := hide hX
  clear s2 R1 R2 s1 B1 c hs
  go_wp2_with fail
  exact bodyPost_ret (v := .tuple #[.agg #[.slice a' rs.length G], .int .i64 E]) (by simp [results, Try.results18, go_sem, r0]) rfl ⟨rs, a', G, rfl, hX.out, s3.out, bel3⟩

end Go.Proofs.Ytabeihkfjlmepaa

/-
  What a drop makes of a shelf, as plain lists. No program is named.
-/
namespace Go.Proofs.Ytabeihkfjlmepaa
open Go.RowKit

def dropE (n : Int) : Int := if inI n 0 100001 = false then 3 else 0

def dropRw (n : Int) (r : Rw) : Rw := ⟨r.blocks.filter (fun b => !decide (b.to < n)), r.head⟩

def dropL (l : List Rw) (n : Int) : List Rw := if dropE n = 0 then l.map (dropRw n) else []

end Go.Proofs.Ytabeihkfjlmepaa

/-
  shelf.Drop: what it answers of a shelf, whatever it is.
-/
namespace Go.Proofs.Ytabeihkfjlmepaa
open Go.RowKit

set_option maxHeartbeats 1000000 in
set_option maxRecDepth 100000 in
theorem drop1_range (n : Int) (cb box : Nat) (W : World) (d0 : W.cell? ⟨cb, 0, none⟩ = some (.int .i64 n)) (h : inI n 0 100001 = false) :
    Calls Try.prog 44 #[.pointer (some ⟨box, 0, none⟩), .pointer (some ⟨cb, 0, none⟩)] W fun e W' => e = .returned (.int .i64 3) ∧ W' = W := by
  by_cases h0 : n < 0
  · clear h
    go_enter Try.func44, Try.ntmps44
    go_wp2_with fail
    go_ret
    exact ⟨rfl, rfl⟩
  · have h1 : 100001 < n := by unfold inI at h; simp at h; omega
    clear h
    go_enter Try.func44, Try.ntmps44
    go_wp2_with fail
    go_ret
    exact ⟨rfl, rfl⟩

theorem keptB_rw (n : Int) (l : List Lb) : (keptB n l).map Lb.b = (l.map Lb.b).filter (fun b => !decide (b.to < n)) := by
  unfold keptB overB
  rw [List.filter_map]
  rfl

theorem drop_step {n : Int} {l : List Rw} {rs : List Lr} {r y : Lr} {i : Nat} (h : rs.map Lr.rw = (l.take i).map (dropRw n) ++ l.drop i) (hl : rs.length = l.length) (hr : rs[i]? = some r) (hy : y.rw = dropRw n r.rw) :
    (rs.set i y).map Lr.rw = (l.take (i + 1)).map (dropRw n) ++ l.drop (i + 1) := by
  have hi : i < l.length := by rw [← hl]; exact (List.getElem?_eq_some_iff.1 hr).1
  have e : (rs.map Lr.rw)[i]? = some r.rw := by rw [List.getElem?_map, hr]; rfl
  have lt : ((l.take i).map (dropRw n)).length = i := by rw [List.length_map, List.length_take]; omega
  rw [h, List.getElem?_append_right (by omega), lt, Nat.sub_self, List.getElem?_drop, Nat.add_zero] at e
  have hd : l.drop i = r.rw :: l.drop (i + 1) := by
    obtain ⟨hk', e'⟩ := List.getElem?_eq_some_iff.1 e
    rw [← e']
    exact List.drop_eq_getElem_cons hk'
  rw [List.map_set, h, List.set_append_right _ _ (by omega), lt, Nat.sub_self, hd, List.set_cons_zero, hy, List.take_add_one, e, List.map_append, List.append_assoc]
  rfl

set_option maxHeartbeats 2000000 in
set_option maxRecDepth 100000 in
theorem drop1_ok (n : Int) (cb : Nat) (l : List Rw) (base box g : Nat) (rs : List Lr) (W : World) (hR : Right l) (Bc : Blk W cb [.int .i64 n] 3) (hcb : cb < base) (C : Copied l base box g rs W) (h : inI n 0 100001 = true) :
    Calls Try.prog 44 #[.pointer (some ⟨box, 0, none⟩), .pointer (some ⟨cb, 0, none⟩)] W (Does 0 (l.map (dropRw n)) base box g W) := by
  have d0 : W.cell? ⟨cb, 0, none⟩ = some (.int .i64 n) := Bc.cell 0
  have h0 : ¬ n < 0 := by unfold inI at h; simp at h; omega
  have h1 : ¬ 100001 < n := by unfold inI at h; simp at h; omega
  have d1 : W.cell? ⟨box, 0, none⟩ = some (.slice (some ⟨g, 0, none⟩) 4 4) := C.out.cell 0
  have S0 := CutS.start C hR
  have l4 : rs.length = l.length := by rw [← C.same, List.length_map]
  have hl := hR.four
  have m0 : rs.map Lr.rw = (l.take 0).map (dropRw n) ++ l.drop 0 := by rw [C.same]; simp
  have b0 := Below.refl base W
  have hbase := C.base
  replace S0 := hide S0
  replace l4 := hide l4
  replace hl := hide hl
  replace m0 := hide m0
  clear h C hR
  go_enter Try.func44, Try.ntmps44
  go_wp2_with fail
  go_loopw [19] (fun s wr => ∃ (i : Nat) (rs' : List Lr), i ≤ 4 ∧ s = .int .i64 i ∧ Hid (rs'.length = l.length) ∧ Hid (rs'.map Lr.rw = (l.take i).map (dropRw n) ++ l.drop i) ∧ Hid (CutS base box g i rs' wr) ∧ Below base W wr) (fun s _ => 4 - (intOf s).toNat)
  case atStart => exact ⟨0, rs, by omega, rfl, l4, m0, S0, b0⟩
  case round =>
    clear S0 l4 m0 b0 d0 d1
    obtain ⟨i, rs', hi, rfl, l4, m0, S0, b0⟩ := hrel
    by_cases hlt : i < 4
    · obtain ⟨r, hr⟩ : ∃ r, rs'[i]? = some r := ⟨_, List.getElem?_eq_getElem (by rw [l4.out, hl.out]; exact hlt)⟩
      obtain ⟨-, f1, f2, ho⟩ := S0.out.each i r hr
      have oR := ho (Nat.le_refl _)
      obtain ⟨bg, eb, lo, B⟩ := oR.bs
      have Bc1 := Bc.keep b0 hcb
      have d1 : wr.cell? ⟨box, 0, none⟩ = some (.slice (some ⟨g, 0, none⟩) 4 4) := S0.out.out.cell 0
      obtain ⟨m, hm⟩ : ∃ m, m = r.bs.length := ⟨_, rfl⟩
      have e0 : wr.cell? ⟨g, i * 2, none⟩ = some (.slice (some ⟨bg, 0, none⟩) m m) := by
        rw [S0.out.rows.cell]
        refine (flat_get Lr.two _ i 0 _ hr (by decide)).trans ?_
        show some (Value.slice r.ba r.bs.length r.bc) = _
        rw [eb, oR.bc, ← hm]
      have c := fun W B Bc => deleteF r.bs n bg cb m W B Bc hm.symm (by rw [hm, ← oR.bc]; exact f1)
      have neg : ∀ j, some bg = some j → j ≠ g := by
        intro j e
        obtain rfl := Option.some.inj e
        rintro rfl
        exact absurd (blkType B S0.out.rows) (by decide)
      have sub : ∀ x ∈ keptB n r.bs, x ∈ r.bs := fun x hx => (List.mem_filter.1 hx).1
      have kr : (⟨keptB n r.bs, some ⟨bg, 0, none⟩, m, r.hd, r.ha, r.hc⟩ : Lr).rw = dropRw n r.rw := by unfold Lr.rw dropRw; simp only [keptB_rw]
      generalize keptB n r.bs = kept at *
      have hb1 := S0.out.base
      replace hr := hide hr
      replace hm := hide hm
      replace eb := hide eb
      replace neg := hide neg
      replace sub := hide sub
      replace kr := hide kr
      clear oR ho
      go_wp2_with fail
      go_at_call 46
      refine (c _ B Bc1).mono ?_
      rintro e w2 ⟨tail, rfl, hlen, B2, grow2⟩
      have G2 := S0.out.rows.grown grow2 neg.out
      have e2 : w2.cell? ⟨g, i * 2, none⟩ = some (.slice (some ⟨bg, 0, none⟩) m m) := by rw [G2.cell, ← S0.out.rows.cell]; exact e0
      have fz := G2.free (i * 2)
      obtain ⟨S3, b3⟩ := S0.out.step hr.out eb.out hm.out grow2 B2 hlen sub.out
      have m3 := hide (drop_step m0.out l4.out hr.out kr.out)
      have b4 := b0.trans b3
      replace S3 := hide S3
      replace hlen := hide hlen
      clear B B2 grow2 c Bc1 G2 b3 d1 e0
      go_wp2_with fail
      go_roundw
      case rel => exact ⟨i + 1, _, by omega, by go_num, hide (by rw [List.length_set]; exact l4.out), m3, S3, b4⟩
      case measure => simp [intOf]; omega
    · obtain rfl : i = 4 := by omega
      have m1 := m0.out
      rw [List.take_of_length_le (by rw [hl.out]; exact Nat.le_refl _), List.drop_eq_nil_of_le (by rw [hl.out]; exact Nat.le_refl _), List.append_nil] at m1
      have F := hide S0.out.fin
      have O := S0.out.out
      replace m1 := hide m1
      clear S0
      go_wp2_with fail
      go_ret
      exact ⟨rfl, b0, fun _ => ⟨rs', F.out, by rw [l4.out, hl.out], m1.out, O⟩⟩

theorem drop1_any (n : Int) (cb : Nat) (l : List Rw) (base box g : Nat) (rs : List Lr) (W : World) (hR : Right l) (Bc : Blk W cb [.int .i64 n] 3) (hcb : cb < base) (C : Copied l base box g rs W) :
    Calls Try.prog 44 #[.pointer (some ⟨box, 0, none⟩), .pointer (some ⟨cb, 0, none⟩)] W (Does (dropE n) (dropL l n) base box g W) := by
  cases h : inI n 0 100001 with
  | false =>
    have e : dropE n = 3 := by unfold dropE; rw [if_pos h]
    rw [e]
    refine (drop1_range n cb box W (Bc.cell 0) h).mono ?_
    rintro e W' ⟨rfl, rfl⟩
    exact ⟨rfl, Below.refl _ _, fun h => by cases h⟩
  | true =>
    have e : dropE n = 0 := by unfold dropE; rw [h]; rfl
    have e2 : dropL l n = l.map (dropRw n) := by unfold dropL; rw [if_pos e]
    rw [e, e2]
    exact drop1_ok n cb l base box g rs W hR Bc hcb C h

set_option maxHeartbeats 1000000 in
set_option maxRecDepth 100000 in
/-- Drop, whatever it is handed. -/
theorem sDrop_any (l : List Lr) (ao : Option Addr) (cap : Nat) (n : Int) (w : World) (hs : SlR w ao cap l) :
    Calls Try.prog 19 #[.agg #[.slice ao l.length cap], .int .i64 n] w fun e w' => ∃ rs a' G, e = .returned (.tuple #[.agg #[.slice a' rs.length G], .int .i64 (chE (l.map Lr.rw) (dropE n))]) ∧ rs.map Lr.rw = chL (l.map Lr.rw) (dropE n) (dropL (l.map Lr.rw) n) ∧ SlR w' a' G rs ∧ Below w.heap.size w w' := by
  have B1 := (Blk.laid (w.alloc (.cells #[.slice ao l.length cap] 24)) [.int .i64 n] 3 (w.heap.size + 1) (by simp)).alc (.cells #[.slice none 0 0] 24)
  have R1 := Blk.laid ((w.alloc (.cells #[.slice ao l.length cap] 24)).alloc (.cells #[.int .i64 n] 3)) [.slice none 0 0] 24 (w.heap.size + 2) (by simp)
  have bel1 := below3 w (.cells #[.slice ao l.length cap] 24) (.cells #[.int .i64 n] 3) (.cells #[.slice none 0 0] 24)
  have s1 := hs.keep bel1 (Nat.le_refl _)
  have c := fun W (S : SlR W ao cap l) (B : Blk W (w.heap.size + 1) [.int .i64 n] 3) => changeD (.pointer (some ⟨w.heap.size + 1, 0, none⟩)) (dropE n) (dropL (l.map Lr.rw) n) l ao cap W S
    (fun hE W2 base box g rs hb b2 C => drop1_any n (w.heap.size + 1) (l.map Lr.rw) base box g rs W2 (right_of hE) (B.keep b2 B.lt) (Nat.lt_of_lt_of_le B.lt hb) C)
  generalize chL (l.map Lr.rw) (dropE n) (dropL (l.map Lr.rw) n) = X at *
  generalize chE (l.map Lr.rw) (dropE n) = E at *
  generalize l.length = m at *
  go_enter Try.func19, Try.ntmps19
  go_wp2_with fail
  generalize ((w.alloc _).alloc _).alloc _ = w1 at *
  go_at_call 35
  refine (c _ s1 B1).mono ?_
  rintro e w2 ⟨rs, a', G, rfl, hX, s2, fr, b2⟩
  have R2 := R1.keep b2 R1.lt
  have bel2 := belowCall bel1 b2
  have r0 : w2.cell? ⟨w.heap.size + 2, 0, none⟩ = some (.slice none 0 0) := R2.cell 0
  have r1 := R2.free 0
  have s3 := s2.written (onlyOne none 0 0) R2 (i := 0) (u := .slice a' rs.length G) (fun ad e => by have := fr ad e; have := R1.lt; omega)
  have bel3 := bel2.setCell (p := ⟨w.heap.size + 2, 0, none⟩) (by show w.heap.size ≤ w.heap.size + 2; omega) (.slice a' rs.length G)
  replace s3 := hide s3
  replace hX := hide hX
  clear s2 R1 R2 s1 B1 c hs
  go_wp2_with fail
  exact bodyPost_ret (v := .tuple #[.agg #[.slice a' rs.length G], .int .i64 E]) (by simp [results, Try.results19, go_sem, r0]) rfl ⟨rs, a', G, rfl, hX.out, s3.out, bel3⟩

end Go.Proofs.Ytabeihkfjlmepaa

/-
  The contracts of package shelf over shelves as plain lists: where the parts lie is not told.
-/
namespace Go.Proofs.Ytabeihkfjlmepaa
open Go.RowKit

/-- The rows from the address on are the plain rows C. -/
structure IsS (W : World) (a : Option Addr) (G : Nat) (C : List Rw) : Prop where
  ex : ∃ rs : List Lr, rs.map Lr.rw = C ∧ SlR W a G rs

theorem IsS.call {W W' : World} {a : Option Addr} {G : Nat} {C : List Rw} (h : IsS W a G C) (hb : Below W.heap.size W W') : IsS W' a G C := by
  obtain ⟨rs, e, s⟩ := h.ex
  exact ⟨rs, e, s.call hb⟩

theorem IsS.keep {W W' : World} {a : Option Addr} {G B : Nat} {C : List Rw} (h : IsS W a G C) (hb : Below B W W') (hB : W.heap.size ≤ B) : IsS W' a G C := by
  obtain ⟨rs, e, s⟩ := h.ex
  exact ⟨rs, e, s.keep hb hB⟩

theorem IsS.alloc {W : World} {a : Option Addr} {G : Nat} {C : List Rw} (h : IsS W a G C) (o : Obj) : IsS (W.alloc o) a G C := by
  obtain ⟨rs, e, s⟩ := h.ex
  exact ⟨rs, e, s.alloc o⟩

theorem IsS.drewN {W : World} {a : Option Addr} {G : Nat} {C : List Rw} (h : IsS W a G C) (n : Nat) : IsS (W.drewN n) a G C := by
  obtain ⟨rs, e, s⟩ := h.ex
  exact ⟨rs, e, s.drewN n⟩

theorem IsS.of {W : World} {a : Option Addr} {G : Nat} {l : List Lr} (h : SlR W a G l) : IsS W a G (l.map Lr.rw) := ⟨l, rfl, h⟩

/-- One row of a shelf: its cells, and what they lead to. -/
theorem IsS.at {W : World} {a : Option Addr} {G : Nat} {C : List Rw} (h : IsS W a G C) (k : Nat) (hk : k < C.length) :
    ∃ (b off : Nat) (r : Lr), a = some ⟨b, off, none⟩ ∧ b < W.heap.size ∧ W.cell? ⟨b, off + k * 2, none⟩ = some (.slice r.ba r.bs.length r.bc) ∧ W.cell? ⟨b, off + k * 2 + 1, none⟩ = some (.slice r.ha r.hd.length r.hc) ∧ r.Good W ∧ r.rw = C.getD k rw0 := by
  obtain ⟨rs, rfl, s⟩ := h.ex
  rw [List.length_map] at hk
  obtain ⟨b, off, rfl, hb⟩ := s.where (by intro e; rw [e] at hk; simp at hk)
  obtain ⟨e0, e1, g⟩ := s.at k rs[k] (List.getElem?_eq_getElem hk)
  refine ⟨b, off, rs[k], rfl, hb, e0, e1, g, ?_⟩
  rw [List.getD, List.getElem?_map, List.getElem?_eq_getElem hk]
  rfl

/-- What is owned from here on is owned from further down on. -/
theorem ownDown {w : World} {base base' : Nat} {e : TypeId} {size n : Nat} {v : Value} {xs : List Value} (h : w.ownsRow base e size v n xs) (hb : base' ≤ base) : w.ownsRow base' e size v n xs := by
  refine ⟨h.1, ?_⟩
  rcases h.2 with h0 | ⟨g, cap, cur, e1, h1, h2⟩
  · exact .inl h0
  · exact .inr ⟨g, cap, cur, e1, Nat.le_trans hb h1, h2⟩

/-- Two cells and more do not lie in a block of one. -/
theorem Row.offOne {w : World} {ao : Option Addr} {g : Nat} {C : List Value} {c : Value} {t : TypeId} (h : Row w ao C) (B : Blk w g [c] t) (hC : 2 ≤ C.length) : Off g ao := by
  obtain ⟨b, off, rfl, hb, hc⟩ := h.at (by intro e; rw [e] at hC; simp at hC)
  intro ad e
  cases e
  intro e
  have e : b = g := e
  subst e
  have h0 := hc 0 C[0] (List.getElem?_eq_getElem (by omega))
  have h1 := hc 1 C[1] (List.getElem?_eq_getElem (by omega))
  rw [B.cell] at h0 h1
  have l0 := (List.getElem?_eq_some_iff.1 h0).1
  have l1 := (List.getElem?_eq_some_iff.1 h1).1
  simp at l0 l1

/-- A shelf's box is written; its rows, and another's, stay. -/
theorem IsS.wrote {w : World} {a : Option Addr} {G g : Nat} {C : List Rw} {a1 : Option Addr} {n1 c1 : Nat} {u : Value} (h : IsS w a G C) (B : Blk w g [.slice a1 n1 c1] 24) (hC : C ≠ []) : IsS (w.setCell ⟨g, 0, none⟩ u) a G C := by
  obtain ⟨rs, rfl, s⟩ := h.ex
  have grow := grownSet (grownRefl w (some g)) 0 u
  have hl := flat_length Lr.two rs
  have hp : 0 < rs.length := by
    cases rs with
    | nil => simp at hC
    | cons x r => simp
  exact ⟨rs, rfl, ⟨⟨s.sl.row.off grow (s.sl.row.offOne B (by rw [hl]; omega)), s.sl.le, s.sl.max, s.sl.nil⟩, fun r hr => (s.good r hr).offSl grow B (onlyOne _ _ _)⟩⟩

/-- What a function answers that makes a shelf of one. -/
def Makes (E : Int) (C : List Rw) (W : World) (e : Ending) (w' : World) : Prop :=
  ∃ a' G', e = .returned (.tuple #[.agg #[.slice a' C.length G'], .int .i64 E]) ∧ IsS w' a' G' C ∧ Below W.heap.size W w'

theorem makes_of {E : Int} {C : List Rw} {W : World} {e : Ending} {w' : World} (h : ∃ rs a' G, e = .returned (.tuple #[.agg #[.slice a' rs.length G], .int .i64 E]) ∧ rs.map Lr.rw = C ∧ SlR w' a' G rs ∧ Below W.heap.size W w') : Makes E C W e w' := by
  obtain ⟨rs, a', G, he, rfl, s, b⟩ := h
  exact ⟨a', G, by rw [he, List.length_map], ⟨rs, rfl, s⟩, b⟩

theorem shCheck_is {C : List Rw} {a : Option Addr} {G : Nat} {W : World} (h : IsS W a G C) :
    Calls Try.prog 14 #[.agg #[.slice a C.length G]] W fun e w' => e = .returned (.int .i64 (shelfE C)) ∧ Below W.heap.size W w' := by
  obtain ⟨rs, rfl, s⟩ := h.ex
  rw [List.length_map]
  exact sCheck_any rs a G W s

theorem all_is {C : List Rw} {a : Option Addr} {G : Nat} {W : World} (s : Int) (h : IsS W a G C) :
    Calls Try.prog 12 #[.agg #[.slice a C.length G], .int .i64 s] W fun e w' => ∃ a' G', e = .returned (.tuple #[.slice a' (allL C s).length G', .int .i64 (allE C s)]) ∧
      w'.ownsRow W.heap.size 43 2 (.slice a' (allL C s).length G') (allL C s).length (cellsP (allL C s)) ∧ Below W.heap.size W w' := by
  obtain ⟨rs, rfl, t⟩ := h.ex
  rw [List.length_map]
  exact sAll_any rs a G s W t

def freshL : List Rw := [rw0, rw0, rw0, rw0]

theorem new_is (W : World) :
    Calls Try.prog 20 #[] W fun e w' => ∃ a' G', e = .returned (.agg #[.slice a' 4 G']) ∧ IsS w' a' G' freshL ∧ Below W.heap.size W w' := by
  refine (sNew_any W).mono ?_
  rintro e w' ⟨a', G', rfl, s, b⟩
  exact ⟨a', G', rfl, ⟨_, rfl, s⟩, b⟩

theorem put_is {C : List Rw} {a : Option Addr} {G : Nat} {W : World} (L : List En) (la : Option Addr) (lc : Nat) (h : IsS W a G C) (hL : SlW En.cells W la lc L) (few : L.length ≤ 140737488355328) :
    Calls Try.prog 16 #[.agg #[.slice a C.length G], .slice la L.length lc] W (Makes (chE C (bputE C L)) (chL C (bputE C L) (bputL C L)) W) := by
  obtain ⟨rs, rfl, t⟩ := h.ex
  rw [List.length_map]
  exact (sPut_any rs a G L la lc W t hL few).mono fun e w' h => makes_of h

theorem seal_is {C : List Rw} {a : Option Addr} {G : Nat} {W : World} (s n : Int) (h : IsS W a G C) :
    Calls Try.prog 17 #[.agg #[.slice a C.length G], .int .i64 s, .int .i64 n] W (Makes (chE C (sealE C s n)) (chL C (sealE C s n) (sealL C s n)) W) := by
  obtain ⟨rs, rfl, t⟩ := h.ex
  rw [List.length_map]
  exact (sSeal_any rs a G s n W t).mono fun e w' h => makes_of h

theorem merge_is {C : List Rw} {a : Option Addr} {G : Nat} {W : World} (s n : Int) (h : IsS W a G C) :
    Calls Try.prog 18 #[.agg #[.slice a C.length G], .int .i64 s, .int .i64 n] W (Makes (chE C (mrgE C s n)) (chL C (mrgE C s n) (mrgL C s n)) W) := by
  obtain ⟨rs, rfl, t⟩ := h.ex
  rw [List.length_map]
  exact (sMerge_any rs a G s n W t).mono fun e w' h => makes_of h

theorem drop_is {C : List Rw} {a : Option Addr} {G : Nat} {W : World} (n : Int) (h : IsS W a G C) :
    Calls Try.prog 19 #[.agg #[.slice a C.length G], .int .i64 n] W (Makes (chE C (dropE n)) (chL C (dropE n) (dropL C n)) W) := by
  obtain ⟨rs, rfl, t⟩ := h.ex
  rw [List.length_map]
  exact (sDrop_any rs a G n W t).mono fun e w' h => makes_of h

end Go.Proofs.Ytabeihkfjlmepaa

/-
  Seal and merge change no points of a row: plain lists. No program is named.
-/
namespace Go.Proofs.Ytabeihkfjlmepaa
open Go.RowKit

theorem blksE_append : ∀ a b : List Bk, blksE (a ++ b) = if blksE a = 0 then blksE b else blksE a
  | [], b => by simp [blksE]
  | x :: r, b => by
    rw [List.cons_append, blksE, blksE, blksE_append r b]
    split
    · rfl
    · rfl

theorem blksL_append (a b : List Bk) : blksL (a ++ b) = blksL a ++ blksL b := by unfold blksL; rw [List.flatMap_append]

theorem rowE_of {r : Rw} (h1 : r.blocks.length ≤ 8) (h2 : blksE r.blocks = 0) (h3 : checkE (allPts r) = 0) : rowE r = 0 := by
  unfold rowE
  rw [if_neg (by omega), if_pos h2]
  exact h3

theorem blksE_mem : ∀ {l : List Bk}, blksE l = 0 → ∀ b ∈ l, ptsE b = 0
  | [], _, b, hb => by simp at hb
  | x :: r, h, b, hb => by
    unfold blksE at h
    split at h
    · rename_i h0
      rcases List.mem_cons.1 hb with rfl | hb
      · exact h0
      · exact blksE_mem h b hb
    · rename_i h0
      exact absurd h h0

theorem row_seal {r : Rw} (h : rowE r = 0) (q : Nat) (h1 : 1 ≤ q) (h2 : q ≤ r.head.length) (hb : r.blocks.length < 8) :
    rowE ⟨r.blocks ++ [makeB (r.head.take q)], r.head.drop q⟩ = 0 ∧ allPts ⟨r.blocks ++ [makeB (r.head.take q)], r.head.drop q⟩ = allPts r := by
  obtain ⟨_, z2, z3⟩ := rowE_zero h
  have c1 := check_drop z3 (blksL r.blocks).length
  unfold allPts at c1
  rw [List.drop_left' rfl] at c1
  obtain ⟨p1, p2⟩ := pts_make (check_take c1 q) (by rw [List.length_take]; omega)
  have e : allPts ⟨r.blocks ++ [makeB (r.head.take q)], r.head.drop q⟩ = allPts r := by
    unfold allPts
    simp only [blksL_append]
    rw [show blksL [makeB (r.head.take q)] = r.head.take q by unfold blksL; simp [p2], List.append_assoc, List.take_append_drop]
  refine ⟨rowE_of (by simp only [List.length_append, List.length_singleton]; omega) ?_ (by rw [e]; exact z3), e⟩
  simp only [blksE_append, z2, if_true]
  rw [blksE, if_pos p1, blksE]

theorem row_merge {r : Rw} (h : rowE r = 0) (q : Nat) (x y : Bk) (hx : r.blocks[q]? = some x) (hy : r.blocks[q + 1]? = some y) :
    rowE ⟨r.blocks.take q ++ mergeB x y :: r.blocks.drop (q + 2), r.head⟩ = 0 ∧ allPts ⟨r.blocks.take q ++ mergeB x y :: r.blocks.drop (q + 2), r.head⟩ = allPts r := by
  obtain ⟨z1, z2, z3⟩ := rowE_zero h
  have hsplit : r.blocks = r.blocks.take q ++ (x :: y :: r.blocks.drop (q + 2)) := by
    have e1 : r.blocks.drop q = x :: r.blocks.drop (q + 1) := by
      obtain ⟨h', rfl⟩ := List.getElem?_eq_some_iff.1 hx
      exact List.drop_eq_getElem_cons h'
    have e2 : r.blocks.drop (q + 1) = y :: r.blocks.drop (q + 2) := by
      obtain ⟨h', rfl⟩ := List.getElem?_eq_some_iff.1 hy
      exact List.drop_eq_getElem_cons h'
    rw [← e2, ← e1, List.take_append_drop]
  have px := blksE_mem z2 x (List.mem_of_getElem? hx)
  have py := blksE_mem z2 y (List.mem_of_getElem? hy)
  generalize r.blocks.take q = A at *
  generalize r.blocks.drop (q + 2) = D at *
  have eall : allPts r = blksL A ++ ((ptsL x ++ ptsL y) ++ (blksL D ++ r.head)) := by
    unfold allPts
    rw [hsplit, blksL_append]
    unfold blksL
    simp [List.append_assoc]
  have c1 := check_drop z3 (blksL A).length
  rw [eall, List.drop_left' rfl] at c1
  have c2 := check_take c1 (ptsL x ++ ptsL y).length
  rw [List.take_left' rfl] at c2
  have lp : 0 < (ptsL x ++ ptsL y).length := by rw [List.length_append]; have := ptsL_pos px; omega
  obtain ⟨p1, p2⟩ := pts_make c2 lp
  have em : mergeB x y = makeB (ptsL x ++ ptsL y) := by unfold mergeB; rw [if_pos ⟨px, py⟩]
  have e : allPts ⟨A ++ mergeB x y :: D, r.head⟩ = allPts r := by
    rw [eall, em]
    unfold allPts
    simp only [blksL_append]
    rw [show blksL (makeB (ptsL x ++ ptsL y) :: D) = (ptsL x ++ ptsL y) ++ blksL D by unfold blksL; rw [List.flatMap_cons, p2], List.append_assoc, List.append_assoc]
  have zz := z2
  rw [hsplit, blksE_append] at zz
  have zA : blksE A = 0 := by
    by_cases h0 : blksE A = 0
    · exact h0
    · rw [if_neg h0] at zz
      exact zz
  rw [if_pos zA, blksE, if_pos px, blksE, if_pos py] at zz
  refine ⟨rowE_of ?_ ?_ (by rw [e]; exact z3), e⟩
  · have := z1
    rw [hsplit] at this
    simp only [List.length_append, List.length_cons] at this ⊢
    omega
  · simp only [blksE_append, zA, if_true]
    rw [em, blksE, if_pos p1]
    exact zz

end Go.Proofs.Ytabeihkfjlmepaa

/-
  What a batch, a seal, a merge and a drop do to the points of each series, as plain lists. No program is named.
-/
namespace Go.Proofs.Ytabeihkfjlmepaa
open Go.RowKit

/-- What a batch says of one series. -/
def entPts (s : Int) (L : List En) : List Pt := (L.filter (fun x => decide (x.s = s))).map (fun x => (x.t, x.v))

theorem rowsE_of : ∀ {l : List Rw}, (∀ r ∈ l, rowE r = 0) → rowsE l = 0
  | [], _ => rfl
  | x :: l, h => by
    unfold rowsE
    rw [if_pos (h x List.mem_cons_self)]
    exact rowsE_of (fun r hr => h r (List.mem_cons_of_mem _ hr))

theorem shelfE_of {l : List Rw} (h4 : l.length = 4) (h : ∀ r ∈ l, rowE r = 0) : shelfE l = 0 := by
  unfold shelfE
  rw [if_pos h4]
  exact rowsE_of h

theorem shelfE_mem {l : List Rw} (h : shelfE l = 0) : l.length = 4 ∧ ∀ r ∈ l, rowE r = 0 :=
  ⟨(shelfE_zero h).1, rowsE_zero (shelfE_zero h).2⟩

theorem getD_mem {l : List Rw} {k : Nat} (hk : k < l.length) : l.getD k rw0 ∈ l := by
  rw [List.getD, List.getElem?_eq_getElem hk]
  exact List.getElem_mem hk

theorem shelfE_set {l : List Rw} {k : Nat} {r : Rw} (h : shelfE l = 0) (hr : rowE r = 0) : shelfE (l.set k r) = 0 := by
  obtain ⟨h4, hm⟩ := shelfE_mem h
  refine shelfE_of (by rw [List.length_set]; exact h4) (fun x hx => ?_)
  rcases List.mem_or_eq_of_mem_set hx with hx | rfl
  · exact hm x hx
  · exact hr

theorem getD_set {l : List Rw} {k j : Nat} {r : Rw} (hk : k < l.length) : (l.set k r).getD j rw0 = if j = k then r else l.getD j rw0 := by
  rw [List.getD, List.getD]
  by_cases h : j = k
  · subst h
    rw [if_pos rfl, List.getElem?_set_self hk]
    rfl
  · rw [if_neg h, List.getElem?_set_ne (fun e => h e.symm)]

theorem puts_all : ∀ (L : List En) (l : List Rw), l.length = 4 → putsE l L = 0 → ∀ s : Nat, s < 4 → allPts ((putsL l L).getD s rw0) = allPts (l.getD s rw0) ++ entPts s L
  | [], l, _, _, s, _ => by simp [putsL, entPts]
  | x :: r, l, h4, h, s, hs => by
    unfold putsE at h
    split at h
    · rename_i h0
      obtain ⟨h1, _⟩ := putRowE_zero h0
      obtain ⟨k, ek, hk⟩ := inI_nat h1
      have ih := puts_all r (putRowL l x) (by unfold putRowL; rw [List.length_set]; exact h4) h s hs
      rw [putsL, ih]
      unfold putRowL
      rw [getD_set (by rw [ek, Int.toNat_natCast, h4]; exact hk)]
      unfold entPts
      by_cases e : s = k
      · subst e
        rw [if_pos (by rw [ek, Int.toNat_natCast]), List.filter_cons_of_pos (by simpa using ek), List.map_cons]
        unfold putRow allPts
        rw [ek, Int.toNat_natCast]
        simp only [List.append_assoc, List.cons_append, List.nil_append]
      · rw [if_neg (by rw [ek, Int.toNat_natCast]; exact e), List.filter_cons_of_neg (by simp [ek]; omega)]
    · rename_i h0
      exact absurd h h0

theorem puts_shelf : ∀ (L : List En) (l : List Rw), shelfE l = 0 → putsE l L = 0 → shelfE (putsL l L) = 0
  | [], l, h, _ => h
  | x :: r, l, h, h' => by
    unfold putsE at h'
    split at h'
    · rename_i h0
      exact puts_shelf r _ (shelfE_set h (putRowE_zero h0).2) h'
    · rename_i h0
      exact absurd h' h0

theorem bput_zero {l : List Rw} {L : List En} (h : bputE l L = 0) : L.length ≤ 10 ∧ putsE l L = 0 ∧ bputL l L = putsL l L := by
  have h' := h
  unfold bputE at h
  split at h
  · cases h
  · exact ⟨by omega, h, by unfold bputL; rw [if_pos h']⟩

theorem seal_zero {l : List Rw} {s n : Int} (h : shelfE l = 0) (hs : sealE l s n = 0) :
    shelfE (sealL l s n) = 0 ∧ ∀ j : Nat, allPts ((sealL l s n).getD j rw0) = allPts (l.getD j rw0) := by
  have hs' := hs
  unfold sealE at hs
  split at hs
  · cases hs
  · rename_i h0
    split at hs
    · cases hs
    · rename_i h1
      split at hs
      · cases hs
      · rename_i h2
        obtain ⟨k, rfl, hk⟩ := inI_nat (by simpa using h0)
        rw [Int.toNat_natCast] at h1 h2
        have hn : 1 ≤ n ∧ n ≤ (l.getD k rw0).head.length := by
          have : inI n 1 (l.getD k rw0).head.length = true := by simpa using h1
          exact of_decide_eq_true this
        obtain ⟨h4, hm⟩ := shelfE_mem h
        have hr := hm _ (getD_mem (l := l) (k := k) (by omega))
        obtain ⟨a1, a2⟩ := row_seal hr n.toNat (by omega) (by omega) (by omega)
        unfold sealL
        rw [if_pos hs', Int.toNat_natCast]
        refine ⟨shelfE_set h a1, fun j => ?_⟩
        rw [getD_set (by omega)]
        split
        · rename_i e
          rw [e, a2]
        · rfl

theorem blk_get {r : Rw} {q : Nat} (h : q < r.blocks.length) : r.blocks[q]? = some (blkAt r q) := by
  unfold blkAt
  rw [List.getD, List.getElem?_eq_getElem h]
  rfl

theorem mrg_zero {l : List Rw} {s n : Int} (h : shelfE l = 0) (hs : mrgE l s n = 0) :
    shelfE (mrgL l s n) = 0 ∧ ∀ j : Nat, allPts ((mrgL l s n).getD j rw0) = allPts (l.getD j rw0) := by
  have hs' := hs
  unfold mrgE at hs
  split at hs
  · cases hs
  · rename_i h0
    split at hs
    · cases hs
    · rename_i h1
      obtain ⟨k, rfl, hk⟩ := inI_nat (by simpa using h0)
      rw [Int.toNat_natCast] at h1 hs
      have hn : 0 ≤ n ∧ n ≤ (l.getD k rw0).blocks.length - 2 := by
        have : inI n 0 ((l.getD k rw0).blocks.length - 2) = true := by simpa using h1
        exact of_decide_eq_true this
      obtain ⟨q, rfl⟩ := Int.eq_ofNat_of_zero_le hn.1
      obtain ⟨h4, hm⟩ := shelfE_mem h
      have hr := hm _ (getD_mem (l := l) (k := k) (by omega))
      rw [Int.toNat_natCast] at hs
      have b0 := blk_get (r := l.getD k rw0) (q := q) (by omega)
      have b1 := blk_get (r := l.getD k rw0) (q := q + 1) (by omega)
      obtain ⟨a1, a2⟩ := row_merge hr q _ _ b0 b1
      unfold mrgL
      rw [if_pos hs', Int.toNat_natCast, Int.toNat_natCast]
      refine ⟨shelfE_set h a1, fun j => ?_⟩
      rw [getD_set (by omega)]
      split
      · rename_i e
        rw [e, a2]
      · rfl

/-- Points that are right rise by time. -/
theorem chk_rises : ∀ (l : List Pt) (a : Int), chk a l = 0 → l.Pairwise (fun p q => p.1 < q.1) ∧ ∀ p ∈ l, a < p.1 ∧ ptOk p = true
  | [], _, _ => ⟨List.Pairwise.nil, fun p hp => by simp at hp⟩
  | p :: r, a, h => by
    obtain ⟨h1, h2, h3⟩ := chk_cons h
    obtain ⟨i1, i2⟩ := chk_rises r p.1 h3
    refine ⟨List.Pairwise.cons (fun q hq => (i2 q hq).1) i1, fun q hq => ?_⟩
    rcases List.mem_cons.1 hq with rfl | hq
    · exact ⟨h2, h1⟩
    · exact ⟨by have := (i2 q hq).1; omega, (i2 q hq).2⟩

theorem check_rises {l : List Pt} (h : checkE l = 0) : l.Pairwise (fun p q => p.1 < q.1) ∧ ∀ p ∈ l, ptOk p = true := by
  unfold checkE at h
  split at h
  · cases h
  · obtain ⟨h1, h2⟩ := chk_rises l _ h
    exact ⟨h1, fun p hp => (h2 p hp).2⟩

theorem pts_to {b : Bk} (h : ptsE b = 0) : b.to = endT (ptsL b) := by
  have h' := h
  unfold ptsE at h
  split at h
  · split at h
    · rename_i hf
      have := (of_decide_eq_true hf : 0 < _ ∧ _).2.2
      unfold ptsL
      rw [if_pos h']
      exact this
    · cases h
  · rename_i hn
    exact absurd h hn

theorem endT_mem {l : List Pt} (h : 0 < l.length) : ∃ p ∈ l, p.1 = endT l ∧ l.getLast? = some p := by
  have hk : l.length - 1 < l.length := by omega
  refine ⟨l[l.length - 1], List.getElem_mem hk, ?_, ?_⟩
  · unfold endT
    rw [List.getD, List.getElem?_eq_getElem hk]
    rfl
  · rw [List.getLast?_eq_getElem?, List.getElem?_eq_getElem hk]

theorem rises_end {l : List Pt} (h : l.Pairwise (fun p q => p.1 < q.1)) (p : Pt) (hp : p ∈ l) : p.1 ≤ endT l := by
  obtain ⟨i, hi, rfl⟩ := List.mem_iff_getElem.1 hp
  unfold endT
  have hk : l.length - 1 < l.length := by omega
  rw [List.getD, List.getElem?_eq_getElem hk]
  show l[i].1 ≤ l[l.length - 1].1
  by_cases e : i = l.length - 1
  · subst e
    exact Int.le_refl _
  · exact Int.le_of_lt (List.pairwise_iff_getElem.1 h i (l.length - 1) hi hk (by omega))

/-- The blocks that go are the first ones. -/
theorem drop_blocks (n : Int) : ∀ (bs : List Bk), blksE bs = 0 → (blksL bs).Pairwise (fun p q => p.1 < q.1) →
    ∃ A B, bs = A ++ B ∧ bs.filter (fun b => !decide (b.to < n)) = B ∧ ∀ p ∈ blksL A, p.1 < n
  | [], _, _ => ⟨[], [], rfl, rfl, fun p hp => by simp [blksL] at hp⟩
  | b :: r, h, hp => by
    unfold blksE at h
    split at h
    · rename_i h0
      have hl : blksL (b :: r) = ptsL b ++ blksL r := rfl
      rw [hl, List.pairwise_append] at hp
      obtain ⟨p1, p2, p3⟩ := hp
      have et := pts_to h0
      have pos := ptsL_pos h0
      by_cases hb : b.to < n
      · obtain ⟨A, B, e1, e2, e3⟩ := drop_blocks n r h p2
        refine ⟨b :: A, B, by rw [e1]; rfl, by rw [List.filter_cons_of_neg (by simpa using hb)]; exact e2, fun p hp => ?_⟩
        rw [show blksL (b :: A) = ptsL b ++ blksL A from rfl, List.mem_append] at hp
        rcases hp with hp | hp
        · have := rises_end p1 p hp
          omega
        · exact e3 p hp
      · refine ⟨[], b :: r, rfl, ?_, fun p hp => by simp [blksL] at hp⟩
        rw [List.filter_eq_self]
        intro c hc
        rcases List.mem_cons.1 hc with rfl | hc
        · simpa using hb
        · have hc0 := blksE_mem h c hc
          obtain ⟨q, hq, eq, _⟩ := endT_mem (ptsL_pos hc0)
          obtain ⟨u, hu, eu, _⟩ := endT_mem pos
          have := p3 u hu q (List.mem_flatMap.2 ⟨c, hc, hq⟩)
          have ec := pts_to hc0
          have : ¬ c.to < n := by omega
          simpa using this
    · rename_i h0
      exact absurd h h0

theorem drop_row {n : Int} {r : Rw} (h : rowE r = 0) : rowE (dropRw n r) = 0 ∧ ∃ m, m ≤ (allPts r).length ∧ allPts (dropRw n r) = (allPts r).drop m ∧ ∀ p ∈ (allPts r).take m, p.1 < n := by
  obtain ⟨z1, z2, z3⟩ := rowE_zero h
  have hr := (check_rises z3).1
  unfold allPts at hr
  rw [List.pairwise_append] at hr
  obtain ⟨A, B, e1, e2, e3⟩ := drop_blocks n r.blocks z2 hr.1
  have ea : allPts (dropRw n r) = (allPts r).drop (blksL A).length := by
    unfold allPts dropRw
    simp only
    rw [e2]
    conv => rhs; rw [e1, blksL_append, List.append_assoc, List.drop_left' rfl]
  have zB : blksE B = 0 := by
    rw [e1, blksE_append] at z2
    by_cases h0 : blksE A = 0
    · rwa [if_pos h0] at z2
    · rw [if_neg h0] at z2
      exact absurd z2 h0
  refine ⟨rowE_of ?_ (by show blksE (r.blocks.filter _) = 0; rw [e2]; exact zB) (by rw [ea]; exact check_drop z3 _), (blksL A).length, ?_, ea, ?_⟩
  · show (r.blocks.filter _).length ≤ 8
    exact Nat.le_trans (List.length_filter_le _ _) z1
  · unfold allPts
    rw [e1, blksL_append, List.length_append, List.length_append]
    omega
  · intro p hp
    unfold allPts at hp
    rw [e1, blksL_append, List.append_assoc, List.take_left' rfl] at hp
    exact e3 p hp

theorem drop_zero {l : List Rw} {n : Int} (h : shelfE l = 0) : shelfE (l.map (dropRw n)) = 0 ∧ ∀ j : Nat, j < 4 → (l.map (dropRw n)).getD j rw0 = dropRw n (l.getD j rw0) := by
  obtain ⟨h4, hm⟩ := shelfE_mem h
  refine ⟨shelfE_of (by rw [List.length_map]; exact h4) (fun r hr => ?_), fun j hj => ?_⟩
  · obtain ⟨x, hx, rfl⟩ := List.mem_map.1 hr
    exact (drop_row (hm x hx)).1
  · rw [List.getD, List.getD, List.getElem?_map, List.getElem?_eq_getElem (by omega)]
    rfl

end Go.Proofs.Ytabeihkfjlmepaa
