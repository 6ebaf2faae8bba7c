/-
  shelf.changeRow: a copy of a shelf, on one row of which the function that is handed has worked; for each of the two that it is handed.
-/
import Derived.Deep.RegionWith
import Derived.Laws.IdiomCopy
import Derived.Laws.CopyOwn
import Derived.Deep.RegionLaw
import Derived.Lib.SliceRun
import Derived.Test.YtabeihkfjlmepaaGreatDoorHChange
import Derived.Test.YtabeihkfjlmepaaGreatDoorHSSeal1
import Derived.Test.YtabeihkfjlmepaaGreatDoorP18
import Derived.Test.YtabeihkfjlmepaaGreatDoorP22
import Derived.Test.YtabeihkfjlmepaaGreatDoorP24
namespace Go.Proofs.YtabeihkfjlmepaaGreatDoor
open Go.RowKit

theorem inI_natS {s : Int} (h : inI s 0 3 = true) : ∃ k : Nat, s = k ∧ k < 4 := by
  unfold inI at h
  have : 0 ≤ s ∧ s ≤ 3 := by simpa using h
  exact ⟨s.toNat, by omega, by omega⟩

theorem below4a (w : World) (a b c d : Obj) : Below w.heap.size w ((((w.alloc a).alloc b).alloc c).alloc d) :=
  belowNew (belowNew (belowNew (belowNew (Below.refl _ _) a) b) c) d

set_option maxHeartbeats 1000000 in
set_option maxRecDepth 100000 in
theorem changeRow1S (cv : Value) (s : Int) (E : Int) (L : List Rw) (l : List Rw) (sb db : Nat) (td : TypeId) (base box g : Nat) (rs : List Lr) (W : World) (Bs : Blk W sb [.int .i64 s] 3) (Bd : Blk W db [.func (.func 70) #[] #[cv]] td) (C : Copied l base box g rs W) (hE : inI s 0 3 = false → E = 5)
    (hdo : ∀ k : Nat, s = k → k < 4 → ∀ W2, Below W.heap.size W W2 → Calls Tryz.prog 70 #[.pointer (some ⟨g, k * 2, none⟩), cv] W2 (Does E L base box g W2)) :
    Calls Tryz.prog 99 #[.pointer (some ⟨box, 0, none⟩), .pointer (some ⟨sb, 0, none⟩), .pointer (some ⟨db, 0, none⟩)] W (Does E L base box g W) := by
  have c2 := fun W => isSeries_any s W
  have d0 : W.cell? ⟨sb, 0, none⟩ = some (.int .i64 s) := Bs.cell 0
  have d1 : W.cell? ⟨db, 0, none⟩ = some (.func (.func 70) #[] #[cv]) := Bd.cell 0
  have d2 : W.cell? ⟨box, 0, none⟩ = some (.slice (some ⟨g, 0, none⟩) 4 4) := C.out.cell 0
  have hbase := C.base
  cases hi : inI s 0 3 with
  | false =>
    obtain rfl := hE hi
    rw [hi] at c2
    clear hdo hE hi C
    go_enter Tryz.func99, Tryz.ntmps99
    go_wp2_with fail
    go_at_call 61
    refine (c2 _).mono ?_
    rintro e w3 ⟨rfl, rfl⟩
    go_wp2_with fail
    go_ret
    exact ⟨rfl, Below.refl _ _, fun h => by cases h⟩
  | true =>
    obtain ⟨k, rfl, hk⟩ := inI_natS hi
    rw [hi] at c2
    have hdo := hdo k rfl hk W.drew (belowDrew (Below.refl _ _))
    have hk' : (k : Int) < 4 := by omega
    clear hE hi C
    go_enter Tryz.func99, Tryz.ntmps99
    go_wp2_with fail
    go_at_call 61
    refine (c2 _).mono ?_
    rintro e w3 ⟨rfl, rfl⟩
    rename World => W
    clear c2
    go_wp2_with fail
    go_region_with (go_at_call 70; refine hdo.mono ?_; rintro e w4 ⟨rfl, b4, h4⟩)
    all_goals (
      go_wp2_with fail
      go_ret
      exact ⟨rfl, (belowDrew (Below.refl _ _)).trans b4, h4⟩)

set_option maxHeartbeats 1000000 in
set_option maxRecDepth 100000 in
theorem changeRowS (cv : Value) (s : Int) (E : Int) (L : List Rw) (l : List Lr) (ao : Option Addr) (cap : Nat) (w : World) (hs : SlR w ao cap l) (hE : inI s 0 3 = false → E = 5)
    (hdo : shelfE (l.map Lr.rw) = 0 → ∀ W base box g rs, w.heap.size ≤ base → Below w.heap.size w W → Copied (l.map Lr.rw) base box g rs W → ∀ k : Nat, s = k → k < 4 → Calls Tryz.prog 70 #[.pointer (some ⟨g, k * 2, none⟩), cv] W (Does E L base box g W)) :
    Calls Tryz.prog 69 #[.agg #[.slice ao l.length cap], .int .i64 s, .func (.func 70) #[] #[cv]] w fun e w' => ∃ rs a' G, e = .returned (.tuple #[.agg #[.slice a' rs.length G], .int .i64 (chE (l.map Lr.rw) E)]) ∧ rs.map Lr.rw = chL (l.map Lr.rw) E L ∧ SlR w' a' G rs ∧ (∀ ad, a' = some ad → w.heap.size ≤ ad.block) ∧ Below w.heap.size w w' := by
  obtain ⟨td, htd⟩ : ∃ td, td = 116 := ⟨_, rfl⟩
  have S1 := ((Blk.laid (w.alloc (.cells #[.slice ao l.length cap] 46)) [.int .i64 s] 3 (w.heap.size + 1) (by simp)).alc (.cells #[.func (.func 70) #[] #[cv]] td)).alc (.cells #[.slice none 0 0] 46)
  have D1 := (Blk.laid ((w.alloc (.cells #[.slice ao l.length cap] 46)).alloc (.cells #[.int .i64 s] 3)) [.func (.func 70) #[] #[cv]] td (w.heap.size + 2) (by simp)).alc (.cells #[.slice none 0 0] 46)
  have R1 := Blk.laid (((w.alloc (.cells #[.slice ao l.length cap] 46)).alloc (.cells #[.int .i64 s] 3)).alloc (.cells #[.func (.func 70) #[] #[cv]] td)) [.slice none 0 0] 46 (w.heap.size + 3) (by simp)
  have bel1 := below4a w (.cells #[.slice ao l.length cap] 46) (.cells #[.int .i64 s] 3) (.cells #[.func (.func 70) #[] #[cv]] td) (.cells #[.slice none 0 0] 46)
  subst htd
  have s1 := hs.keep bel1 (Nat.le_refl _)
  have c := fun W (b0 : Below w.heap.size w W) (S : SlR W ao cap l) (Bs : Blk W (w.heap.size + 1) [.int .i64 s] 3) (Bd : Blk W (w.heap.size + 2) [.func (.func 70) #[] #[cv]] 116) => changeR (.pointer (some ⟨w.heap.size + 1, 0, none⟩)) (.pointer (some ⟨w.heap.size + 2, 0, none⟩)) E L l ao cap W S
    (fun hz W2 base box g rs hb b2 C => changeRow1S cv s E L (l.map Lr.rw) (w.heap.size + 1) (w.heap.size + 2) _ base box g rs W2 (Bs.keep b2 Bs.lt) (Bd.keep b2 Bd.lt) C hE
      (fun k hk h4 W3 b3 => hdo hz W3 base box g rs (Nat.le_trans b0.size hb) (b0.trans ((b2.mono b0.size).trans (b3.mono (Nat.le_trans b0.size b2.size)))) (C.call b3) k hk h4))
  clear hdo
  generalize chL (l.map Lr.rw) E L = X at *
  generalize chE (l.map Lr.rw) E = F at *
  generalize l.length = n at *
  go_enter Tryz.func69, Tryz.ntmps69
  go_wp2_with fail
  generalize (((w.alloc _).alloc _).alloc _).alloc _ = w1 at *
  go_at_call 66
  refine (c _ bel1 s1 S1 D1).mono ?_
  rintro e w2 ⟨rs, a', G, rfl, hX, s2, fr, b2⟩
  have R2 := R1.keep b2 R1.lt
  have bel2 := belowCall bel1 b2
  have r0 : w2.cell? ⟨w.heap.size + 3, 0, none⟩ = some (.slice none 0 0) := R2.cell 0
  have r1 := R2.free 0
  have s3 := s2.written (onlyOne none 0 0) R2 (i := 0) (u := .slice a' rs.length G) (fun ad e => by have := fr ad e; have := R1.lt; omega)
  have bel3 := bel2.setCell (p := ⟨w.heap.size + 3, 0, none⟩) (by show w.heap.size ≤ w.heap.size + 3; omega) (.slice a' rs.length G)
  have fr2 : ∀ ad, a' = some ad → w.heap.size ≤ ad.block := fun ad e => Nat.le_trans bel1.size (fr ad e)
  replace s3 := hide s3
  replace hX := hide hX
  replace fr2 := hide fr2
  clear s2 R1 R2 s1 S1 D1 c hs fr
  go_wp2_with fail
  exact bodyPost_ret (v := .tuple #[.agg #[.slice a' rs.length G], .int .i64 F]) (by simp [results, Tryz.results69, go_sem, r0]) rfl ⟨rs, a', G, rfl, hX.out, s3.out, fr2.out, bel3⟩

set_option maxHeartbeats 1000000 in
set_option maxRecDepth 100000 in
theorem changeRow1M (cv : Value) (s : Int) (E : Int) (L : List Rw) (l : List Rw) (sb db : Nat) (td : TypeId) (base box g : Nat) (rs : List Lr) (W : World) (Bs : Blk W sb [.int .i64 s] 3) (Bd : Blk W db [.func (.func 72) #[] #[cv]] td) (C : Copied l base box g rs W) (hE : inI s 0 3 = false → E = 5)
    (hdo : ∀ k : Nat, s = k → k < 4 → ∀ W2, Below W.heap.size W W2 → Calls Tryz.prog 72 #[.pointer (some ⟨g, k * 2, none⟩), cv] W2 (Does E L base box g W2)) :
    Calls Tryz.prog 99 #[.pointer (some ⟨box, 0, none⟩), .pointer (some ⟨sb, 0, none⟩), .pointer (some ⟨db, 0, none⟩)] W (Does E L base box g W) := by
  have c2 := fun W => isSeries_any s W
  have d0 : W.cell? ⟨sb, 0, none⟩ = some (.int .i64 s) := Bs.cell 0
  have d1 : W.cell? ⟨db, 0, none⟩ = some (.func (.func 72) #[] #[cv]) := Bd.cell 0
  have d2 : W.cell? ⟨box, 0, none⟩ = some (.slice (some ⟨g, 0, none⟩) 4 4) := C.out.cell 0
  have hbase := C.base
  cases hi : inI s 0 3 with
  | false =>
    obtain rfl := hE hi
    rw [hi] at c2
    clear hdo hE hi C
    go_enter Tryz.func99, Tryz.ntmps99
    go_wp2_with fail
    go_at_call 61
    refine (c2 _).mono ?_
    rintro e w3 ⟨rfl, rfl⟩
    go_wp2_with fail
    go_ret
    exact ⟨rfl, Below.refl _ _, fun h => by cases h⟩
  | true =>
    obtain ⟨k, rfl, hk⟩ := inI_natS hi
    rw [hi] at c2
    have hdo := hdo k rfl hk W.drew (belowDrew (Below.refl _ _))
    have hk' : (k : Int) < 4 := by omega
    clear hE hi C
    go_enter Tryz.func99, Tryz.ntmps99
    go_wp2_with fail
    go_at_call 61
    refine (c2 _).mono ?_
    rintro e w3 ⟨rfl, rfl⟩
    rename World => W
    clear c2
    go_wp2_with fail
    go_region_with (go_at_call 72; refine hdo.mono ?_; rintro e w4 ⟨rfl, b4, h4⟩)
    all_goals (
      go_wp2_with fail
      go_ret
      exact ⟨rfl, (belowDrew (Below.refl _ _)).trans b4, h4⟩)

set_option maxHeartbeats 1000000 in
set_option maxRecDepth 100000 in
theorem changeRowM (cv : Value) (s : Int) (E : Int) (L : List Rw) (l : List Lr) (ao : Option Addr) (cap : Nat) (w : World) (hs : SlR w ao cap l) (hE : inI s 0 3 = false → E = 5)
    (hdo : shelfE (l.map Lr.rw) = 0 → ∀ W base box g rs, w.heap.size ≤ base → Below w.heap.size w W → Copied (l.map Lr.rw) base box g rs W → ∀ k : Nat, s = k → k < 4 → Calls Tryz.prog 72 #[.pointer (some ⟨g, k * 2, none⟩), cv] W (Does E L base box g W)) :
    Calls Tryz.prog 69 #[.agg #[.slice ao l.length cap], .int .i64 s, .func (.func 72) #[] #[cv]] w fun e w' => ∃ rs a' G, e = .returned (.tuple #[.agg #[.slice a' rs.length G], .int .i64 (chE (l.map Lr.rw) E)]) ∧ rs.map Lr.rw = chL (l.map Lr.rw) E L ∧ SlR w' a' G rs ∧ (∀ ad, a' = some ad → w.heap.size ≤ ad.block) ∧ Below w.heap.size w w' := by
  obtain ⟨td, htd⟩ : ∃ td, td = 116 := ⟨_, rfl⟩
  have S1 := ((Blk.laid (w.alloc (.cells #[.slice ao l.length cap] 46)) [.int .i64 s] 3 (w.heap.size + 1) (by simp)).alc (.cells #[.func (.func 72) #[] #[cv]] td)).alc (.cells #[.slice none 0 0] 46)
  have D1 := (Blk.laid ((w.alloc (.cells #[.slice ao l.length cap] 46)).alloc (.cells #[.int .i64 s] 3)) [.func (.func 72) #[] #[cv]] td (w.heap.size + 2) (by simp)).alc (.cells #[.slice none 0 0] 46)
  have R1 := Blk.laid (((w.alloc (.cells #[.slice ao l.length cap] 46)).alloc (.cells #[.int .i64 s] 3)).alloc (.cells #[.func (.func 72) #[] #[cv]] td)) [.slice none 0 0] 46 (w.heap.size + 3) (by simp)
  have bel1 := below4a w (.cells #[.slice ao l.length cap] 46) (.cells #[.int .i64 s] 3) (.cells #[.func (.func 72) #[] #[cv]] td) (.cells #[.slice none 0 0] 46)
  subst htd
  have s1 := hs.keep bel1 (Nat.le_refl _)
  have c := fun W (b0 : Below w.heap.size w W) (S : SlR W ao cap l) (Bs : Blk W (w.heap.size + 1) [.int .i64 s] 3) (Bd : Blk W (w.heap.size + 2) [.func (.func 72) #[] #[cv]] 116) => changeR (.pointer (some ⟨w.heap.size + 1, 0, none⟩)) (.pointer (some ⟨w.heap.size + 2, 0, none⟩)) E L l ao cap W S
    (fun hz W2 base box g rs hb b2 C => changeRow1M cv s E L (l.map Lr.rw) (w.heap.size + 1) (w.heap.size + 2) _ base box g rs W2 (Bs.keep b2 Bs.lt) (Bd.keep b2 Bd.lt) C hE
      (fun k hk h4 W3 b3 => hdo hz W3 base box g rs (Nat.le_trans b0.size hb) (b0.trans ((b2.mono b0.size).trans (b3.mono (Nat.le_trans b0.size b2.size)))) (C.call b3) k hk h4))
  clear hdo
  generalize chL (l.map Lr.rw) E L = X at *
  generalize chE (l.map Lr.rw) E = F at *
  generalize l.length = n at *
  go_enter Tryz.func69, Tryz.ntmps69
  go_wp2_with fail
  generalize (((w.alloc _).alloc _).alloc _).alloc _ = w1 at *
  go_at_call 66
  refine (c _ bel1 s1 S1 D1).mono ?_
  rintro e w2 ⟨rs, a', G, rfl, hX, s2, fr, b2⟩
  have R2 := R1.keep b2 R1.lt
  have bel2 := belowCall bel1 b2
  have r0 : w2.cell? ⟨w.heap.size + 3, 0, none⟩ = some (.slice none 0 0) := R2.cell 0
  have r1 := R2.free 0
  have s3 := s2.written (onlyOne none 0 0) R2 (i := 0) (u := .slice a' rs.length G) (fun ad e => by have := fr ad e; have := R1.lt; omega)
  have bel3 := bel2.setCell (p := ⟨w.heap.size + 3, 0, none⟩) (by show w.heap.size ≤ w.heap.size + 3; omega) (.slice a' rs.length G)
  have fr2 : ∀ ad, a' = some ad → w.heap.size ≤ ad.block := fun ad e => Nat.le_trans bel1.size (fr ad e)
  replace s3 := hide s3
  replace hX := hide hX
  replace fr2 := hide fr2
  clear s2 R1 R2 s1 S1 D1 c hs fr
  go_wp2_with fail
  exact bodyPost_ret (v := .tuple #[.agg #[.slice a' rs.length G], .int .i64 F]) (by simp [results, Tryz.results69, go_sem, r0]) rfl ⟨rs, a', G, rfl, hX.out, s3.out, fr2.out, bel3⟩

end Go.Proofs.YtabeihkfjlmepaaGreatDoor

/-
  shelf.Seal: what it answers of a shelf, whatever it is.
-/
namespace Go.Proofs.YtabeihkfjlmepaaGreatDoor
open Go.RowKit

theorem drewBelow (base : Nat) (W : World) (q : Nat) : Below base W (W.drewN q) := belowDrewN (Below.refl base W) q

theorem seal1_any (n : Int) (cb : Nat) (l : List Rw) (hE : shelfE l = 0) (base box g k : Nat) (rs : List Lr) (W : World) (hk : k < 4) (Bc : Blk W cb [.int .i64 n] 3) (C : Copied l base box g rs W) :
    Calls Tryz.prog 70 #[.pointer (some ⟨g, k * 2, none⟩), .pointer (some ⟨cb, 0, none⟩)] W (Does (sealE l k n) (sealL l k n) base box g W) := by
  have hR := right_of hE
  obtain ⟨r, hr, hrw, e0, e1, oR, f1, f2⟩ := C.row hR k hk
  have d0 : W.cell? ⟨cb, 0, none⟩ = some (.int .i64 n) := Bc.cell 0
  have hi : inI (k : Int) 0 3 = true := by unfold inI; simp; omega
  have hrow : rowE (l.getD k rw0) = 0 := by
    rw [← hrw]
    exact rowsE_zero (shelfE_zero hE).2 r.rw (by rw [← C.same]; exact List.mem_map.2 ⟨r, List.mem_of_getElem? hr, rfl⟩)
  have hhd : (l.getD k rw0).head = r.hd := by rw [← hrw]; rfl
  have hbl : (l.getD k rw0).blocks.length = r.bs.length := by rw [← hrw]; unfold Lr.rw; simp
  cases hn : inI n 1 r.hd.length with
  | false =>
    have e : sealE l k n = 3 := by unfold sealE; rw [hi, Int.toNat_natCast, hhd, hn]; rfl
    rw [e]
    refine (seal1_range n cb g k r.hd.length r.hc r.ha W d0 e1 hn).mono ?_
    rintro e W' ⟨rfl, q, rfl⟩
    exact ⟨rfl, drewBelow _ _ _, fun h => by cases h⟩
  | true =>
    have hn2 : 1 ≤ n ∧ n ≤ r.hd.length := by unfold inI at hn; simpa using hn
    obtain ⟨q, rfl⟩ : ∃ q : Nat, n = q := ⟨n.toNat, by omega⟩
    by_cases h8 : r.bs.length = 8
    · have e : sealE l k q = 2 := by unfold sealE; rw [hi, Int.toNat_natCast, hhd, hn, hbl, h8]; rfl
      rw [e]
      rw [h8] at e0
      refine (seal1_full q cb g k r.hd.length r.hc r.bc r.ha r.ba W d0 e1 e0 (by omega) (by omega)).mono ?_
      rintro e W' ⟨rfl, q, rfl⟩
      exact ⟨rfl, drewBelow _ _ _, fun h => by cases h⟩
    · have e : sealE l k q = 0 := by unfold sealE; rw [hi, Int.toNat_natCast, hhd, hn, hbl, if_neg (by decide), if_neg (by decide), if_neg (by omega)]
      have e2 : sealL l k q = l.set k ⟨r.rw.blocks ++ [makeB (r.hd.take q)], r.hd.drop q⟩ := by
        unfold sealL
        rw [if_pos e, Int.toNat_natCast, Int.toNat_natCast, hhd, ← hrw]
      rw [e, e2]
      have hc := (rowE_zero hrow).2.2
      have h1 := check_drop hc (blksL (l.getD k rw0).blocks).length
      unfold allPts at h1
      rw [List.drop_left' rfl, hhd] at h1
      have h2 := check_take h1 q
      exact seal1_ok q cb l base box g k rs r W hR C hr Bc (by omega) f2 (by omega) (by omega) (makeE_zero h2 (by rw [List.length_take]; omega))

set_option maxHeartbeats 1000000 in
set_option maxRecDepth 100000 in
/-- Seal, whatever it is handed. -/
theorem sSeal_any (l : List Lr) (ao : Option Addr) (cap : Nat) (s n : Int) (w : World) (hs : SlR w ao cap l) :
    Calls Tryz.prog 43 #[.agg #[.slice ao l.length cap], .int .i64 s, .int .i64 n] w fun e w' => ∃ rs a' G, e = .returned (.tuple #[.agg #[.slice a' rs.length G], .int .i64 (chE (l.map Lr.rw) (sealE (l.map Lr.rw) s n))]) ∧ rs.map Lr.rw = chL (l.map Lr.rw) (sealE (l.map Lr.rw) s n) (sealL (l.map Lr.rw) s n) ∧ SlR w' a' G rs ∧ Below w.heap.size w w' := by
  have B1 := (Blk.laid (w.alloc (.cells #[.slice ao l.length cap] 46)) [.int .i64 n] 3 (w.heap.size + 1) (by simp)).alc (.cells #[.slice none 0 0] 46)
  have R1 := Blk.laid ((w.alloc (.cells #[.slice ao l.length cap] 46)).alloc (.cells #[.int .i64 n] 3)) [.slice none 0 0] 46 (w.heap.size + 2) (by simp)
  have bel1 := below3 w (.cells #[.slice ao l.length cap] 46) (.cells #[.int .i64 n] 3) (.cells #[.slice none 0 0] 46)
  have s1 := hs.keep bel1 (Nat.le_refl _)
  have c := fun W (S : SlR W ao cap l) (B : Blk W (w.heap.size + 1) [.int .i64 n] 3) => changeRowS (.pointer (some ⟨w.heap.size + 1, 0, none⟩)) s (sealE (l.map Lr.rw) s n) (sealL (l.map Lr.rw) s n) l ao cap W S
    (fun h => by unfold sealE; rw [if_pos h])
    (fun hE W2 base box g rs hb b2 C k hk hk4 => by
      subst hk
      exact seal1_any n (w.heap.size + 1) (l.map Lr.rw) hE base box g k rs W2 hk4 (B.keep b2 B.lt) C)
  generalize chL (l.map Lr.rw) (sealE (l.map Lr.rw) s n) (sealL (l.map Lr.rw) s n) = X at *
  generalize chE (l.map Lr.rw) (sealE (l.map Lr.rw) s n) = E at *
  generalize l.length = m at *
  go_enter Tryz.func43, Tryz.ntmps43
  go_wp2_with fail
  generalize ((w.alloc _).alloc _).alloc _ = w1 at *
  go_at_call 69
  refine (c _ s1 B1).mono ?_
  rintro e w2 ⟨rs, a', G, rfl, hX, s2, fr, b2⟩
  have R2 := R1.keep b2 R1.lt
  have bel2 := belowCall bel1 b2
  have r0 : w2.cell? ⟨w.heap.size + 2, 0, none⟩ = some (.slice none 0 0) := R2.cell 0
  have r1 := R2.free 0
  have s3 := s2.written (onlyOne none 0 0) R2 (i := 0) (u := .slice a' rs.length G) (fun ad e => by have := fr ad e; have := R1.lt; omega)
  have bel3 := bel2.setCell (p := ⟨w.heap.size + 2, 0, none⟩) (by show w.heap.size ≤ w.heap.size + 2; omega) (.slice a' rs.length G)
  replace s3 := hide s3
  replace hX := hide hX
  clear s2 R1 R2 s1 B1 c hs
  go_wp2_with fail
  exact bodyPost_ret (v := .tuple #[.agg #[.slice a' rs.length G], .int .i64 E]) (by simp [results, Tryz.results43, go_sem, r0]) rfl ⟨rs, a', G, rfl, hX.out, s3.out, bel3⟩

end Go.Proofs.YtabeihkfjlmepaaGreatDoor

/-
  Rows of cells that are written in place, as blocks of the call's own: several cells at once; append where there is room; clear of blocks. No function of the program is named.
-/
namespace Go.Proofs.YtabeihkfjlmepaaGreatDoor
open Go.RowKit

theorem set_splice {α : Type} : ∀ (news cs : List α) (off : Nat) (v : α), off + (news.length + 1) ≤ cs.length → splice (cs.set off v) (off + 1) news = splice cs off (v :: news) := by
  intro news cs off v h
  unfold splice
  rw [List.drop_set_of_lt (by omega)]
  have e1 : (cs.set off v).take (off + 1) = cs.take off ++ [v] := by
    rw [List.take_add_one, List.take_set_of_le (Nat.le_refl _), List.getElem?_set_self (by omega)]
    rfl
  rw [e1, List.append_assoc, List.length_cons, show off + 1 + news.length = off + (news.length + 1) by omega]
  rfl

theorem Blk.setCells {b : Nat} {t : TypeId} : ∀ (news : List Value) {w : World} {cs : List Value} (off : Nat), Blk w b cs t → off + news.length ≤ cs.length → Blk (w.setCells b off news) b (splice cs off news) t ∧ w.grownBy (w.setCells b off news) (some b)
  | [], w, cs, off, B, _ => by
    refine ⟨?_, grownRefl w _⟩
    have e : splice cs off [] = cs := by simp [splice]
    rw [e]
    exact B
  | v :: news, w, cs, off, B, h => by
    have ih := Blk.setCells news (off + 1) (B.set off v) (by rw [List.length_set]; simp only [List.length_cons] at h; omega)
    rw [set_splice news cs off v (by simpa using h)] at ih
    have g1 := grownSet (grownRefl w (some b)) off v
    exact ⟨ih.1, ⟨ih.2.os.trans g1.os, ih.2.tape.trans g1.tape, ih.2.output.trans g1.output, Nat.le_trans g1.size ih.2.size, fun k hk hne => (ih.2.block k (Nat.lt_of_lt_of_le hk g1.size) hne).trans (g1.block k hk hne)⟩⟩

/-- append where there is room, onto a block that is known whole. -/
theorem step_append_in {P : Program} {ops : Array Oper} {o : Oper} {a : Act} {w : World} {K : Act → World → Prop} {Q : Exit → Act → World → Prop} {E : Prop}
    (hg : o.guard = none) (s x : Operand) (t : TypeId) (hop : o.op = Op.call { callee := Callee.builtin Builtin.append, args := #[s, x], argTypes := #[t, t] })
    (e : TypeId) (i : TypeInfo) (size : Nat) (h1 : P.underlying t = some (.slice e)) (h2 : P.info? e = some i) (h4 : i.size = size)
    (b n cap : Nat) (hs : a.eval s = .slice (some ⟨b, 0, none⟩) n cap) (cur : List Value) (te : TypeId) (B : Blk w b cur te)
    (ad : Addr) (m c : Nat) (news : List Value) (hx : a.eval x = .slice (some ad) m c) (hn : news.length = m * size) (hc : ∀ j u, news[j]? = some u → w.cell? (ad.add j) = some u) (h1c : ∀ u ∈ news, u.oneCell' = true)
    (hroom : n + m ≤ cap) (hfit : n * size + news.length ≤ cur.length)
    (hK : ∀ w', Blk w' b (splice cur (n * size) news) te → w.grownBy w' (some b) → K (a.put o.dst (.slice (some ⟨b, 0, none⟩) (n + m) cap)) w') :
    if Region.wanted o (yielded ops a.tmps) = true then Oper.wp P o a w K Q else E := by
  refine step_append_room hg s x t hop e i size h1 h2 h4 b 0 n cap hs ad m c news hx hn hc h1c hroom (fun j hj => ⟨?_, B.free _⟩) ?_
  · rw [B.cell, List.getElem?_eq_getElem (by omega)]
    rfl
  · obtain ⟨B', gr⟩ := Blk.setCells news (n * size) B hfit
    have := hK _ B' gr
    rw [Nat.zero_add]
    exact this

def lb0 : Lb := ⟨bk0, none, 0⟩

theorem zeroCells4 (z : Array Value) (hz : z.toList = Lb.cells lb0) (n : Nat) : (Builtin.zeroCells z n).toList = (List.replicate n lb0).flatMap Lb.cells := by
  have hs : z.size = 4 := by rw [← Array.length_toList, hz]; rfl
  apply List.ext_getElem?
  intro i
  have hl := flat_length Lb.four (List.replicate n lb0)
  rw [List.length_replicate] at hl
  by_cases hi : i < n * 4
  · have hg := flat_get Lb.four (List.replicate n lb0) (i / 4) (i % 4) lb0 (by rw [List.getElem?_replicate, if_pos (by omega)]) (Nat.mod_lt _ (by decide))
    rw [show i / 4 * 4 + i % 4 = i by omega] at hg
    rw [hg, ← hz]
    simp only [Builtin.zeroCells, Array.toList_map, List.getElem?_map, Array.toList_range, hs]
    rw [List.getElem?_range hi]
    have h4 : i % 4 < z.size := by omega
    rw [Option.map_some, getElem!_pos z (i % 4) h4, Array.getElem?_toList, Array.getElem?_eq_getElem h4]
  · rw [List.getElem?_eq_none (by simp [Builtin.zeroCells, hs]; omega), List.getElem?_eq_none (by rw [hl]; omega)]

theorem run_clear_blocks {P : Program} (w : World) (t e ty : TypeId) (z : Value) (ht : P.underlying t = some (.slice e)) (hv : ∀ w, (zeroValue e).run P w = .ok z w) (hz : z.cells.toList = Lb.cells lb0) (b o n c : Nat) (hn : 0 < n) (cur : List Value) (te : TypeId) (B : Blk w b cur te) (hfit : o + n * 4 ≤ cur.length) :
    (Builtin.clear_ #[t] ty #[.slice (some ⟨b, o, none⟩) n c]).run P w = .ok (.tuple #[]) (w.setCells b o ((List.replicate n lb0).flatMap Lb.cells)) := by
  have hzc := zeroCells4 z.cells hz n
  have hl := flat_length Lb.four (List.replicate n lb0)
  rw [List.length_replicate] at hl
  have hst := run_storeCells_cells (P := P) b o ((List.replicate n lb0).flatMap Lb.cells) 0 w (by intro j hj; rw [hl] at hj; rw [B.cell, List.getElem?_eq_getElem (by omega)]; rfl) (by intro j _; exact B.free _) (by
    intro v hv'
    obtain ⟨r, hr, hv''⟩ := List.mem_flatMap.1 hv'
    rw [List.eq_of_mem_replicate hr] at hv''
    simp only [Lb.cells, List.mem_cons, List.not_mem_nil, or_false] at hv''
    rcases hv'' with rfl | rfl | rfl | rfl <;> rfl)
  simp only [Nat.add_zero] at hst
  obtain ⟨m, rfl⟩ : ∃ m, n = m + 1 := ⟨n - 1, by omega⟩
  simp [Builtin.clear_, run_underlying ht, hv, hzc, hst]

theorem flat_all4 {α : Type} {f : α → List Value} (y : α) (u0 u1 u2 u3 : Value) (hy : f y = [u0, u1, u2, u3]) (hf : ∀ x, (f x).length = 4) : ∀ (l : List α) (k : Nat), k < l.length → ((((l.flatMap f).set (k * 4) u0).set (k * 4 + 1) u1).set (k * 4 + 2) u2).set (k * 4 + 3) u3 = (l.set k y).flatMap f
  | [], k, h => by simp at h
  | z :: r, 0, _ => by
    obtain ⟨z0, z1, z2, z3, e⟩ : ∃ z0 z1 z2 z3, f z = [z0, z1, z2, z3] := by
      match f z, hf z with
      | [z0, z1, z2, z3], _ => exact ⟨z0, z1, z2, z3, rfl⟩
    rw [List.flatMap_cons, List.set_cons_zero, List.flatMap_cons, e, hy]
    rfl
  | z :: r, k + 1, h => by
    have ih := flat_all4 y u0 u1 u2 u3 hy hf r k (by simpa using h)
    have e : (f z).length = 4 := hf z
    rw [List.flatMap_cons, List.set_cons_succ, List.flatMap_cons, ← ih, List.set_append_right _ _ (by rw [e]; omega), e, List.set_append_right _ _ (by rw [e]; omega), e, List.set_append_right _ _ (by rw [e]; omega), e, List.set_append_right _ _ (by rw [e]; omega), e,
      show (k + 1) * 4 - 4 = k * 4 by omega, show (k + 1) * 4 + 1 - 4 = k * 4 + 1 by omega, show (k + 1) * 4 + 2 - 4 = k * 4 + 2 by omega, show (k + 1) * 4 + 3 - 4 = k * 4 + 3 by omega]

abbrev setB (w : World) (bg i : Nat) (y : Lb) : World :=
  (((w.setCell ⟨bg, i * 4, none⟩ (.int .i64 y.b.n)).setCell ⟨bg, i * 4 + 1, none⟩ (.int .i64 y.b.fr)).setCell ⟨bg, i * 4 + 2, none⟩ (.int .i64 y.b.to)).setCell ⟨bg, i * 4 + 3, none⟩ (.slice y.a y.b.bits.length y.c)

/-- All four cells of one block are written. -/
theorem Blk.setB {w : World} {bg : Nat} {bl : List Lb} {t : TypeId} (B : Blk w bg (bl.flatMap Lb.cells) t) (i : Nat) (hi : i < bl.length) (y : Lb) :
    Blk (setB w bg i y) bg ((bl.set i y).flatMap Lb.cells) t ∧ w.grownBy (setB w bg i y) (some bg) := by
  have B2 := (((B.set (i * 4) (.int .i64 y.b.n)).set (i * 4 + 1) (.int .i64 y.b.fr)).set (i * 4 + 2) (.int .i64 y.b.to)).set (i * 4 + 3) (.slice y.a y.b.bits.length y.c)
  rw [flat_all4 y _ _ _ _ rfl Lb.four bl i hi] at B2
  exact ⟨B2, grownSet (grownSet (grownSet (grownSet (grownRefl w (some bg)) _ _) _ _) _ _) _ _⟩

end Go.Proofs.YtabeihkfjlmepaaGreatDoor

/-
  slices.Delete of one block; slices.IndexFunc and slices.DeleteFunc of blocks by the function that shelf.Drop hands them; on blocks of the call's own.
-/
namespace Go.Proofs.YtabeihkfjlmepaaGreatDoor
open Go.RowKit

theorem zeroBlock (w : World) : (zeroValue 113).run Tryz.prog w = .ok (.agg #[.int .i64 0, .int .i64 0, .int .i64 0, .slice none 0 0]) w := by
  obtain ⟨i0, hi, hz0, hz1, hz2⟩ := info_parts infoCpB
  simp [zeroValue, typeInfo, hi, hz0]

theorem splice_flat (bl news : List Lb) (i : Nat) : splice (bl.flatMap Lb.cells) (i * 4) (news.flatMap Lb.cells) = (splice bl i news).flatMap Lb.cells := by
  unfold splice
  rw [flat_take Lb.four, List.flatMap_append, List.flatMap_append]
  congr 2
  rw [flat_length Lb.four, show i * 4 + news.length * 4 = (i + news.length) * 4 by omega, flat_drop Lb.four]

/-- What Delete leaves of the block ahead of its clearing. -/
theorem splice_del {α : Type} (bl : List α) (i : Nat) (h : i + 1 ≤ bl.length) : (splice bl i (bl.drop (i + 1))).take (bl.length - 1) = bl.eraseIdx i := by
  unfold splice
  rw [List.eraseIdx_eq_take_drop_succ, ← List.append_assoc, List.take_left']
  rw [List.length_append, List.length_take, List.length_drop]
  omega

theorem splice_end {α : Type} (l : List α) (p : Nat) (z : α) (h : l.length = p + 1) : splice l p [z] = l.take p ++ [z] := by
  unfold splice
  rw [List.drop_eq_nil_of_le (by simp; omega), List.append_nil]

set_option maxHeartbeats 1000000 in
set_option maxRecDepth 100000 in
theorem delete_any (bl : List Lb) (bg i p : Nat) (w : World) (B : Blk w bg (bl.flatMap Lb.cells) 113) (hi : i ≤ p) (hn : bl.length = p + 1) (few : p < 8) :
    Calls Tryz.prog 74 #[.slice (some ⟨bg, 0, none⟩) (p + 1) (p + 1), .int .i64 i, .int .i64 (i + 1 : Nat)] w fun e w' =>
      e = .returned (.slice (some ⟨bg, 0, none⟩) p (p + 1)) ∧ Blk w' bg ((bl.eraseIdx i ++ [lb0]).flatMap Lb.cells) 113 ∧ w.grownBy w' (some bg) := by
  obtain ⟨i0, hi0, hz0, hz1, hz2⟩ := info_parts infoCpB
  replace hn := hide hn
  have hnews : ((bl.drop (i + 1)).flatMap Lb.cells).length = (p - i) * 4 := by rw [flat_length Lb.four, List.length_drop, hn.out]; omega
  have hone : ∀ v ∈ (bl.drop (i + 1)).flatMap Lb.cells, v.oneCell' = true := by
    intro v hv
    obtain ⟨x, _, hx⟩ := List.mem_flatMap.1 hv
    simp only [Lb.cells, List.mem_cons, List.not_mem_nil, or_false] at hx
    rcases hx with rfl | rfl | rfl | rfl <;> rfl
  have BD : Blk w.drew bg (bl.flatMap Lb.cells) 113 := B
  obtain ⟨A, hA, hsrc⟩ : ∃ A : Addr, (if p = i then some (⟨bg, 0, none⟩ : Addr) else some ⟨bg, (i + 1) * 4, none⟩) = some A ∧ Hid (∀ t u, ((bl.drop (i + 1)).flatMap Lb.cells)[t]? = some u → w.drew.cell? (A.add t) = some u) := by
    by_cases h : p = i
    · refine ⟨⟨bg, 0, none⟩, by rw [if_pos h], fun t u hu => ?_⟩
      rw [List.drop_eq_nil_of_le (by rw [hn.out]; omega)] at hu
      simp at hu
    · refine ⟨⟨bg, (i + 1) * 4, none⟩, by rw [if_neg h], fun t u hu => ?_⟩
      rw [Addr.add_lit, BD.cell, ← List.getElem?_drop, flat_drop Lb.four]
      exact hu
  have hfit : i * 4 + ((bl.drop (i + 1)).flatMap Lb.cells).length ≤ (bl.flatMap Lb.cells).length := by rw [hnews, flat_length Lb.four, hn.out]; omega
  replace hnews := hide hnews
  replace hone := hide hone
  replace hfit := hide hfit
  have q1 : (i : Int) ≤ (p : Int) + 1 := by omega
  have q2 : (i : Int) + 1 ≤ (p : Int) + 1 := by omega
  have q3 : (0 : Int) ≤ (i : Int) + 1 := by omega
  have q4 : ((i : Int) + 1).toNat = i + 1 := by omega
  have q5 : ((p : Int) + 1).toNat = p + 1 := by omega
  have q6 : (0 : Int) ≤ (p : Int) + 1 := by omega
  clear B
  go_enter Tryz.func74, Tryz.ntmps74
  go_wp2_with fail
  go_region_law (refine step_append_in (by rfl) (.tmp 22) (.tmp 25) 80 (by rfl) 113 i0 4 Tryz.underlying80 hi0 hz1 bg i (p + 1) (by simp [Act.eval, Act.put]) (bl.flatMap Lb.cells) 113 BD A (p - i) (p - i) ((bl.drop (i + 1)).flatMap Lb.cells) (by simp [Act.eval, Act.put]) hnews.out hsrc.out hone.out (by omega) hfit.out ?_; intro w5 B5 grow5; rw [show i + (p - i) = p by omega])
  rw [splice_flat] at B5
  have hcl := fun ty => run_clear_blocks w5 80 113 ty _ Tryz.underlying80 zeroBlock rfl bg (p * 4) 1 1 (by decide) _ _ B5 (by rw [flat_length Lb.four]; unfold splice; simp only [List.length_append, List.length_take, List.length_drop, hn.out]; omega)
  obtain ⟨B6, grow6⟩ := Blk.setCells ((List.replicate 1 lb0).flatMap Lb.cells) (p * 4) B5 (by rw [flat_length Lb.four, flat_length Lb.four]; unfold splice; simp only [List.length_append, List.length_take, List.length_drop, List.length_replicate, hn.out]; omega)
  go_wp2_with fail
  go_ret
  refine ⟨rfl, ?_, ?_⟩
  · rw [splice_flat, show List.replicate 1 lb0 = [lb0] from rfl, splice_end _ p _ (by unfold splice; simp only [List.length_append, List.length_take, List.length_drop, hn.out]; omega)] at B6
    have e := splice_del bl i (by rw [hn.out]; omega)
    rw [hn.out, Nat.add_sub_cancel] at e
    rw [e] at B6
    exact B6
  · exact ⟨grow6.os.trans grow5.os, grow6.tape.trans grow5.tape, grow6.output.trans grow5.output, Nat.le_trans grow5.size grow6.size, fun j hj hne => (grow6.block j (Nat.lt_of_lt_of_le hj grow5.size) hne).trans (grow5.block j hj hne)⟩

end Go.Proofs.YtabeihkfjlmepaaGreatDoor
