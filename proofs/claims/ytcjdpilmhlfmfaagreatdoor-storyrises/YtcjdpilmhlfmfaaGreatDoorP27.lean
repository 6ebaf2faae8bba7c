/-
  shelf.changeRow: a copy of a shelf, on one row of which the function that is handed has worked; for each of the two that it is handed.
-/
import Derived.Deep.RegionWith
import Derived.Laws.CopyOwn
import Derived.Test.YtcjdpilmhlfmfaaGreatDoorHChange
import Derived.Test.YtcjdpilmhlfmfaaGreatDoorHSSeal1
import Derived.Test.YtcjdpilmhlfmfaaGreatDoorP05
import Derived.Test.YtcjdpilmhlfmfaaGreatDoorP20
import Derived.Test.YtcjdpilmhlfmfaaGreatDoorP02
import Derived.Test.YtcjdpilmhlfmfaaGreatDoorP19
namespace Go.Proofs.YtcjdpilmhlfmfaaGreatDoor
open Go.RowKit

theorem inI_natS {s : Int} (h : inI s 0 3 = true) : ∃ k : Nat, s = k ∧ k < 4 := by
  unfold inI at h
  have : 0 ≤ s ∧ s ≤ 3 := by simpa using h
  exact ⟨s.toNat, by omega, by omega⟩

theorem below4a (w : World) (a b c d : Obj) : Below w.heap.size w ((((w.alloc a).alloc b).alloc c).alloc d) :=
  belowNew (belowNew (belowNew (belowNew (Below.refl _ _) a) b) c) d

set_option maxHeartbeats 1000000 in
set_option maxRecDepth 100000 in
theorem changeRow1S (cv : Value) (s : Int) (E : Int) (L : List Rw) (l : List Rw) (sb db : Nat) (td : TypeId) (base box g : Nat) (rs : List Lr) (W : World) (Bs : Blk W sb [.int .i64 s] 3) (Bd : Blk W db [.func (.func 151) #[] #[cv]] td) (C : Copied l base box g rs W) (hE : inI s 0 3 = false → E = 5)
    (hdo : ∀ k : Nat, s = k → k < 4 → ∀ W2, Below W.heap.size W W2 → Calls Tryz.prog 151 #[.pointer (some ⟨g, k * 2, none⟩), cv] W2 (Does E L base box g W2)) :
    Calls Tryz.prog 183 #[.pointer (some ⟨box, 0, none⟩), .pointer (some ⟨sb, 0, none⟩), .pointer (some ⟨db, 0, none⟩)] W (Does E L base box g W) := by
  have c2 := fun W => isSeries_any s W
  have d0 : W.cell? ⟨sb, 0, none⟩ = some (.int .i64 s) := Bs.cell 0
  have d1 : W.cell? ⟨db, 0, none⟩ = some (.func (.func 151) #[] #[cv]) := Bd.cell 0
  have d2 : W.cell? ⟨box, 0, none⟩ = some (.slice (some ⟨g, 0, none⟩) 4 4) := C.out.cell 0
  have hbase := C.base
  cases hi : inI s 0 3 with
  | false =>
    obtain rfl := hE hi
    rw [hi] at c2
    clear hdo hE hi C
    go_enter Tryz.func183, Tryz.ntmps183
    go_wp2_with fail
    go_at_call 78
    refine (c2 _).mono ?_
    rintro e w3 ⟨rfl, rfl⟩
    go_wp2_with fail
    go_ret
    exact ⟨rfl, Below.refl _ _, fun h => by cases h⟩
  | true =>
    obtain ⟨k, rfl, hk⟩ := inI_natS hi
    rw [hi] at c2
    have hdo := hdo k rfl hk W.drew (belowDrew (Below.refl _ _))
    have hk' : (k : Int) < 4 := by omega
    clear hE hi C
    go_enter Tryz.func183, Tryz.ntmps183
    go_wp2_with fail
    go_at_call 78
    refine (c2 _).mono ?_
    rintro e w3 ⟨rfl, rfl⟩
    rename World => W
    clear c2
    go_wp2_with fail
    go_region_with (go_at_call 151; refine hdo.mono ?_; rintro e w4 ⟨rfl, b4, h4⟩)
    all_goals (
      go_wp2_with fail
      go_ret
      exact ⟨rfl, (belowDrew (Below.refl _ _)).trans b4, h4⟩)

set_option maxHeartbeats 1000000 in
set_option maxRecDepth 100000 in
theorem changeRowS (cv : Value) (s : Int) (E : Int) (L : List Rw) (l : List Lr) (ao : Option Addr) (cap : Nat) (w : World) (hs : SlR w ao cap l) (hE : inI s 0 3 = false → E = 5)
    (hdo : shelfE (l.map Lr.rw) = 0 → ∀ W base box g rs, w.heap.size ≤ base → Below w.heap.size w W → Copied (l.map Lr.rw) base box g rs W → ∀ k : Nat, s = k → k < 4 → Calls Tryz.prog 151 #[.pointer (some ⟨g, k * 2, none⟩), cv] W (Does E L base box g W)) :
    Calls Tryz.prog 150 #[.agg #[.slice ao l.length cap], .int .i64 s, .func (.func 151) #[] #[cv]] w fun e w' => ∃ rs a' G, e = .returned (.tuple #[.agg #[.slice a' rs.length G], .int .i64 (chE (l.map Lr.rw) E)]) ∧ rs.map Lr.rw = chL (l.map Lr.rw) E L ∧ SlR w' a' G rs ∧ ((∀ ad, a' = some ad → w.heap.size ≤ ad.block) ∧ HdLo w.heap.size rs) ∧ Below w.heap.size w w' := by
  obtain ⟨td, htd⟩ : ∃ td, td = 190 := ⟨_, rfl⟩
  have S1 := ((Blk.laid (w.alloc (.cells #[.slice ao l.length cap] 24)) [.int .i64 s] 3 (w.heap.size + 1) (by simp)).alc (.cells #[.func (.func 151) #[] #[cv]] td)).alc (.cells #[.slice none 0 0] 24)
  have D1 := (Blk.laid ((w.alloc (.cells #[.slice ao l.length cap] 24)).alloc (.cells #[.int .i64 s] 3)) [.func (.func 151) #[] #[cv]] td (w.heap.size + 2) (by simp)).alc (.cells #[.slice none 0 0] 24)
  have R1 := Blk.laid (((w.alloc (.cells #[.slice ao l.length cap] 24)).alloc (.cells #[.int .i64 s] 3)).alloc (.cells #[.func (.func 151) #[] #[cv]] td)) [.slice none 0 0] 24 (w.heap.size + 3) (by simp)
  have bel1 := below4a w (.cells #[.slice ao l.length cap] 24) (.cells #[.int .i64 s] 3) (.cells #[.func (.func 151) #[] #[cv]] td) (.cells #[.slice none 0 0] 24)
  subst htd
  have s1 := hs.keep bel1 (Nat.le_refl _)
  have c := fun W (b0 : Below w.heap.size w W) (S : SlR W ao cap l) (Bs : Blk W (w.heap.size + 1) [.int .i64 s] 3) (Bd : Blk W (w.heap.size + 2) [.func (.func 151) #[] #[cv]] 190) => changeR (.pointer (some ⟨w.heap.size + 1, 0, none⟩)) (.pointer (some ⟨w.heap.size + 2, 0, none⟩)) E L l ao cap W S
    (fun hz W2 base box g rs hb b2 C => changeRow1S cv s E L (l.map Lr.rw) (w.heap.size + 1) (w.heap.size + 2) _ base box g rs W2 (Bs.keep b2 Bs.lt) (Bd.keep b2 Bd.lt) C hE
      (fun k hk h4 W3 b3 => hdo hz W3 base box g rs (Nat.le_trans b0.size hb) (b0.trans ((b2.mono b0.size).trans (b3.mono (Nat.le_trans b0.size b2.size)))) (C.call b3) k hk h4))
  clear hdo
  generalize chL (l.map Lr.rw) E L = X at *
  generalize chE (l.map Lr.rw) E = F at *
  generalize l.length = n at *
  go_enter Tryz.func150, Tryz.ntmps150
  go_wp2_with fail
  generalize (((w.alloc _).alloc _).alloc _).alloc _ = w1 at *
  go_at_call 147
  refine (c _ bel1 s1 S1 D1).mono ?_
  rintro e w2 ⟨rs, a', G, rfl, hX, s2, fr, b2⟩
  have R2 := R1.keep b2 R1.lt
  have bel2 := belowCall bel1 b2
  have r0 : w2.cell? ⟨w.heap.size + 3, 0, none⟩ = some (.slice none 0 0) := R2.cell 0
  have r1 := R2.free 0
  have s3 := s2.written (onlyOne none 0 0) R2 (i := 0) (u := .slice a' rs.length G) (fun ad e => by have := fr.1 ad e; have := R1.lt; omega)
  have bel3 := bel2.setCell (p := ⟨w.heap.size + 3, 0, none⟩) (by show w.heap.size ≤ w.heap.size + 3; omega) (.slice a' rs.length G)
  have fr2 : (∀ ad, a' = some ad → w.heap.size ≤ ad.block) ∧ HdLo w.heap.size rs := ⟨fun ad e => Nat.le_trans bel1.size (fr.1 ad e), fr.2.mono bel1.size⟩
  replace s3 := hide s3
  replace hX := hide hX
  replace fr2 := hide fr2
  clear s2 R1 R2 s1 S1 D1 c hs fr
  go_wp2_with fail
  exact bodyPost_ret (v := .tuple #[.agg #[.slice a' rs.length G], .int .i64 F]) (by simp [results, Tryz.results150, go_sem, r0]) rfl ⟨rs, a', G, rfl, hX.out, s3.out, fr2.out, bel3⟩

set_option maxHeartbeats 1000000 in
set_option maxRecDepth 100000 in
theorem changeRow1M (cv : Value) (s : Int) (E : Int) (L : List Rw) (l : List Rw) (sb db : Nat) (td : TypeId) (base box g : Nat) (rs : List Lr) (W : World) (Bs : Blk W sb [.int .i64 s] 3) (Bd : Blk W db [.func (.func 153) #[] #[cv]] td) (C : Copied l base box g rs W) (hE : inI s 0 3 = false → E = 5)
    (hdo : ∀ k : Nat, s = k → k < 4 → ∀ W2, Below W.heap.size W W2 → Calls Tryz.prog 153 #[.pointer (some ⟨g, k * 2, none⟩), cv] W2 (Does E L base box g W2)) :
    Calls Tryz.prog 183 #[.pointer (some ⟨box, 0, none⟩), .pointer (some ⟨sb, 0, none⟩), .pointer (some ⟨db, 0, none⟩)] W (Does E L base box g W) := by
  have c2 := fun W => isSeries_any s W
  have d0 : W.cell? ⟨sb, 0, none⟩ = some (.int .i64 s) := Bs.cell 0
  have d1 : W.cell? ⟨db, 0, none⟩ = some (.func (.func 153) #[] #[cv]) := Bd.cell 0
  have d2 : W.cell? ⟨box, 0, none⟩ = some (.slice (some ⟨g, 0, none⟩) 4 4) := C.out.cell 0
  have hbase := C.base
  cases hi : inI s 0 3 with
  | false =>
    obtain rfl := hE hi
    rw [hi] at c2
    clear hdo hE hi C
    go_enter Tryz.func183, Tryz.ntmps183
    go_wp2_with fail
    go_at_call 78
    refine (c2 _).mono ?_
    rintro e w3 ⟨rfl, rfl⟩
    go_wp2_with fail
    go_ret
    exact ⟨rfl, Below.refl _ _, fun h => by cases h⟩
  | true =>
    obtain ⟨k, rfl, hk⟩ := inI_natS hi
    rw [hi] at c2
    have hdo := hdo k rfl hk W.drew (belowDrew (Below.refl _ _))
    have hk' : (k : Int) < 4 := by omega
    clear hE hi C
    go_enter Tryz.func183, Tryz.ntmps183
    go_wp2_with fail
    go_at_call 78
    refine (c2 _).mono ?_
    rintro e w3 ⟨rfl, rfl⟩
    rename World => W
    clear c2
    go_wp2_with fail
    go_region_with (go_at_call 153; refine hdo.mono ?_; rintro e w4 ⟨rfl, b4, h4⟩)
    all_goals (
      go_wp2_with fail
      go_ret
      exact ⟨rfl, (belowDrew (Below.refl _ _)).trans b4, h4⟩)

set_option maxHeartbeats 1000000 in
set_option maxRecDepth 100000 in
theorem changeRowM (cv : Value) (s : Int) (E : Int) (L : List Rw) (l : List Lr) (ao : Option Addr) (cap : Nat) (w : World) (hs : SlR w ao cap l) (hE : inI s 0 3 = false → E = 5)
    (hdo : shelfE (l.map Lr.rw) = 0 → ∀ W base box g rs, w.heap.size ≤ base → Below w.heap.size w W → Copied (l.map Lr.rw) base box g rs W → ∀ k : Nat, s = k → k < 4 → Calls Tryz.prog 153 #[.pointer (some ⟨g, k * 2, none⟩), cv] W (Does E L base box g W)) :
    Calls Tryz.prog 150 #[.agg #[.slice ao l.length cap], .int .i64 s, .func (.func 153) #[] #[cv]] w fun e w' => ∃ rs a' G, e = .returned (.tuple #[.agg #[.slice a' rs.length G], .int .i64 (chE (l.map Lr.rw) E)]) ∧ rs.map Lr.rw = chL (l.map Lr.rw) E L ∧ SlR w' a' G rs ∧ ((∀ ad, a' = some ad → w.heap.size ≤ ad.block) ∧ HdLo w.heap.size rs) ∧ Below w.heap.size w w' := by
  obtain ⟨td, htd⟩ : ∃ td, td = 190 := ⟨_, rfl⟩
  have S1 := ((Blk.laid (w.alloc (.cells #[.slice ao l.length cap] 24)) [.int .i64 s] 3 (w.heap.size + 1) (by simp)).alc (.cells #[.func (.func 153) #[] #[cv]] td)).alc (.cells #[.slice none 0 0] 24)
  have D1 := (Blk.laid ((w.alloc (.cells #[.slice ao l.length cap] 24)).alloc (.cells #[.int .i64 s] 3)) [.func (.func 153) #[] #[cv]] td (w.heap.size + 2) (by simp)).alc (.cells #[.slice none 0 0] 24)
  have R1 := Blk.laid (((w.alloc (.cells #[.slice ao l.length cap] 24)).alloc (.cells #[.int .i64 s] 3)).alloc (.cells #[.func (.func 153) #[] #[cv]] td)) [.slice none 0 0] 24 (w.heap.size + 3) (by simp)
  have bel1 := below4a w (.cells #[.slice ao l.length cap] 24) (.cells #[.int .i64 s] 3) (.cells #[.func (.func 153) #[] #[cv]] td) (.cells #[.slice none 0 0] 24)
  subst htd
  have s1 := hs.keep bel1 (Nat.le_refl _)
  have c := fun W (b0 : Below w.heap.size w W) (S : SlR W ao cap l) (Bs : Blk W (w.heap.size + 1) [.int .i64 s] 3) (Bd : Blk W (w.heap.size + 2) [.func (.func 153) #[] #[cv]] 190) => changeR (.pointer (some ⟨w.heap.size + 1, 0, none⟩)) (.pointer (some ⟨w.heap.size + 2, 0, none⟩)) E L l ao cap W S
    (fun hz W2 base box g rs hb b2 C => changeRow1M cv s E L (l.map Lr.rw) (w.heap.size + 1) (w.heap.size + 2) _ base box g rs W2 (Bs.keep b2 Bs.lt) (Bd.keep b2 Bd.lt) C hE
      (fun k hk h4 W3 b3 => hdo hz W3 base box g rs (Nat.le_trans b0.size hb) (b0.trans ((b2.mono b0.size).trans (b3.mono (Nat.le_trans b0.size b2.size)))) (C.call b3) k hk h4))
  clear hdo
  generalize chL (l.map Lr.rw) E L = X at *
  generalize chE (l.map Lr.rw) E = F at *
  generalize l.length = n at *
  go_enter Tryz.func150, Tryz.ntmps150
  go_wp2_with fail
  generalize (((w.alloc _).alloc _).alloc _).alloc _ = w1 at *
  go_at_call 147
  refine (c _ bel1 s1 S1 D1).mono ?_
  rintro e w2 ⟨rs, a', G, rfl, hX, s2, fr, b2⟩
  have R2 := R1.keep b2 R1.lt
  have bel2 := belowCall bel1 b2
  have r0 : w2.cell? ⟨w.heap.size + 3, 0, none⟩ = some (.slice none 0 0) := R2.cell 0
  have r1 := R2.free 0
  have s3 := s2.written (onlyOne none 0 0) R2 (i := 0) (u := .slice a' rs.length G) (fun ad e => by have := fr.1 ad e; have := R1.lt; omega)
  have bel3 := bel2.setCell (p := ⟨w.heap.size + 3, 0, none⟩) (by show w.heap.size ≤ w.heap.size + 3; omega) (.slice a' rs.length G)
  have fr2 : (∀ ad, a' = some ad → w.heap.size ≤ ad.block) ∧ HdLo w.heap.size rs := ⟨fun ad e => Nat.le_trans bel1.size (fr.1 ad e), fr.2.mono bel1.size⟩
  replace s3 := hide s3
  replace hX := hide hX
  replace fr2 := hide fr2
  clear s2 R1 R2 s1 S1 D1 c hs fr
  go_wp2_with fail
  exact bodyPost_ret (v := .tuple #[.agg #[.slice a' rs.length G], .int .i64 F]) (by simp [results, Tryz.results150, go_sem, r0]) rfl ⟨rs, a', G, rfl, hX.out, s3.out, fr2.out, bel3⟩

end Go.Proofs.YtcjdpilmhlfmfaaGreatDoor

/-
  shelf.Seal: what it answers of a shelf, whatever it is.
-/
namespace Go.Proofs.YtcjdpilmhlfmfaaGreatDoor
open Go.RowKit

theorem drewBelow (base : Nat) (W : World) (q : Nat) : Below base W (W.drewN q) := belowDrewN (Below.refl base W) q

theorem seal1_any (n : Int) (cb : Nat) (l : List Rw) (hE : shelfE l = 0) (base box g k : Nat) (rs : List Lr) (W : World) (hk : k < 4) (Bc : Blk W cb [.int .i64 n] 3) (C : Copied l base box g rs W) :
    Calls Tryz.prog 151 #[.pointer (some ⟨g, k * 2, none⟩), .pointer (some ⟨cb, 0, none⟩)] W (Does (sealE l k n) (sealL l k n) base box g W) := by
  have hR := right_of hE
  obtain ⟨r, hr, hrw, e0, e1, oR, f1, f2⟩ := C.row hR k hk
  have d0 : W.cell? ⟨cb, 0, none⟩ = some (.int .i64 n) := Bc.cell 0
  have hi : inI (k : Int) 0 3 = true := by unfold inI; simp; omega
  have hrow : rowE (l.getD k rw0) = 0 := by
    rw [← hrw]
    exact rowsE_zero (shelfE_zero hE).2 r.rw (by rw [← C.same]; exact List.mem_map.2 ⟨r, List.mem_of_getElem? hr, rfl⟩)
  have hhd : (l.getD k rw0).head = r.hd := by rw [← hrw]; rfl
  have hbl : (l.getD k rw0).blocks.length = r.bs.length := by rw [← hrw]; unfold Lr.rw; simp
  cases hn : inI n 1 r.hd.length with
  | false =>
    have e : sealE l k n = 3 := by unfold sealE; rw [hi, Int.toNat_natCast, hhd, hn]; rfl
    rw [e]
    refine (seal1_range n cb g k r.hd.length r.hc r.ha W d0 e1 hn).mono ?_
    rintro e W' ⟨rfl, q, rfl⟩
    exact ⟨rfl, drewBelow _ _ _, fun h => by cases h⟩
  | true =>
    have hn2 : 1 ≤ n ∧ n ≤ r.hd.length := by unfold inI at hn; simpa using hn
    obtain ⟨q, rfl⟩ : ∃ q : Nat, n = q := ⟨n.toNat, by omega⟩
    by_cases h8 : r.bs.length = 8
    · have e : sealE l k q = 2 := by unfold sealE; rw [hi, Int.toNat_natCast, hhd, hn, hbl, h8]; rfl
      rw [e]
      rw [h8] at e0
      refine (seal1_full q cb g k r.hd.length r.hc r.bc r.ha r.ba W d0 e1 e0 (by omega) (by omega)).mono ?_
      rintro e W' ⟨rfl, q, rfl⟩
      exact ⟨rfl, drewBelow _ _ _, fun h => by cases h⟩
    · have e : sealE l k q = 0 := by unfold sealE; rw [hi, Int.toNat_natCast, hhd, hn, hbl, if_neg (by decide), if_neg (by decide), if_neg (by omega)]
      have e2 : sealL l k q = l.set k ⟨r.rw.blocks ++ [makeB (r.hd.take q)], r.hd.drop q⟩ := by
        unfold sealL
        rw [if_pos e, Int.toNat_natCast, Int.toNat_natCast, hhd, ← hrw]
      rw [e, e2]
      have hc := (rowE_zero hrow).2.2
      have h1 := check_drop hc (blksL (l.getD k rw0).blocks).length
      unfold allPts at h1
      rw [List.drop_left' rfl, hhd] at h1
      have h2 := check_take h1 q
      exact seal1_ok q cb l base box g k rs r W hR C hr Bc (by omega) f2 (by omega) (by omega) (makeE_zero h2 (by rw [List.length_take]; omega))

set_option maxHeartbeats 1000000 in
set_option maxRecDepth 100000 in
/-- Seal, whatever it is handed. -/
theorem sSeal_own (l : List Lr) (ao : Option Addr) (cap : Nat) (s n : Int) (w : World) (hs : SlR w ao cap l) :
    Calls Tryz.prog 117 #[.agg #[.slice ao l.length cap], .int .i64 s, .int .i64 n] w fun e w' => ∃ rs a' G, e = .returned (.tuple #[.agg #[.slice a' rs.length G], .int .i64 (chE (l.map Lr.rw) (sealE (l.map Lr.rw) s n))]) ∧ rs.map Lr.rw = chL (l.map Lr.rw) (sealE (l.map Lr.rw) s n) (sealL (l.map Lr.rw) s n) ∧ SlR w' a' G rs ∧ HdLo w.heap.size rs ∧ Below w.heap.size w w' := by
  have B1 := (Blk.laid (w.alloc (.cells #[.slice ao l.length cap] 24)) [.int .i64 n] 3 (w.heap.size + 1) (by simp)).alc (.cells #[.slice none 0 0] 24)
  have R1 := Blk.laid ((w.alloc (.cells #[.slice ao l.length cap] 24)).alloc (.cells #[.int .i64 n] 3)) [.slice none 0 0] 24 (w.heap.size + 2) (by simp)
  have bel1 := below3 w (.cells #[.slice ao l.length cap] 24) (.cells #[.int .i64 n] 3) (.cells #[.slice none 0 0] 24)
  have s1 := hs.keep bel1 (Nat.le_refl _)
  have c := fun W (S : SlR W ao cap l) (B : Blk W (w.heap.size + 1) [.int .i64 n] 3) => changeRowS (.pointer (some ⟨w.heap.size + 1, 0, none⟩)) s (sealE (l.map Lr.rw) s n) (sealL (l.map Lr.rw) s n) l ao cap W S
    (fun h => by unfold sealE; rw [if_pos h])
    (fun hE W2 base box g rs hb b2 C k hk hk4 => by
      subst hk
      exact seal1_any n (w.heap.size + 1) (l.map Lr.rw) hE base box g k rs W2 hk4 (B.keep b2 B.lt) C)
  generalize chL (l.map Lr.rw) (sealE (l.map Lr.rw) s n) (sealL (l.map Lr.rw) s n) = X at *
  generalize chE (l.map Lr.rw) (sealE (l.map Lr.rw) s n) = E at *
  generalize l.length = m at *
  go_enter Tryz.func117, Tryz.ntmps117
  go_wp2_with fail
  generalize ((w.alloc _).alloc _).alloc _ = w1 at *
  go_at_call 150
  refine (c _ s1 B1).mono ?_
  rintro e w2 ⟨rs, a', G, rfl, hX, s2, fr, b2⟩
  have R2 := R1.keep b2 R1.lt
  have bel2 := belowCall bel1 b2
  have r0 : w2.cell? ⟨w.heap.size + 2, 0, none⟩ = some (.slice none 0 0) := R2.cell 0
  have r1 := R2.free 0
  have s3 := s2.written (onlyOne none 0 0) R2 (i := 0) (u := .slice a' rs.length G) (fun ad e => by have := fr.1 ad e; have := R1.lt; omega)
  have bel3 := bel2.setCell (p := ⟨w.heap.size + 2, 0, none⟩) (by show w.heap.size ≤ w.heap.size + 2; omega) (.slice a' rs.length G)
  have hlo := hide (fr.2.mono bel1.size)
  replace s3 := hide s3
  replace hX := hide hX
  clear s2 R1 R2 s1 B1 c hs
  go_wp2_with fail
  exact bodyPost_ret (v := .tuple #[.agg #[.slice a' rs.length G], .int .i64 E]) (by simp [results, Tryz.results117, go_sem, r0]) rfl ⟨rs, a', G, rfl, hX.out, s3.out, hlo.out, bel3⟩

end Go.Proofs.YtcjdpilmhlfmfaaGreatDoor

/-
  Rows whose blocks are cut where they lie. No function of the program is named.
-/
namespace Go.Proofs.YtcjdpilmhlfmfaaGreatDoor
open Go.RowKit

/-- A row's blocks are fewer: their block is written, the row leads to the first of it. -/
theorem Copied.cut {l : List Rw} {base box g bg k n : Nat} {rs : List Lr} {W w2 : World} {r : Lr} {kept tail : List Lb} (C : Copied l base box g rs W) (hr : rs[k]? = some r) (hb : r.ba = some ⟨bg, 0, none⟩) (hn : n = r.bs.length)
    (grow : W.grownBy w2 (some bg)) (B : Blk w2 bg ((kept ++ tail).flatMap Lb.cells) 93) (hk : ∀ x ∈ kept, x.Good W) (hl : kept.length ≤ n) (few : n ≤ 8) (hf : ∀ r ∈ rs, r.Good W) :
    FinS (w2.setCell ⟨g, k * 2, none⟩ (.slice (some ⟨bg, 0, none⟩) kept.length n)) base g (rs.set k ⟨kept, some ⟨bg, 0, none⟩, n, r.hd, r.ha, r.hc⟩) ∧
      Blk (w2.setCell ⟨g, k * 2, none⟩ (.slice (some ⟨bg, 0, none⟩) kept.length n)) box [.slice (some ⟨g, 0, none⟩) 4 4] 24 ∧
      Below base W (w2.setCell ⟨g, k * 2, none⟩ (.slice (some ⟨bg, 0, none⟩) kept.length n)) := by
  have oR := C.own.each r (List.mem_of_getElem? hr)
  obtain ⟨bg', e2, lo, B0⟩ := oR.bs
  rw [hb] at e2
  simp only [Option.some.injEq, Addr.mk.injEq, and_true] at e2
  subst e2
  have ne : ∀ {q : Nat} {cs : List Value} {t : TypeId}, Blk W q cs t → t ≠ 93 → ∀ i, some bg = some i → i ≠ q := by
    intro q cs t Bq ht i e
    obtain rfl := Option.some.inj e
    rintro rfl
    exact ht (blkType Bq B0)
  have G2 := C.own.rows.grown grow (ne C.own.rows (by decide))
  have O2 := C.out.grown grow (ne C.out (by decide))
  have b1 : Below base W w2 := (Below.refl base W).grown grow C.base (fun i e => by obtain rfl := Option.some.inj e; exact lo)
  have nb := blkNoBool r.bs
  have good2 : ∀ q ∈ rs, q.ba ≠ some ⟨bg, 0, none⟩ → q.Good w2 := by
    intro q hq hne
    have oq := C.own.each q hq
    have oq2 := oq.wrote grow B0 (by decide) hne (oq.notH B0 (by decide))
    exact oq2.toGood (hf q hq).few (by have := (hf q hq).hfew; omega)
  have gy : Lr.Good w2 ⟨kept, some ⟨bg, 0, none⟩, n, r.hd, r.ha, r.hc⟩ := by
    have gr := hf r (List.mem_of_getElem? hr)
    refine ⟨⟨⟨?_, hl, by show n ≤ _; omega, fun e => by cases e⟩, fun x hx => (hk x hx).off grow B0 nb⟩, ?_, by show kept.length ≤ _; omega, gr.hfew⟩
    · refine B.row 0 _ (fun i v hv => ?_)
      rw [Nat.zero_add, List.flatMap_append, List.getElem?_append_left (List.getElem?_eq_some_iff.1 hv).1]
      exact hv
    · obtain ⟨hh, eh, oh⟩ := oR.hd
      have oh2 := oh.kept grow (.inr (fun e => oR.notH B0 (by decide) (by rw [eh]; have : hh = bg := Option.some.inj e; rw [this])))
      obtain ⟨a3, G3, e3, s3, _, _⟩ := SlP.ofOwn oh2
      simp only [Value.slice.injEq, true_and] at e3
      obtain ⟨rfl, rfl⟩ := e3
      show SlP w2 r.ha r.hc r.hd
      rw [eh]
      exact s3
  have grow2 : w2.grownBy (w2.setCell ⟨g, k * 2, none⟩ (.slice (some ⟨bg, 0, none⟩) kept.length n)) (some g) := grownSet (grownRefl w2 (some g)) _ _
  have B2 := G2.set (k * 2) (.slice (some ⟨bg, 0, none⟩) kept.length n)
  rw [setFirst r ⟨kept, some ⟨bg, 0, none⟩, n, r.hd, r.ha, r.hc⟩ _ _ rfl _ rfl Lr.two rs k hr] at B2
  refine ⟨⟨B2, C.own.lo, fun q hq => ?_⟩, ?_, b1.setCell C.own.lo _⟩
  · obtain ⟨j, hj, e⟩ := List.mem_iff_getElem.1 hq
    have hq' : (rs.set k ⟨kept, some ⟨bg, 0, none⟩, n, r.hd, r.ha, r.hc⟩)[j]? = some q := by rw [List.getElem?_eq_getElem hj, e]
    rw [List.getElem?_set] at hq'
    split at hq'
    · split at hq'
      · obtain rfl := Option.some.inj hq'
        exact gy.offSl grow2 G2 (onlyRows rs)
      · cases hq'
    · rename_i hne
      have m := List.mem_of_getElem? hq'
      exact (good2 q m (by rw [← hb]; exact (C.own.ap j k q r (fun e => hne e.symm) hq' hr).1)).offSl grow2 G2 (onlyRows rs)
  · refine O2.grown grow2 (fun i e => ?_)
    obtain rfl := Option.some.inj e
    rintro rfl
    exact absurd (blkType C.out C.own.rows) (by decide)

/-- A row whose blocks lie in memory of the call's own, with others behind them; its head, too. -/
structure TailR (w : World) (base : Nat) (r : Lr) : Prop where
  bs : ∃ bg tail, r.ba = some ⟨bg, 0, none⟩ ∧ base ≤ bg ∧ Blk w bg ((r.bs ++ tail).flatMap Lb.cells) 93 ∧ r.bc = (r.bs ++ tail).length
  hd : ∃ hg, r.ha = some ⟨hg, 0, none⟩ ∧ w.ownsRow base 50 2 (.slice (some ⟨hg, 0, none⟩) r.hd.length r.hc) r.hd.length (cellsP r.hd)
  good : ∀ x ∈ r.bs, x.Own w

theorem OwnR.tail {w : World} {base : Nat} {r : Lr} (h : OwnR w base r) : TailR w base r := by
  obtain ⟨bg, e1, l1, B⟩ := h.bs
  exact ⟨⟨bg, [], e1, l1, by rw [List.append_nil]; exact B, by rw [List.append_nil]; exact h.bc⟩, h.hd, h.good⟩

theorem TailR.wrote {w w' : World} {base g : Nat} {r : Lr} {cs : List Value} {t : TypeId} (h : TailR w base r) (hg : w.grownBy w' (some g)) (B : Blk w g cs t) (ht : t ≠ 4) (h1 : r.ba ≠ some ⟨g, 0, none⟩) (h2 : r.ha ≠ some ⟨g, 0, none⟩) : TailR w' base r := by
  obtain ⟨bg, tl, e1, l1, B1, e⟩ := h.bs
  obtain ⟨hh, e2, o⟩ := h.hd
  refine ⟨⟨bg, tl, e1, l1, B1.grown hg (fun k e => ?_), e⟩, ⟨hh, e2, o.kept hg (.inr (fun e => ?_))⟩, fun x hx => (h.good x hx).wrote hg B ht⟩
  · obtain rfl := Option.some.inj e
    intro e
    subst e
    exact h1 e1
  · have : hh = g := Option.some.inj e
    subst this
    exact h2 e2

theorem TailR.notB {w : World} {base g : Nat} {r : Lr} {cs : List Value} {t : TypeId} (h : TailR w base r) (B : Blk w g cs t) (ht : t ≠ 93) : r.ba ≠ some ⟨g, 0, none⟩ := by
  obtain ⟨bg, tl, e1, l1, B1, _⟩ := h.bs
  intro e
  rw [e1] at e
  simp only [Option.some.injEq, Addr.mk.injEq, and_true] at e
  subst e
  exact ht (blkType B B1)

theorem TailR.notH {w : World} {base g : Nat} {r : Lr} {cs : List Value} {t : TypeId} (h : TailR w base r) (B : Blk w g cs t) (ht : t ≠ 50) : r.ha ≠ some ⟨g, 0, none⟩ := by
  obtain ⟨hh, e2, o⟩ := h.hd
  obtain ⟨cur, B2, _⟩ := ownBlk o
  intro e
  rw [e2] at e
  simp only [Option.some.injEq, Addr.mk.injEq, and_true] at e
  subst e
  exact ht (blkType B B2)

theorem TailR.toGood {w : World} {base : Nat} {r : Lr} (h : TailR w base r) (f1 : r.bc ≤ 140737488355328) (f2 : r.hd.length ≤ 8796093022208) : r.Good w := by
  obtain ⟨bg, tl, e1, l1, B1, e⟩ := h.bs
  obtain ⟨hh, e2, o⟩ := h.hd
  obtain ⟨a3, G3, e3, s3, _, _⟩ := SlP.ofOwn o
  simp only [Value.slice.injEq, true_and] at e3
  obtain ⟨rfl, rfl⟩ := e3
  have hle : r.bs.length ≤ r.bc := by rw [e, List.length_append]; omega
  refine ⟨⟨⟨?_, hle, by omega, fun e => by rw [e1] at e; cases e⟩, fun x hx => (h.good x hx).good⟩, by rw [e2]; exact s3, by omega, by omega⟩
  rw [e1]
  refine B1.row 0 _ (fun i v hv => ?_)
  rw [Nat.zero_add, List.flatMap_append, List.getElem?_append_left (List.getElem?_eq_some_iff.1 hv).1]
  exact hv

/-- A copy of a shelf of which the rows ahead of i have been cut. -/
structure CutS (base box g i : Nat) (rs : List Lr) (W : World) : Prop where
  out : Blk W box [.slice (some ⟨g, 0, none⟩) 4 4] 24
  rows : Blk W g (rs.flatMap Lr.cells) 47
  lo : base ≤ g
  each : ∀ (j : Nat) (r : Lr), rs[j]? = some r → TailR W base r ∧ r.bc ≤ 8 ∧ r.hd.length ≤ 40 ∧ (i ≤ j → OwnR W base r)
  ap : ApartL rs

theorem CutS.hdLo {base box g i : Nat} {rs : List Lr} {W : World} (h : CutS base box g i rs W) : HdLo base rs := by
  intro r hr
  obtain ⟨j, hj, rfl⟩ := List.mem_iff_getElem.1 hr
  exact ownHdLo (h.each j _ (List.getElem?_eq_getElem hj)).1.hd

theorem CutS.base {base box g i : Nat} {rs : List Lr} {W : World} (h : CutS base box g i rs W) : base ≤ W.heap.size := by
  have h1 := h.lo
  have h2 := h.rows.lt
  omega

theorem CutS.start {l : List Rw} {base box g : Nat} {rs : List Lr} {W : World} (C : Copied l base box g rs W) (hR : Right l) : CutS base box g 0 rs W := by
  refine ⟨C.out, C.own.rows, C.own.lo, fun j r hr => ?_, C.own.ap⟩
  have oR := C.own.each r (List.mem_of_getElem? hr)
  have few := hR.few r.rw (by rw [← C.same]; exact List.mem_map.2 ⟨r, List.mem_of_getElem? hr, rfl⟩)
  exact ⟨oR.tail, by rw [oR.bc]; simpa [Lr.rw] using few.1, few.2, fun _ => oR⟩

theorem CutS.fin {base box g i : Nat} {rs : List Lr} {W : World} (h : CutS base box g i rs W) : FinS W base g rs := by
  refine ⟨h.rows, h.lo, fun r hr => ?_⟩
  obtain ⟨j, hj, rfl⟩ := List.mem_iff_getElem.1 hr
  obtain ⟨h1, h2, h3, _⟩ := h.each j _ (List.getElem?_eq_getElem hj)
  exact h1.toGood (by omega) (by omega)

/-- One more row is cut. -/
theorem CutS.step {base box g bg i n : Nat} {rs : List Lr} {W w2 : World} {r : Lr} {kept tail : List Lb} (C : CutS base box g i rs W) (hr : rs[i]? = some r) (hb : r.ba = some ⟨bg, 0, none⟩) (hn : n = r.bs.length)
    (grow : W.grownBy w2 (some bg)) (B : Blk w2 bg ((kept ++ tail).flatMap Lb.cells) 93) (hl : (kept ++ tail).length = n) (hk : ∀ x ∈ kept, x ∈ r.bs) :
    CutS base box g (i + 1) (rs.set i ⟨kept, some ⟨bg, 0, none⟩, n, r.hd, r.ha, r.hc⟩) (w2.setCell ⟨g, i * 2, none⟩ (.slice (some ⟨bg, 0, none⟩) kept.length n)) ∧
      Below base W (w2.setCell ⟨g, i * 2, none⟩ (.slice (some ⟨bg, 0, none⟩) kept.length n)) := by
  obtain ⟨tR, hbc, hhd, ho⟩ := C.each i r hr
  have oR := ho (Nat.le_refl _)
  obtain ⟨bg', e2, lo, B0⟩ := oR.bs
  rw [hb] at e2
  simp only [Option.some.injEq, Addr.mk.injEq, and_true] at e2
  subst e2
  have ne : ∀ {q : Nat} {cs : List Value} {t : TypeId}, Blk W q cs t → t ≠ 93 → ∀ i, some bg = some i → i ≠ q := by
    intro q cs t Bq ht i e
    obtain rfl := Option.some.inj e
    rintro rfl
    exact ht (blkType Bq B0)
  have G2 := C.rows.grown grow (ne C.rows (by decide))
  have O2 := C.out.grown grow (ne C.out (by decide))
  have b1 : Below base W w2 := (Below.refl base W).grown grow C.base (fun i e => by obtain rfl := Option.some.inj e; exact lo)
  have grow2 : w2.grownBy (w2.setCell ⟨g, i * 2, none⟩ (.slice (some ⟨bg, 0, none⟩) kept.length n)) (some g) := grownSet (grownRefl w2 (some g)) _ _
  have neg : ∀ {q : Nat} {cs : List Value} {t : TypeId}, Blk w2 q cs t → t ≠ 47 → ∀ i, some g = some i → i ≠ q := by
    intro q cs t Bq ht i e
    obtain rfl := Option.some.inj e
    rintro rfl
    exact ht (blkType Bq G2)
  have B2 := G2.set (i * 2) (.slice (some ⟨bg, 0, none⟩) kept.length n)
  rw [setFirst r ⟨kept, some ⟨bg, 0, none⟩, n, r.hd, r.ha, r.hc⟩ _ _ rfl _ rfl Lr.two rs i hr] at B2
  refine ⟨⟨O2.grown grow2 (neg O2 (by decide)), B2, C.lo, fun j q hq => ?_, ?_⟩, b1.setCell C.lo _⟩
  · rw [List.getElem?_set] at hq
    split at hq
    · rename_i e
      subst e
      split at hq
      · obtain rfl := Option.some.inj hq
        refine ⟨⟨⟨bg, tail, rfl, lo, B.grown grow2 (neg B (by decide)), hl.symm⟩, ?_, fun x hx => ((oR.good x (hk x hx)).wrote grow B0 (by decide)).wrote grow2 G2 (by decide)⟩, by rw [hn, ← oR.bc]; exact hbc, hhd, fun h => by omega⟩
        obtain ⟨hh, eh, oh⟩ := oR.hd
        have oh2 := oh.kept grow (.inr (fun e => oR.notH B0 (by decide) (by rw [eh]; have : hh = bg := Option.some.inj e; rw [this])))
        obtain ⟨cur, Bh, _⟩ := ownBlk oh2
        exact ⟨hh, eh, oh2.kept grow2 (.inr (fun e => neg Bh (by decide) hh (by rw [show hh = g from Option.some.inj e]) rfl))⟩
      · cases hq
    · rename_i hne
      obtain ⟨t1, t2, t3, t4⟩ := C.each j q hq
      have hba : q.ba ≠ some ⟨bg, 0, none⟩ := by rw [← hb]; exact (C.ap j i q r (fun e => hne e.symm) hq hr).1
      have t1' := t1.wrote grow B0 (by decide) hba (t1.notH B0 (by decide))
      refine ⟨t1'.wrote grow2 G2 (by decide) (t1'.notB G2 (by decide)) (t1'.notH G2 (by decide)), t2, t3, fun hi => ?_⟩
      have o1 := t4 (by omega)
      have o2 := o1.wrote grow B0 (by decide) hba (o1.notH B0 (by decide))
      exact o2.wrote grow2 G2 (by decide) (o2.notB G2 (by decide)) (o2.notH G2 (by decide))
  · refine C.ap.set i _ (fun j q hj hq => ?_)
    obtain ⟨h1, h2⟩ := C.ap j i q r hj hq hr
    exact ⟨by rw [← hb]; exact h1, h2⟩

end Go.Proofs.YtcjdpilmhlfmfaaGreatDoor

/-
  copy between slices of points (two cells an element), the target a row that the call itself made; and what two copies, one behind the other, leave of such a row.
-/
namespace Go.Proofs.YtcjdpilmhlfmfaaGreatDoor
open Go.RowKit

theorem run_copy_two {P : Program} (w : World) (dT sT ty elem : TypeId) (g o dLen dCap : Nat) (a : Addr) (sLen sCap : Nat) (cur : List Value) (t : TypeId) (cs : List Value)
    (hu : P.underlying dT = some (.slice elem)) (hs : (P.info? elem).map (·.size) = some 2)
    (hg : w.heap[g]? = some (.cells cur.toArray t (0, 0))) (hn : cs.length = Nat.min sLen dLen * 2)
    (hsrc : ∀ j v, cs[j]? = some v → w.cell? (a.add j) = some v) (hfit : o + cs.length ≤ cur.length) (h1 : ∀ v ∈ cs, v.oneCell' = true) :
    (Builtin.copy_ #[dT, sT] ty #[.slice (some ⟨g, o, none⟩) dLen dCap, .slice (some a) sLen sCap]).run P w =
      .ok (goInt (Nat.min sLen dLen)) (w.setRow g (splice cur o cs).toArray) := by
  have hl := run_loadCells_list (P := P) w a cs hsrc
  have hst := run_storeCells_at P g o t cs 0 cur.toArray w hg (by simpa using hfit) h1
  cases hq : P.info? elem with
  | none => simp [hq] at hs
  | some i =>
    have hi : i.size = 2 := by simpa [hq] using hs
    simp [Builtin.copy_, run_underlying hu, Builtin.lenOf, Builtin.firstCells, sizeOf, typeInfo, hq, hi, ← hn, hl, hst, splice]

theorem wpList_copy_two {P : Program} {w : World} {ops : Array Oper} {rest : List Oper} {o : Oper} {a : Act} {Q : Exit → Act → World → Prop} (hgd : o.guard = none) (d s : Operand) (dT sT : TypeId)
    (ho : o.op = .call { callee := .builtin .copy, args := #[d, s], argTypes := #[dT, sT] }) (elem : TypeId) (hu : P.underlying dT = some (.slice elem)) (hsz : (P.info? elem).map (·.size) = some 2)
    (g off dLen dCap : Nat) (ad : Addr) (sLen sCap : Nat) (hd : a.eval d = .slice (some ⟨g, off, none⟩) dLen dCap) (hs : a.eval s = .slice (some ad) sLen sCap)
    (cur : List Value) (t : TypeId) (hg : Blk w g cur t) (l : List Pt) (hn : l.length = Nat.min sLen dLen)
    (hsrc : ∀ j v, (cellsP l)[j]? = some v → w.cell? (ad.add j) = some v) (hfit : off + l.length * 2 ≤ cur.length) (B : Nat) (w0 : World) (hb : Below B w0 w) (hBg : B ≤ g)
    (h : ∀ w', Blk w' g (splice cur off (cellsP l)) t → Below B w0 w' → w.grownBy w' (some g) → wpList P ops Q rest (a.put o.dst (goInt l.length)) w') : wpList P ops Q (o :: rest) a w := by
  refine wpList_plain hgd fun K hK => ?_
  have hrun := run_copy_two (P := P) w dT sT o.type elem g off dLen dCap ad sLen sCap cur t (cellsP l) hu hsz hg (by rw [cellsP_length, hn]) hsrc (by rw [cellsP_length]; exact hfit) (cellsP_one l)
  rw [← hn] at hrun
  unfold Oper.wp
  simp [execOp, ho, resolve, invoke, builtin, hd, hs, hrun, Result.andThen]
  refine hK _ _ (h _ (setRow_heap w g _ _ t _ hg) (below_setRow hb hBg _) ?_)
  have b0 : Below 0 w (w.setRow g (splice cur off (cellsP l)).toArray) := below_setRow (Below.refl 0 w) (Nat.zero_le _) _
  refine ⟨b0.os, b0.tape, b0.output, b0.size, fun k hk hne => ?_⟩
  have b1 : Below g w (w.setRow g (splice cur off (cellsP l)).toArray) := below_setRow (Below.refl g w) (Nat.le_refl _) _
  unfold World.setRow
  simp only [Array.getElem?_modify]
  rw [if_neg (by intro e; exact hne (by rw [e]))]

/-- Two copies that fill a row. -/
theorem splice2 {α : Type} (Z X Y : List α) (k : Nat) (hk : X.length = k) (hZ : Z.length = k + Y.length) : splice (splice Z 0 X) k Y = X ++ Y := by
  subst hk
  have e1 : splice Z 0 X = X ++ Z.drop X.length := by simp [splice]
  rw [e1]
  unfold splice
  rw [List.take_left' rfl, List.drop_eq_nil_of_le (by simp; omega), List.append_nil]

/-- What make has laid of points, as a block. -/
theorem madePts {w' : World} {g n : Nat} {cs : List Value} {t : TypeId} (h : w'.ownsRow g t 2 (.slice (some ⟨g, 0, none⟩) n n) n cs) : ∃ L : List Value, L.length = n * 2 ∧ Blk w' g L t := by
  rcases h.2 with ⟨h', _⟩ | ⟨g', cap', cur, h', _, hg, _, _, hs, htake⟩
  · simp at h'
  · simp only [Value.slice.injEq, Option.some.injEq, Addr.mk.injEq, and_true, true_and] at h'
    obtain ⟨rfl, rfl⟩ := h'
    exact ⟨cur.toList, by simp [hs], by unfold Blk; simpa using hg⟩

theorem SlP.src {w : World} {ao : Option Addr} {cap : Nat} {l : List Pt} (h : SlP w ao cap l) : ∀ ad, ao = some ad → ∀ j u, (cellsP l)[j]? = some u → w.cell? (ad.add j) = some u := by
  intro ad had j u hu
  obtain ⟨b, off, e, _, hc⟩ := h.row.at (by intro e; rw [e] at hu; simp at hu)
  rw [e] at had
  obtain rfl := Option.some.inj had
  rw [Addr.add_lit]
  exact hc j u hu

theorem SlP.ofBlk {w : World} {g : Nat} {l : List Pt} {t : TypeId} (h : Blk w g (cellsP l) t) (n : Nat) (hn : l.length = n) (hm : n ≤ 9223372036854775807) : SlP w (some ⟨g, 0, none⟩) n l :=
  ⟨h.row 0 (cellsP l) (fun i v hv => by rw [Nat.zero_add]; exact hv), by omega, hm, fun e => by cases e⟩

end Go.Proofs.YtcjdpilmhlfmfaaGreatDoor

/-
  block.Merge: what it answers, whatever it is handed; nothing that was there is written.
-/
namespace Go.Proofs.YtcjdpilmhlfmfaaGreatDoor
open Go.RowKit

set_option maxHeartbeats 400000 in
set_option maxRecDepth 100000 in
theorem merge_no1 (a b : Bk) (ao bo : Option Addr) (ca cb : Nat) (w : World) (ha : Sl w ao ca (a.bits.map Value.bool)) (la : a.bits.length ≤ 140737488355328) (h : ¬ ptsE a = 0) :
    Calls Tryz.prog 154 #[bkV a ao ca, bkV b bo cb] w fun e w' => e = .returned (.tuple #[.agg #[.int .i64 0, .int .i64 0, .int .i64 0, .slice none 0 0], .int .i64 (ptsE a)]) ∧ Below w.heap.size w w' := by
  have c1 := fun W h => bpoints_any a ao ca W h la
  generalize ptsE a = E at *
  generalize ptsL a = P at *
  obtain ⟨an, af, aT, X⟩ := a
  obtain ⟨bn, bf, bT, Y⟩ := b
  unfold bkV at *
  simp only at *
  have h3 := three w [.int .i64 an, .int .i64 af, .int .i64 aT, .slice ao X.length ca] [.int .i64 bn, .int .i64 bf, .int .i64 bT, .slice bo Y.length cb] [.int .i64 0, .int .i64 0, .int .i64 0, .slice none 0 0] 93
  have sa := fun o1 o2 o3 => ((ha.alloc o1).alloc o2).alloc o3
  clear la ha
  go_enter Tryz.func154, Tryz.ntmps154
  go_wp2_with fail
  go_at_call 121
  refine (c1 _ (sa _ _ _)).mono ?_
  rintro e w1 ⟨a1, G1, rfl, s1, b1⟩
  obtain ⟨_, BR, bel⟩ := h3
  have BR := BR.keep b1 BR.lt
  have bel := belowCall bel b1
  clear c1 b1 sa
  have f0 := BR.free 0
  have f1 := BR.free 1
  have f2 := BR.free 2
  have f3 := BR.free 3
  have d0 : w1.cell? ⟨w.heap.size + 2, 0, none⟩ = some (.int .i64 0) := BR.cell 0
  have d1 : w1.cell? ⟨w.heap.size + 2, 1, none⟩ = some (.int .i64 0) := BR.cell 1
  have d2 : w1.cell? ⟨w.heap.size + 2, 2, none⟩ = some (.int .i64 0) := BR.cell 2
  have d3 : w1.cell? ⟨w.heap.size + 2, 3, none⟩ = some (.slice none 0 0) := BR.cell 3
  have hgl := BR.lt
  go_wp2_with fail
  have B4 := BR.put4 (.int .i64 0) (.int .i64 0) (.int .i64 0) (.slice none 0 0)
  have bel4 := below4 bel (g := w.heap.size + 2) (by omega) (.int .i64 0) (.int .i64 0) (.int .i64 0) (.slice none 0 0)
  generalize World.setCell _ _ _ = w5 at *
  have i0 : w5.cell? ⟨w.heap.size + 2, 0, none⟩ = some (.int .i64 0) := B4.cell 0
  have i1 : w5.cell? ⟨w.heap.size + 2, 1, none⟩ = some (.int .i64 0) := B4.cell 1
  have i2 : w5.cell? ⟨w.heap.size + 2, 2, none⟩ = some (.int .i64 0) := B4.cell 2
  have i3 : w5.cell? ⟨w.heap.size + 2, 3, none⟩ = some (.slice none 0 0) := B4.cell 3
  exact bodyPost_ret (v := .tuple #[.agg #[.int .i64 0, .int .i64 0, .int .i64 0, .slice none 0 0], .int .i64 E]) (by simp [results, Tryz.results154, go_sem, i0, i1, i2, i3]) rfl ⟨rfl, bel4⟩

set_option maxHeartbeats 400000 in
set_option maxRecDepth 100000 in
theorem merge_no2 (a b : Bk) (ao bo : Option Addr) (ca cb : Nat) (w : World) (ha : Sl w ao ca (a.bits.map Value.bool)) (hb : Sl w bo cb (b.bits.map Value.bool)) (la : a.bits.length ≤ 140737488355328) (lb : b.bits.length ≤ 140737488355328) (h0 : ptsE a = 0) (h : ¬ ptsE b = 0) :
    Calls Tryz.prog 154 #[bkV a ao ca, bkV b bo cb] w fun e w' => e = .returned (.tuple #[.agg #[.int .i64 0, .int .i64 0, .int .i64 0, .slice none 0 0], .int .i64 (ptsE b)]) ∧ Below w.heap.size w w' := by
  have c1 := fun W h => bpoints_any a ao ca W h la
  have c2 := fun W h => bpoints_any b bo cb W h lb
  rw [h0] at c1
  generalize ptsE b = E at *
  generalize ptsL a = P at *
  generalize ptsL b = Q at *
  clear h0
  obtain ⟨an, af, aT, X⟩ := a
  obtain ⟨bn, bf, bT, Y⟩ := b
  unfold bkV at *
  simp only at *
  have h3 := three w [.int .i64 an, .int .i64 af, .int .i64 aT, .slice ao X.length ca] [.int .i64 bn, .int .i64 bf, .int .i64 bT, .slice bo Y.length cb] [.int .i64 0, .int .i64 0, .int .i64 0, .slice none 0 0] 93
  have sa := fun o1 o2 o3 => ((ha.alloc o1).alloc o2).alloc o3
  clear la lb ha
  go_enter Tryz.func154, Tryz.ntmps154
  go_wp2_with fail
  go_at_call 121
  refine (c1 _ (sa _ _ _)).mono ?_
  rintro e w1 ⟨a1, G1, rfl, s1, b1⟩
  obtain ⟨BB, BR, bel⟩ := h3
  have BB := BB.keep b1 BB.lt
  have BR := BR.keep b1 BR.lt
  have bel := belowCall bel b1
  have hb := hb.keep bel (Nat.le_refl _)
  clear c1 b1 sa
  have m0 : w1.cell? ⟨w.heap.size + 1, 0, none⟩ = some (.int .i64 bn) := BB.cell 0
  have m1 : w1.cell? ⟨w.heap.size + 1, 1, none⟩ = some (.int .i64 bf) := BB.cell 1
  have m2 : w1.cell? ⟨w.heap.size + 1, 2, none⟩ = some (.int .i64 bT) := BB.cell 2
  have m3 : w1.cell? ⟨w.heap.size + 1, 3, none⟩ = some (.slice bo Y.length cb) := BB.cell 3
  go_wp2_with fail
  go_at_call 121
  refine (c2 _ hb).mono ?_
  rintro e w2 ⟨a2, G2, rfl, s2, b2⟩
  have BR := BR.keep b2 BR.lt
  have bel := belowCall bel b2
  clear c2 b2 m0 m1 m2 m3 BB hb s1 s2
  have f0 := BR.free 0
  have f1 := BR.free 1
  have f2 := BR.free 2
  have f3 := BR.free 3
  have d0 : w2.cell? ⟨w.heap.size + 2, 0, none⟩ = some (.int .i64 0) := BR.cell 0
  have d1 : w2.cell? ⟨w.heap.size + 2, 1, none⟩ = some (.int .i64 0) := BR.cell 1
  have d2 : w2.cell? ⟨w.heap.size + 2, 2, none⟩ = some (.int .i64 0) := BR.cell 2
  have d3 : w2.cell? ⟨w.heap.size + 2, 3, none⟩ = some (.slice none 0 0) := BR.cell 3
  have hgl := BR.lt
  go_wp2_with fail
  have B4 := BR.put4 (.int .i64 0) (.int .i64 0) (.int .i64 0) (.slice none 0 0)
  have bel4 := below4 bel (g := w.heap.size + 2) (by omega) (.int .i64 0) (.int .i64 0) (.int .i64 0) (.slice none 0 0)
  generalize World.setCell _ _ _ = w5 at *
  have i0 : w5.cell? ⟨w.heap.size + 2, 0, none⟩ = some (.int .i64 0) := B4.cell 0
  have i1 : w5.cell? ⟨w.heap.size + 2, 1, none⟩ = some (.int .i64 0) := B4.cell 1
  have i2 : w5.cell? ⟨w.heap.size + 2, 2, none⟩ = some (.int .i64 0) := B4.cell 2
  have i3 : w5.cell? ⟨w.heap.size + 2, 3, none⟩ = some (.slice none 0 0) := B4.cell 3
  exact bodyPost_ret (v := .tuple #[.agg #[.int .i64 0, .int .i64 0, .int .i64 0, .slice none 0 0], .int .i64 E]) (by simp [results, Tryz.results154, go_sem, i0, i1, i2, i3]) rfl ⟨rfl, bel4⟩

set_option maxHeartbeats 400000 in
set_option maxRecDepth 100000 in
theorem merge_ok (a b : Bk) (ao bo : Option Addr) (ca cb : Nat) (w : World) (ha : Sl w ao ca (a.bits.map Value.bool)) (hb : Sl w bo cb (b.bits.map Value.bool)) (la : a.bits.length ≤ 140737488355328) (lb : b.bits.length ≤ 140737488355328) (h0 : ptsE a = 0) (h1 : ptsE b = 0) :
    Calls Tryz.prog 154 #[bkV a ao ca, bkV b bo cb] w fun e w' =>
      ∃ a' G, e = .returned (.tuple #[bkV (makeB (ptsL a ++ ptsL b)) a' G, .int .i64 (makeE (ptsL a ++ ptsL b))]) ∧ Sl w' a' G ((makeB (ptsL a ++ ptsL b)).bits.map Value.bool) ∧ Below w.heap.size w w' := by
  have c1 := fun W h => bpoints_any a ao ca W h la
  have c2 := fun W h => bpoints_any b bo cb W h lb
  rw [h0] at c1
  rw [h1] at c2
  have p1 := ptsL_pos h0
  have p2 := ptsL_pos h1
  have q1 := ptsL_length a
  have q2 := ptsL_length b
  generalize ptsL a = P at *
  generalize ptsL b = Q at *
  have c3 := fun G cap W h => make_any (some ⟨G, 0, none⟩) cap (P ++ Q) W h
  clear h0 h1
  generalize makeE (P ++ Q) = E at *
  generalize makeB (P ++ Q) = M at *
  obtain ⟨an, af, aT, X⟩ := a
  obtain ⟨bn, bf, bT, Y⟩ := b
  obtain ⟨mn, mf, mT, Z⟩ := M
  unfold bkV at *
  simp only at *
  have hP : P ≠ [] := by intro e; rw [e] at p1; simp at p1
  have hQ : Q ≠ [] := by intro e; rw [e] at p2; simp at p2
  obtain ⟨n, hn⟩ : ∃ n, n = P.length := ⟨_, rfl⟩
  obtain ⟨m, hm⟩ : ∃ m, m = Q.length := ⟨_, rfl⟩
  have hnm : (P ++ Q).length = n + m := by rw [List.length_append, hn, hm]
  rw [hnm] at c3
  rw [← hn] at c1 p1 q1
  rw [← hm] at c2 p2 q2
  replace hn := hide hn
  replace hm := hide hm
  replace hnm := hide hnm
  obtain ⟨i0, hi, hz0, hz1, hz2⟩ := info_parts infoPt
  have h3 := three w [.int .i64 an, .int .i64 af, .int .i64 aT, .slice ao X.length ca] [.int .i64 bn, .int .i64 bf, .int .i64 bT, .slice bo Y.length cb] [.int .i64 0, .int .i64 0, .int .i64 0, .slice none 0 0] 93
  have sa := fun o1 o2 o3 => ((ha.alloc o1).alloc o2).alloc o3
  clear la lb ha
  go_enter Tryz.func154, Tryz.ntmps154
  go_wp2_with fail
  go_at_call 121
  refine (c1 _ (sa _ _ _)).mono ?_
  rintro e w1 ⟨a1, G1, rfl, s1, b1⟩
  obtain ⟨BB, BR, bel⟩ := h3
  have BB := BB.keep b1 BB.lt
  have BR := BR.keep b1 BR.lt
  have bel := belowCall bel b1
  have hb := hb.keep bel (Nat.le_refl _)
  clear c1 b1 sa
  have m0 : w1.cell? ⟨w.heap.size + 1, 0, none⟩ = some (.int .i64 bn) := BB.cell 0
  have m1 : w1.cell? ⟨w.heap.size + 1, 1, none⟩ = some (.int .i64 bf) := BB.cell 1
  have m2 : w1.cell? ⟨w.heap.size + 1, 2, none⟩ = some (.int .i64 bT) := BB.cell 2
  have m3 : w1.cell? ⟨w.heap.size + 1, 3, none⟩ = some (.slice bo Y.length cb) := BB.cell 3
  go_wp2_with fail
  go_at_call 121
  refine (c2 _ hb).mono ?_
  rintro e w2 ⟨a2, G2, rfl, s2, b2⟩
  have BR := BR.keep b2 BR.lt
  have bel := belowCall bel b2
  have s1 := s1.call b2
  clear c2 b2 m0 m1 m2 m3 BB hb
  obtain ⟨xb, xo, rfl, hxb⟩ := s1.where hP
  obtain ⟨yb, yo, rfl, hyb⟩ := s2.where hQ
  go_wp2_with (at_make; refine wpList_make_full _ rfl (.tmp 32) (.tmp 32) 34 rfl w2.heap.size 50 i0 (.agg #[.int .i64 0, .int .i64 0]) 2 Tryz.underlying34 hi hz0 hz1 _ _ _ _ (n + m) rfl rfl (by go_num) (by go_num) (by rw [hz2]; omega) (by unfold maxLen; omega) (Nat.le_refl _) ?_)
  intro w3 own hgrow
  obtain ⟨L, hL, B0⟩ := madePts own
  have bel3 : Below w2.heap.size w2 w3 := (Below.refl _ _).grown hgrow (Nat.le_refl _) (fun k h => by cases h)
  have hrl := BR.lt
  clear own hgrow
  have t1 := s1.call bel3
  have e1 : P.length = Nat.min n (n + m) := by rw [← hn.out]; exact (Nat.min_eq_left (by omega)).symm
  have e2 : Q.length = Nat.min m m := by rw [← hm.out]; exact (Nat.min_self m).symm
  have f1 : 0 + P.length * 2 ≤ L.length := by rw [hL, ← hn.out]; omega
  have f2 : n * 2 + Q.length * 2 ≤ (splice L 0 (cellsP P)).length := by rw [length_splice _ _ _ (by rw [cellsP_length]; exact f1), hL, ← hm.out]; omega
  replace e1 := hide e1
  replace e2 := hide e2
  replace f1 := hide f1
  replace f2 := hide f2
  replace hL := hide hL
  generalize hg : w2.heap.size = g at *
  have hgl : w2.heap.size ≤ g := Nat.le_of_eq hg
  clear hg
  go_wp2_with (refine wpList_copy_two rfl (.tmp 34) (.tmp 35) 34 34 rfl 50 Tryz.underlying34 sizePt g 0 _ _ _ _ _ rfl rfl L 50 B0 P e1.out (t1.src _ rfl) f1.out g w2 bel3 (Nat.le_refl _) ?_)
  intro w4 B1 bel4 _
  clear bel3 B0
  go_wp2_with (refine wpList_copy_two rfl (.tmp 40) (.tmp 41) 34 34 rfl 50 Tryz.underlying34 sizePt g (n * 2) _ _ _ _ _ rfl rfl (splice L 0 (cellsP P)) 50 B1 Q e2.out ((s2.keep bel4 hgl).src _ rfl) f2.out g w2 bel4 (Nat.le_refl _) ?_)
  intro w5 B2 bel5 _
  clear bel4 B1 t1
  rw [splice2 L (cellsP P) (cellsP Q) (n * 2) (by rw [cellsP_length, ← hn.out]) (by rw [hL.out, cellsP_length, ← hm.out]; omega), ← cellsP_append] at B2
  have s5 := SlP.ofBlk B2 (n + m) hnm.out (by omega)
  have BR5 := BR.keep bel5 hrl
  have belA := bel.trans (bel5.mono (by omega))
  clear B2 bel5 bel BR s1 s2 e1 e2 f1 f2 hL hn hm
  go_wp2_with fail
  go_at_call 152
  refine (c3 _ _ _ s5).mono ?_
  rintro e w6 ⟨a6, G6, rfl, t6, b6⟩
  have BR6 := BR5.keep b6 BR5.lt
  have bel6 := belowCall belA b6
  clear c3 b6 BR5 belA s5
  have f0 := BR6.free 0
  have f1 := BR6.free 1
  have f2 := BR6.free 2
  have f3 := BR6.free 3
  have d0 : w6.cell? ⟨w.heap.size + 2, 0, none⟩ = some (.int .i64 0) := BR6.cell 0
  have d1 : w6.cell? ⟨w.heap.size + 2, 1, none⟩ = some (.int .i64 0) := BR6.cell 1
  have d2 : w6.cell? ⟨w.heap.size + 2, 2, none⟩ = some (.int .i64 0) := BR6.cell 2
  have d3 : w6.cell? ⟨w.heap.size + 2, 3, none⟩ = some (.slice none 0 0) := BR6.cell 3
  have hgl6 := BR6.lt
  go_wp2_with fail
  have B4 := BR6.put4 (.int .i64 mn) (.int .i64 mf) (.int .i64 mT) (.slice a6 Z.length G6)
  have bel4 := below4 bel6 (g := w.heap.size + 2) (by omega) (.int .i64 mn) (.int .i64 mf) (.int .i64 mT) (.slice a6 Z.length G6)
  have t4 := t6.put4 BR6 (.int .i64 mn) (.int .i64 mf) (.int .i64 mT) (.slice a6 Z.length G6)
  generalize World.setCell _ _ _ = w7 at *
  have i0 : w7.cell? ⟨w.heap.size + 2, 0, none⟩ = some (.int .i64 mn) := B4.cell 0
  have i1 : w7.cell? ⟨w.heap.size + 2, 1, none⟩ = some (.int .i64 mf) := B4.cell 1
  have i2 : w7.cell? ⟨w.heap.size + 2, 2, none⟩ = some (.int .i64 mT) := B4.cell 2
  have i3 : w7.cell? ⟨w.heap.size + 2, 3, none⟩ = some (.slice a6 Z.length G6) := B4.cell 3
  exact bodyPost_ret (v := .tuple #[.agg #[.int .i64 mn, .int .i64 mf, .int .i64 mT, .slice a6 Z.length G6], .int .i64 E]) (by simp [results, Tryz.results154, go_sem, i0, i1, i2, i3]) rfl ⟨a6, G6, rfl, t4, bel4⟩

/-- Merge, whatever it is handed. -/
theorem merge_any (a b : Bk) (ao bo : Option Addr) (ca cb : Nat) (w : World) (ha : Sl w ao ca (a.bits.map Value.bool)) (hb : Sl w bo cb (b.bits.map Value.bool)) (la : a.bits.length ≤ 140737488355328) (lb : b.bits.length ≤ 140737488355328) :
    Calls Tryz.prog 154 #[bkV a ao ca, bkV b bo cb] w fun e w' =>
      ∃ a' G, e = .returned (.tuple #[bkV (mergeB a b) a' G, .int .i64 (mergeE a b)]) ∧ Sl w' a' G ((mergeB a b).bits.map Value.bool) ∧ Below w.heap.size w w' := by
  by_cases h0 : ptsE a = 0
  · by_cases h1 : ptsE b = 0
    · have hB : mergeB a b = makeB (ptsL a ++ ptsL b) := if_pos ⟨h0, h1⟩
      have hE : mergeE a b = makeE (ptsL a ++ ptsL b) := by unfold mergeE; rw [if_pos h0, if_pos h1]
      rw [hB, hE]
      exact merge_ok a b ao bo ca cb w ha hb la lb h0 h1
    · have hB : mergeB a b = bk0 := if_neg (fun h => h1 h.2)
      have hE : mergeE a b = ptsE b := by unfold mergeE; rw [if_pos h0, if_neg h1]
      rw [hB, hE]
      refine (merge_no2 a b ao bo ca cb w ha hb la lb h0 h1).mono ?_
      rintro e w' ⟨rfl, hb⟩
      exact ⟨none, 0, rfl, Sl.ofNil _, hb⟩
  · have hB : mergeB a b = bk0 := if_neg (fun h => h0 h.1)
    have hE : mergeE a b = ptsE a := by unfold mergeE; rw [if_neg h0]
    rw [hB, hE]
    refine (merge_no1 a b ao bo ca cb w ha la h0).mono ?_
    rintro e w' ⟨rfl, hb⟩
    exact ⟨none, 0, rfl, Sl.ofNil _, hb⟩

end Go.Proofs.YtcjdpilmhlfmfaaGreatDoor
