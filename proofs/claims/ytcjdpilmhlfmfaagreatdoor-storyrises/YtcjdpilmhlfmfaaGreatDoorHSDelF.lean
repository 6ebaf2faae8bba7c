/-
  slices.IndexFunc and slices.DeleteFunc of blocks by the function that shelf.Drop hands them, on blocks of the call's own.
-/
import Derived.Test.YtcjdpilmhlfmfaaGreatDoorP15
namespace Go.Proofs.YtcjdpilmhlfmfaaGreatDoor
open Go.RowKit

/-- A block that goes: it ends ahead of a time. -/
def overB (before : Int) (x : Lb) : Bool := decide (x.b.to < before)

set_option maxHeartbeats 400000 in
set_option maxRecDepth 100000 in
theorem isOver_any (x : Lb) (before : Int) (cb : Nat) (w : World) (B : Blk w cb [.int .i64 before] 3) :
    Calls Tryz.prog 157 #[.agg #[.int .i64 x.b.n, .int .i64 x.b.fr, .int .i64 x.b.to, .slice x.a x.b.bits.length x.c], .pointer (some ⟨cb, 0, none⟩)] w fun e w' => e = .returned (.bool (overB before x)) ∧ Below w.heap.size w w' := by
  have d0 : w.cell? ⟨cb, 0, none⟩ = some (.int .i64 before) := B.cell 0
  have lc := B.lt
  unfold overB
  go_enter Tryz.func157, Tryz.ntmps157
  go_wp2_with fail
  go_ret
  exact ⟨rfl, (Below.refl _ _).alloc (Nat.le_refl _) _⟩

set_option maxHeartbeats 1000000 in
set_option maxRecDepth 100000 in
theorem indexF (bl : List Lb) (before : Int) (bg cb n : Nat) (w : World) (B : Blk w bg (bl.flatMap Lb.cells) 93) (Bc : Blk w cb [.int .i64 before] 3) (hn : bl.length = n) (few : n ≤ 8) :
    Calls Tryz.prog 185 #[.slice (some ⟨bg, 0, none⟩) n n, .func (.func 157) #[] #[.pointer (some ⟨cb, 0, none⟩)]] w fun e w' =>
      Below w.heap.size w w' ∧ ((e = .returned (.int .i64 (-1)) ∧ ∀ x ∈ bl, overB before x = false) ∨ ∃ k x, e = .returned (.int .i64 (k : Nat)) ∧ bl[k]? = some x ∧ overB before x = true ∧ ∀ y ∈ bl.take k, overB before y = false) := by
  replace hn := hide hn
  have b0 := Below.refl w.heap.size w
  go_enter Tryz.func185, Tryz.ntmps185
  go_wp2_with fail
  go_loopw [8] (fun i wr => ∃ (k : Nat), k ≤ n ∧ i = .int .i64 k ∧ Hid (∀ y ∈ bl.take k, overB before y = false) ∧ Below w.heap.size w wr) (fun i _ => n - (intOf i).toNat)
  case atStart => exact ⟨0, by omega, rfl, hide (fun y hy => by simp at hy), b0⟩
  case round =>
    clear b0
    obtain ⟨k, hk, rfl, H, bel⟩ := hrel
    by_cases hlt : k < n
    · obtain ⟨x, hx⟩ : ∃ x, bl[k]? = some x := ⟨_, List.getElem?_eq_getElem (by rw [hn.out]; exact hlt)⟩
      have B1 := B.keep bel B.lt
      have Bc1 := Bc.keep bel Bc.lt
      have e0 : wr.cell? ⟨bg, k * 4, none⟩ = some (.int .i64 x.b.n) := by rw [B1.cell]; exact flat_get Lb.four _ k 0 _ hx (by decide)
      have e1 : wr.cell? ⟨bg, k * 4 + 1, none⟩ = some (.int .i64 x.b.fr) := by rw [B1.cell]; exact flat_get Lb.four _ k 1 _ hx (by decide)
      have e2 : wr.cell? ⟨bg, k * 4 + 2, none⟩ = some (.int .i64 x.b.to) := by rw [B1.cell]; exact flat_get Lb.four _ k 2 _ hx (by decide)
      have e3 : wr.cell? ⟨bg, k * 4 + 3, none⟩ = some (.slice x.a x.b.bits.length x.c) := by rw [B1.cell]; exact flat_get Lb.four _ k 3 _ hx (by decide)
      have c := fun W h => isOver_any x before cb W h
      have hk8 : k < 8 := by omega
      replace hx := hide hx
      clear B1
      cases hp : overB before x with
      | true =>
        rw [hp] at c
        replace hp := hide hp
        go_wp2_with fail
        go_at_call 157
        refine (c _ Bc1).mono ?_
        rintro e w2 ⟨rfl, b2⟩
        have bel2 := belowCall bel b2
        go_wp2_with fail
        go_ret
        exact ⟨bel2, .inr ⟨k, x, rfl, hx.out, hp.out, H.out⟩⟩
      | false =>
        rw [hp] at c
        have H2 : ∀ y ∈ bl.take (k + 1), overB before y = false := by
          intro y hy
          rw [List.take_add_one, hx.out] at hy
          rcases List.mem_append.1 hy with hy | hy
          · exact H.out y hy
          · simp at hy
            rw [hy]
            exact hp
        replace H2 := hide H2
        clear hp
        go_wp2_with fail
        go_at_call 157
        refine (c _ Bc1).mono ?_
        rintro e w2 ⟨rfl, b2⟩
        have bel2 := belowCall bel b2
        go_wp2_with fail
        go_roundw
        case rel => exact ⟨k + 1, by omega, by go_num, H2, bel2⟩
        case measure => simp [intOf]; omega
    · obtain rfl : k = n := by omega
      have H' := H.out
      rw [List.take_of_length_le (by rw [hn.out]; exact Nat.le_refl _)] at H'
      replace H' := hide H'
      go_wp2_with fail
      go_ret
      exact ⟨bel, .inl ⟨rfl, H'.out⟩⟩

def keptB (before : Int) (l : List Lb) : List Lb := l.filter (fun x => !overB before x)

theorem keptB_all {before : Int} : ∀ {l : List Lb}, (∀ x ∈ l, overB before x = false) → keptB before l = l
  | [], _ => rfl
  | x :: r, h => by
    unfold keptB
    rw [List.filter_cons, h x (List.mem_cons_self ..)]
    have := keptB_all (l := r) (fun y hy => h y (List.mem_cons_of_mem _ hy))
    unfold keptB at this
    rw [this]
    rfl

theorem keptB_snoc (before : Int) (l : List Lb) (j : Nat) (x : Lb) (hx : l[j]? = some x) : keptB before (l.take (j + 1)) = if overB before x = true then keptB before (l.take j) else keptB before (l.take j) ++ [x] := by
  unfold keptB
  rw [List.take_add_one, hx, List.filter_append]
  cases h : overB before x with
  | true => simp [h]
  | false => simp [h]

theorem mid_set {α : Type} (K mid D : List α) (y x : α) (i : Nat) (hi : i = K.length) : (K ++ (y :: mid) ++ (x :: D)).set i x = (K ++ [x]) ++ (mid ++ [x]) ++ D := by
  subst hi
  rw [List.append_assoc, List.set_append_right _ _ (Nat.le_refl _), Nat.sub_self]
  simp

theorem grownTrans {a b c : World} {row : Option Nat} (h : a.grownBy b row) (k : b.grownBy c row) : a.grownBy c row :=
  ⟨k.os.trans h.os, k.tape.trans h.tape, k.output.trans h.output, Nat.le_trans h.size k.size, fun j hj hne => (k.block j (Nat.lt_of_lt_of_le hj h.size) hne).trans (h.block j hj hne)⟩

theorem grownBelow {a b : World} {row : Option Nat} (h : Below a.heap.size a b) : a.grownBy b row := ⟨h.os, h.tape, h.output, h.size, fun k hk _ => h.block k hk⟩

set_option maxHeartbeats 2000000 in
set_option maxRecDepth 100000 in
theorem deleteF (bl : List Lb) (before : Int) (bg cb n : Nat) (w : World) (B : Blk w bg (bl.flatMap Lb.cells) 93) (Bc : Blk w cb [.int .i64 before] 3) (hn : bl.length = n) (few : n ≤ 8) :
    Calls Tryz.prog 158 #[.slice (some ⟨bg, 0, none⟩) n n, .func (.func 157) #[] #[.pointer (some ⟨cb, 0, none⟩)]] w fun e w' =>
      ∃ tail : List Lb, e = .returned (.slice (some ⟨bg, 0, none⟩) (keptB before bl).length n) ∧ (keptB before bl ++ tail).length = n ∧ Blk w' bg ((keptB before bl ++ tail).flatMap Lb.cells) 93 ∧ w.grownBy w' (some bg) := by
  have c1 := fun W h k => indexF bl before bg cb n W h k hn few
  replace hn := hide hn
  go_enter Tryz.func158, Tryz.ntmps158
  go_wp2_with fail
  go_at_call 185
  refine (c1 _ B Bc).mono ?_
  rintro e w1 ⟨b1, ⟨rfl, hall⟩ | ⟨k0, x0, rfl, hx0, hp0, hall⟩⟩
  · have B1 := B.keep b1 B.lt
    have e1 : keptB before bl = bl := keptB_all hall
    have gr : w.grownBy w1 (some bg) := grownBelow b1
    replace e1 := hide e1
    replace hall := hide hall
    clear B Bc c1 b1
    go_wp2_with fail
    go_ret
    exact ⟨[], by rw [e1.out, hn.out]; rfl, by rw [e1.out, List.append_nil]; exact hn.out, by rw [e1.out, List.append_nil]; exact B1, gr⟩
  · have B1 := B.keep b1 B.lt
    have Bc1 := Bc.keep b1 Bc.lt
    have gr : w.grownBy w1 (some bg) := grownBelow b1
    have hk0 : k0 < n := by rw [← hn.out]; exact (List.getElem?_eq_some_iff.1 hx0).1
    have hne1 : ((k0 : Int) == -1) = false := beq_eq_false_iff_ne.2 (by omega)
    have hne2 : ¬ (k0 : Int) = -1 := by omega
    have K0 : keptB before (bl.take (k0 + 1)) = bl.take k0 := by
      rw [keptB_snoc before bl k0 x0 hx0, if_pos hp0]
      exact keptB_all hall
    have hd0 : bl.drop k0 = x0 :: bl.drop (k0 + 1) := by
      obtain ⟨hk', rfl⟩ := List.getElem?_eq_some_iff.1 hx0
      exact List.drop_eq_getElem_cons hk'
    have st : Blk w1 bg ((keptB before (bl.take (k0 + 1)) ++ [x0] ++ bl.drop (k0 + 1)).flatMap Lb.cells) 93 := by
      rw [K0, List.append_assoc, List.singleton_append, ← hd0, List.take_append_drop]
      exact B1
    have sl : Hid (k0 = (keptB before (bl.take (k0 + 1))).length) := hide (by rw [K0, List.length_take, hn.out]; omega)
    have hcb : bg ≠ cb := by
      rintro rfl
      exact absurd (blkType B Bc) (by decide)
    replace hx0 := hide hx0
    replace hp0 := hide hp0
    replace hall := hide hall
    replace K0 := hide K0
    replace hd0 := hide hd0
    clear B Bc c1 b1 B1
    go_wp2_with fail
    go_loopw [5, 6] (fun s5 s6 wr => ∃ (i j : Nat) (mid : List Lb), s5 = .int .i64 i ∧ s6 = .int .i64 j ∧ j ≤ n ∧ i < j ∧ Hid (i = (keptB before (bl.take j)).length) ∧ Hid (mid.length = j - i) ∧ Blk wr bg ((keptB before (bl.take j) ++ mid ++ bl.drop j).flatMap Lb.cells) 93 ∧ Blk wr cb [.int .i64 before] 3 ∧ w.grownBy wr (some bg)) (fun _ s6 _ => n - (intOf s6).toNat)
    case atStart => exact ⟨k0, k0 + 1, [x0], rfl, by go_num, by omega, by omega, sl, hide (by simp), st, Bc1, gr⟩
    case round =>
      clear st Bc1 gr sl
      obtain ⟨i, j, mid, rfl, rfl, hj, hij, hi, hm, B, Bc, gr⟩ := hrel
      by_cases hlt : j < n
      · obtain ⟨x, hx⟩ : ∃ x, bl[j]? = some x := ⟨_, List.getElem?_eq_getElem (by rw [hn.out]; exact hlt)⟩
        have hd : bl.drop j = x :: bl.drop (j + 1) := by
          obtain ⟨hk', rfl⟩ := List.getElem?_eq_some_iff.1 hx
          exact List.drop_eq_getElem_cons hk'
        have len : (keptB before (bl.take j) ++ mid).length = j := by rw [List.length_append, ← hi.out, hm.out]; omega
        have hxj : (keptB before (bl.take j) ++ mid ++ bl.drop j)[j]? = some x := by rw [List.getElem?_append_right (by omega), len, Nat.sub_self, hd]; rfl
        obtain ⟨y, mid', rfl⟩ : ∃ y mid', mid = y :: mid' := List.exists_cons_of_ne_nil (by intro e; have := hm.out; rw [e] at this; simp at this; omega)
        have hL : i < (keptB before (bl.take j) ++ (y :: mid') ++ bl.drop j).length := by rw [List.length_append, len]; omega
        have c0 : wr.cell? ⟨bg, j * 4, none⟩ = some (.int .i64 x.b.n) := by rw [B.cell]; exact flat_get Lb.four _ j 0 _ hxj (by decide)
        have c1 : wr.cell? ⟨bg, j * 4 + 1, none⟩ = some (.int .i64 x.b.fr) := by rw [B.cell]; exact flat_get Lb.four _ j 1 _ hxj (by decide)
        have c2 : wr.cell? ⟨bg, j * 4 + 2, none⟩ = some (.int .i64 x.b.to) := by rw [B.cell]; exact flat_get Lb.four _ j 2 _ hxj (by decide)
        have c3 : wr.cell? ⟨bg, j * 4 + 3, none⟩ = some (.slice x.a x.b.bits.length x.c) := by rw [B.cell]; exact flat_get Lb.four _ j 3 _ hxj (by decide)
        have cv := fun W h => isOver_any x before cb W h
        have sn := keptB_snoc before bl j x hx
        have hj8 : j < 8 := by omega
        have lb := B.lt
        have X := Blk.laid wr [.int .i64 x.b.n, .int .i64 x.b.fr, .int .i64 x.b.to, .slice x.a x.b.bits.length x.c] 93 _ rfl
        have BA := B.alc (.cells #[.int .i64 x.b.n, .int .i64 x.b.fr, .int .i64 x.b.to, .slice x.a x.b.bits.length x.c] 93)
        have BcA := Bc.alc (.cells #[.int .i64 x.b.n, .int .i64 x.b.fr, .int .i64 x.b.to, .slice x.a x.b.bits.length x.c] 93)
        have grA := grownTrans gr (grownBelow (row := some bg) ((Below.refl wr.heap.size wr).alloc (Nat.le_refl _) (.cells #[.int .i64 x.b.n, .int .i64 x.b.fr, .int .i64 x.b.to, .slice x.a x.b.bits.length x.c] 93)))
        replace hx := hide hx
        replace hd := hide hd
        replace len := hide len
        replace hxj := hide hxj
        replace hL := hide hL
        cases hp : overB before x with
        | true =>
          rw [if_pos hp] at sn
          rw [hp] at cv
          replace sn := hide sn
          clear hp
          go_wp2_with fail
          generalize wr.alloc _ = w2 at *
          go_at_call 157
          refine (cv _ BcA).mono ?_
          rintro e w3 ⟨rfl, b3⟩
          have B3 := BA.keep b3 BA.lt
          have Bc3 := BcA.keep b3 BcA.lt
          have gr3 := grownTrans grA (grownBelow (row := some bg) b3)
          clear B Bc gr BA BcA grA b3 c0 c1 c2 c3 X
          go_wp2_with fail
          go_roundw
          case rel => exact ⟨i, j + 1, y :: mid' ++ [x], rfl, by go_num, by omega, by omega, hide (by rw [sn.out]; exact hi.out), hide (by have := hm.out; simp only [List.length_append, List.length_cons, List.length_nil] at this ⊢; omega), by
              rw [sn.out]
              have e : keptB before (bl.take j) ++ (y :: mid' ++ [x]) ++ bl.drop (j + 1) = keptB before (bl.take j) ++ (y :: mid') ++ bl.drop j := by rw [hd.out]; simp
              rw [e]
              exact B3, Bc3, gr3⟩
          case measure => simp [intOf]; omega
        | false =>
          rw [if_neg (by rw [hp]; decide)] at sn
          rw [hp] at cv
          replace sn := hide sn
          clear hp
          go_wp2_with fail
          generalize hgx : wr.heap.size = gx at *
          generalize wr.alloc _ = w2 at *
          clear hgx
          go_at_call 157
          refine (cv _ BcA).mono ?_
          rintro e w3 ⟨rfl, b3⟩
          have B3 := BA.keep b3 BA.lt
          have Bc3 := BcA.keep b3 BcA.lt
          have X3 := X.keep b3 X.lt
          have gr3 := grownTrans grA (grownBelow (row := some bg) b3)
          have x0 : w3.cell? ⟨gx, 0, none⟩ = some (.int .i64 x.b.n) := X3.cell 0
          have x1 : w3.cell? ⟨gx, 1, none⟩ = some (.int .i64 x.b.fr) := X3.cell 1
          have x2 : w3.cell? ⟨gx, 2, none⟩ = some (.int .i64 x.b.to) := X3.cell 2
          have x3 : w3.cell? ⟨gx, 3, none⟩ = some (.slice x.a x.b.bits.length x.c) := X3.cell 3
          obtain ⟨z, hz⟩ : ∃ z, (keptB before (bl.take j) ++ (y :: mid') ++ bl.drop j)[i]? = some z := ⟨_, List.getElem?_eq_getElem hL.out⟩
          have d0 : w3.cell? ⟨bg, i * 4, none⟩ = some (.int .i64 z.b.n) := by rw [B3.cell]; exact flat_get Lb.four _ i 0 _ hz (by decide)
          have d1 : w3.cell? ⟨bg, i * 4 + 1, none⟩ = some (.int .i64 z.b.fr) := by rw [B3.cell]; exact flat_get Lb.four _ i 1 _ hz (by decide)
          have d2 : w3.cell? ⟨bg, i * 4 + 2, none⟩ = some (.int .i64 z.b.to) := by rw [B3.cell]; exact flat_get Lb.four _ i 2 _ hz (by decide)
          have d3 : w3.cell? ⟨bg, i * 4 + 3, none⟩ = some (.slice z.a z.b.bits.length z.c) := by rw [B3.cell]; exact flat_get Lb.four _ i 3 _ hz (by decide)
          have f0 := B3.free (i * 4)
          have f1 := B3.free (i * 4 + 1)
          have f2 := B3.free (i * 4 + 2)
          have f3 := B3.free (i * 4 + 3)
          obtain ⟨B4, gr4⟩ := B3.setB i hL.out x
          have Bc4 := Bc3.grown gr4 (fun q e => by obtain rfl := Option.some.inj e; exact hcb)
          have gr5 := grownTrans gr3 gr4
          have i8 : i < 8 := by omega
          have i9 : (i : Int) < n := by omega
          replace hz := hide hz
          clear B Bc gr BA BcA grA b3 c0 c1 c2 c3 X X3 gr3 gr4 B3 Bc3
          go_wp2_with fail
          go_roundw
          case rel => exact ⟨i + 1, j + 1, mid' ++ [x], by go_num, by go_num, by omega, by omega, hide (by rw [sn.out, List.length_append, ← hi.out]; rfl), hide (by have := hm.out; simp only [List.length_append, List.length_cons, List.length_nil] at this ⊢; omega), by
              rw [sn.out, ← mid_set (keptB before (bl.take j)) mid' (bl.drop (j + 1)) y x i hi.out, ← hd.out]
              exact B4, Bc4, gr5⟩
          case measure => simp [intOf]; omega
      · obtain rfl : j = n := by omega
        have e1 : bl.take j = bl := List.take_of_length_le (by rw [hn.out]; exact Nat.le_refl _)
        have e2 : bl.drop j = [] := List.drop_eq_nil_of_le (by rw [hn.out]; exact Nat.le_refl _)
        rw [e2, List.append_nil] at B
        rw [e1] at B hi
        have len : (keptB before bl ++ mid).length = j := by rw [List.length_append, ← hi.out, hm.out]; omega
        have hcl := fun ty => run_clear_blocks wr 45 93 ty _ Tryz.underlying45 zeroBlock rfl bg (i * 4) (j - i) (j - i) (by omega) _ _ B (by rw [flat_length Lb.four, len]; omega)
        obtain ⟨B6, gr6⟩ := Blk.setCells ((List.replicate (j - i) lb0).flatMap Lb.cells) (i * 4) B (by rw [flat_length Lb.four, flat_length Lb.four, len, List.length_replicate]; omega)
        have e3 : splice (keptB before bl ++ mid) i (List.replicate (j - i) lb0) = keptB before bl ++ List.replicate (j - i) lb0 := by
          unfold splice
          rw [List.take_left' hi.out.symm, List.drop_eq_nil_of_le (by rw [List.length_replicate, len]; omega), List.append_nil]
        rw [splice_flat, e3] at B6
        have gr7 := grownTrans gr gr6
        have ne1 : ¬ j = i := by omega
        have q1 : (i : Int) ≤ j := by omega
        replace e1 := hide e1
        replace e2 := hide e2
        replace e3 := hide e3
        replace len := hide len
        clear B Bc gr gr6
        go_wp2_with fail
        go_ret
        exact ⟨_, by rw [← hi.out]; rfl, by rw [List.length_append, ← hi.out, List.length_replicate]; omega, B6, gr7⟩

end Go.Proofs.YtcjdpilmhlfmfaaGreatDoor
