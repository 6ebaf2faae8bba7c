/-
  Proved: for any two shelves, any batch and any numbers, ShelfSays returns true and leaves its arguments as they were: All, Put, Seal, Merge, Drop, Check, Same and New of package shelf answer as the document says, errors too.
-/
import Derived.Test.YtgncadehaificaaRows
import Derived.Deep.RegionHeld3
import Derived.Test.YtgncadehaificaaHShelved
import Derived.Test.YtgncadehaificaaP38
import Derived.Test.YtgncadehaificaaP09
namespace Go.Proofs.Ytgncadehaificaa.shelfSays
open Go.ChangeShapes Go.WideShapes Go.ChangeAt Go.RowKit
set_option linter.unusedVariables false

/-- A shelf in a box. -/
structure BoxS (W : World) (g : Nat) (a : Option Addr) (n G : Nat) (C : List Rw) : Prop where
  blk : Blk W g [.slice a n G] 24
  is : IsS W a G C

theorem BoxS.call {W W' : World} {g : Nat} {a : Option Addr} {n G : Nat} {C : List Rw} (h : BoxS W g a n G C) (hb : Below W.heap.size W W') : BoxS W' g a n G C := ⟨h.blk.keep hb h.blk.lt, h.is.call hb⟩
theorem BoxS.alloc {W : World} {g : Nat} {a : Option Addr} {n G : Nat} {C : List Rw} (h : BoxS W g a n G C) (o : Obj) : BoxS (W.alloc o) g a n G C := ⟨h.blk.alc o, h.is.alloc o⟩
theorem BoxS.laid {W : World} {a : Option Addr} {n G : Nat} {C : List Rw} (h : IsS W a G C) : BoxS (W.alloc (.cells #[.slice a n G] 24)) W.heap.size a n G C := ⟨Blk.laid W [.slice a n G] _ _ rfl, h.alloc _⟩
theorem BoxS.cell {W : World} {g : Nat} {a : Option Addr} {n G : Nat} {C : List Rw} (h : BoxS W g a n G C) : W.cell? ⟨g, 0, none⟩ = some (.slice a n G) := h.blk.cell 0
theorem BoxS.lt {W : World} {g : Nat} {a : Option Addr} {n G : Nat} {C : List Rw} (h : BoxS W g a n G C) : g < W.heap.size := h.blk.lt

theorem shelfE_mem' {l : List Rw} (h : shelfE l = 0) : l.length = 4 ∧ ∀ r ∈ l, rowE r = 0 :=
  ⟨(shelfE_zero h).1, rowsE_zero (shelfE_zero h).2⟩

theorem getD_mem' {l : List Rw} {k : Nat} (hk : k < l.length) : l.getD k rw0 ∈ l := by
  rw [List.getD, List.getElem?_eq_getElem hk]
  exact List.getElem_mem hk

theorem puts_len : ∀ (L : List En) (C : List Rw), (putsL C L).length = C.length
  | [], C => rfl
  | x :: r, C => by rw [putsL, puts_len r]; unfold putRowL; rw [List.length_set]

theorem lens {C : List Rw} (h4 : C.length = 4) (L : List En) (s n : Int) : (bputL C L).length ≤ 4 ∧ (sealL C s n).length ≤ 4 ∧ (mrgL C s n).length ≤ 4 ∧ (dropL C n).length ≤ 4 := by
  refine ⟨?_, ?_, ?_, ?_⟩
  · unfold bputL
    split
    · rw [puts_len, h4]; exact Nat.le_refl _
    · simp
  · unfold sealL
    split
    · rw [List.length_set, h4]; exact Nat.le_refl _
    · simp
  · unfold mrgL
    split
    · rw [List.length_set, h4]; exact Nat.le_refl _
    · simp
  · unfold dropL
    split
    · rw [List.length_map, h4]; exact Nat.le_refl _
    · simp

theorem chL_good {C : List Rw} (hz : shelfE C = 0) (L : List En) (s n : Int) : chL C (bputE C L) (bputL C L) = bputL C L ∧ chL C (sealE C s n) (sealL C s n) = sealL C s n ∧ chL C (mrgE C s n) (mrgL C s n) = mrgL C s n ∧ chL C (dropE n) (dropL C n) = dropL C n := by
  unfold chL chE
  rw [if_pos hz, if_pos hz, if_pos hz, if_pos hz]
  refine ⟨?_, ?_, ?_, ?_⟩
  · unfold bputL; split <;> rfl
  · unfold sealL; split <;> rfl
  · unfold mrgL; split <;> rfl
  · unfold dropL; split <;> rfl

theorem makes_pts {E : Int} {D : List Rw} {d : Nat} {f : Nat} {args : Array Value} {W : World} (hd : d = D.length) (c : Calls Try.prog f args W (Makes E D W)) :
    Calls Try.prog f args W fun e w' => ∃ a' G', e = .returned (.tuple #[.agg #[.slice a' d G'], .int .i64 E]) ∧ IsS w' a' G' D ∧ Below W.heap.size W w' := by
  subst hd
  exact c

theorem rsame_self {D : List Rw} {d : Nat} (hd : d = D.length) (hl : d ≤ 4) {a b : Option Addr} {G H : Nat} {W : World} (h : IsS W a G D) (k : IsS W b H D) :
    Calls Try.prog 19 #[.agg #[.slice a d G], .agg #[.slice b d H]] W fun e w' => e = .returned (.bool true) ∧ Below W.heap.size W w' := by
  have c := rsame_is h k (by omega)
  rw [sameSh_self, ← hd] at c
  exact c

/-- All's points, as a slice. -/
theorem all_sl {C : List Rw} {s : Int} {A : List Pt} {E : Int} {p cn : Nat} (hA : A = allL C s) (hE : E = allE C s) (hp : p = A.length) (hcn : cn = C.length) {a : Option Addr} {G : Nat} {W : World} (h : IsS W a G C) :
    Calls Try.prog 10 #[.agg #[.slice a cn G], .int .i64 s] W fun e w' => ∃ a' G', e = .returned (.tuple #[.slice a' p G', .int .i64 E]) ∧ SlP w' a' G' A ∧ Below W.heap.size W w' := by
  have c := all_is s h
  rw [← hA, ← hE, ← hp, ← hcn] at c
  refine c.mono ?_
  rintro e w' ⟨a', G', rfl, o, b⟩
  obtain ⟨a3, G3, e3, s3, _, _⟩ := SlP.ofOwn o
  simp only [Value.slice.injEq, true_and] at e3
  obtain ⟨rfl, rfl⟩ := e3
  exact ⟨_, _, rfl, s3, b⟩

set_option maxHeartbeats 2000000 in
set_option maxRecDepth 100000 in
theorem walkG (w : World) (a0 : Option Addr) (cap0 cn : Nat) (C : List Rw) (hcn : Hid (cn = C.length)) (S0 : IsS w a0 cap0 C) (hc : cn ≤ 140737488355328) (a1 : Option Addr) (cap1 n1 : Nat) (L : List En) (hn1 : Hid (n1 = L.length)) (s1 : SlW En.cells w a1 cap1 L) (h1 : n1 ≤ 140737488355328) (s n : Int) (wn : (Lit.int .i64 n).wf = true) (a2 : Option Addr) (cap2 tn : Nat) (T : List Rw) (htn : Hid (tn = T.length)) (S2 : IsS w a2 cap2 T) (hz : shelfE C = 0) :
    Calls Try.prog 3 #[.agg #[.slice a0 cn cap0], .slice a1 n1 cap1, .int .i64 s, .int .i64 n, .agg #[.slice a2 tn cap2]] w fun e w' => e = .returned (.bool true) ∧ Below w.heap.size w w' := by
  have hR := right_of hz
  obtain ⟨m1, m2, m3, m4⟩ := lens hR.four L s n
  obtain ⟨y1, y2, y3, y4⟩ := chL_good hz L s n
  have ch : ∀ x, chE C x = x := fun x => by unfold chE; rw [if_pos hz]
  have cb := fun W (h : IsS W a0 cap0 C) (t : SlW En.cells W a1 cap1 L) => put_is L a1 cap1 h t (by rw [← hn1.out]; exact h1)
  have rb := fun W (h : IsS W a0 cap0 C) (t : SlW En.cells W a1 cap1 L) => rput_is L a1 cap1 h t (by rw [← hn1.out]; exact h1) hR
  simp only [ch, y1] at cb
  simp only [← hcn.out, ← hn1.out] at cb rb
  generalize bputL C L = Db at *
  generalize bputE C L = Eb at *
  obtain ⟨db, hdb⟩ : ∃ d, d = Db.length := ⟨_, rfl⟩
  rw [← hdb] at m1
  replace cb := fun W h t => makes_pts hdb (cb W h t)
  replace rb := fun W h t => makes_pts hdb (rb W h t)
  have kb := fun a b G H W (h : IsS W a G Db) (k : IsS W b H Db) => rsame_self hdb m1 h k
  clear hdb y1
  have cc := fun W (h : IsS W a0 cap0 C) => seal_is s n h
  have rc := fun W (h : IsS W a0 cap0 C) => rseal_is s n h hR
  simp only [ch, y2] at cc
  simp only [← hcn.out] at cc rc
  generalize sealL C s n = Dc at *
  generalize sealE C s n = Ec at *
  obtain ⟨dc, hdc⟩ : ∃ d, d = Dc.length := ⟨_, rfl⟩
  rw [← hdc] at m2
  replace cc := fun W h => makes_pts hdc (cc W h)
  replace rc := fun W h => makes_pts hdc (rc W h)
  have kc := fun a b G H W (h : IsS W a G Dc) (k : IsS W b H Dc) => rsame_self hdc m2 h k
  clear hdc y2
  have cd := fun W (h : IsS W a0 cap0 C) => merge_is s n h
  have rd := fun W (h : IsS W a0 cap0 C) => rmerge_is s n h hR wn
  simp only [ch, y3] at cd
  simp only [← hcn.out] at cd rd
  generalize mrgL C s n = Dd at *
  generalize mrgE C s n = Ed at *
  obtain ⟨dd, hdd⟩ : ∃ d, d = Dd.length := ⟨_, rfl⟩
  rw [← hdd] at m3
  replace cd := fun W h => makes_pts hdd (cd W h)
  replace rd := fun W h => makes_pts hdd (rd W h)
  have kd := fun a b G H W (h : IsS W a G Dd) (k : IsS W b H Dd) => rsame_self hdd m3 h k
  clear hdd y3
  have cx := fun W (h : IsS W a0 cap0 C) => drop_is n h
  have rx := fun W (h : IsS W a0 cap0 C) => rdrop_is n h hR
  simp only [ch, y4] at cx
  simp only [← hcn.out] at cx rx
  generalize dropL C n = Dx at *
  generalize dropE n = Ex at *
  obtain ⟨dx, hdx⟩ : ∃ d, d = Dx.length := ⟨_, rfl⟩
  rw [← hdx] at m4
  replace cx := fun W h => makes_pts hdx (cx W h)
  replace rx := fun W h => makes_pts hdx (rx W h)
  have kx := fun a b G H W (h : IsS W a G Dx) (k : IsS W b H Dx) => rsame_self hdx m4 h k
  clear hdx y4
  have cC := fun W (h : IsS W a0 cap0 C) => check_is h
  have rC := fun W (h : IsS W a0 cap0 C) => rcheck_is h
  have cS := fun W (h : IsS W a0 cap0 C) (k : IsS W a2 cap2 T) => same_is h k (by rw [← hcn.out]; exact hc)
  have rS := fun W (h : IsS W a0 cap0 C) (k : IsS W a2 cap2 T) => rsame_is h k (by rw [← hcn.out]; exact hc)
  simp only [← hcn.out, ← htn.out] at cC rC cS rS
  generalize sameSh C T = same at *
  have rF := fun a b G H W (h : IsS W a G freshL) (k : IsS W b H freshL) => rsame_self (d := 4) rfl (by decide) h k
  have sh := fun W => shelved_any W
  obtain ⟨A, hA⟩ : ∃ A, A = allL C s := ⟨_, rfl⟩
  obtain ⟨EA, hEA⟩ : ∃ E, E = allE C s := ⟨_, rfl⟩
  obtain ⟨p, hp⟩ : ∃ p, p = A.length := ⟨_, rfl⟩
  have cA := fun W (h : IsS W a0 cap0 C) => all_sl hA hEA hp hcn.out h
  simp only [hz] at cC rC
  have hA2 := hide hA
  have hEA2 := hide hEA
  have hp2 := hide hp
  have hz' := hide hz
  clear hA hEA hp hz ch
  have Xs : BoxS ((w.alloc (.cells #[.slice a0 cn cap0] 24)).alloc (.cells #[.slice a2 tn cap2] 24)) w.heap.size a0 cn cap0 C := (BoxS.laid S0).alloc _
  have Xt : BoxS ((w.alloc (.cells #[.slice a0 cn cap0] 24)).alloc (.cells #[.slice a2 tn cap2] 24)) (w.heap.size + 1) a2 tn cap2 T := by
    have := BoxS.laid (n := tn) (S2.alloc (.cells #[.slice a0 cn cap0] 24))
    rwa [World.size_alloc] at this
  have Te := (s1.alloc (.cells #[.slice a0 cn cap0] 24)).alloc (.cells #[.slice a2 tn cap2] 24)
  have bel := below2 w (.cells #[.slice a0 cn cap0] 24) (.cells #[.slice a2 tn cap2] 24)
  clear S0 S2
  go_enter Try.func3, Try.ntmps3
  go_wp2_with fail
  obtain ⟨g0, hg0⟩ : ∃ g, g = w.heap.size := ⟨_, rfl⟩
  rw [← hg0] at Xs Xt
  rw [← hg0]
  generalize (w.alloc _).alloc _ = w1 at *
  replace hg0 := hide hg0
  go_at_call 10
  refine (cA _ Xs.is).mono ?_
  rintro e w2 ⟨aA, GA, rfl, PA, b2⟩
  replace bel := belowCall bel b2
  replace Xs := Xs.call b2
  replace Xt := Xt.call b2
  replace Te := Te.call b2
  clear b2 cA
  have qXs := Xs.cell
  have lXs := Xs.lt
  go_wp2_with fail
  go_at_call 11
  refine (cb _ Xs.is Te).mono ?_
  rintro e w3 ⟨ab, Gb, rfl, sb, b3⟩
  replace bel := belowCall bel b3
  replace Xs := Xs.call b3
  replace Xt := Xt.call b3
  replace Te := Te.call b3
  replace PA := PA.call b3
  clear b3 qXs lXs
  have qXs := Xs.cell
  have lXs := Xs.lt
  go_wp2_with fail
  clear qXs lXs
  have Xb := BoxS.laid (n := db) sb
  replace bel := belowNew bel (.cells #[.slice ab db Gb] 24)
  replace Xs := Xs.alloc (.cells #[.slice ab db Gb] 24)
  replace Xt := Xt.alloc (.cells #[.slice ab db Gb] 24)
  replace Te := Te.alloc (.cells #[.slice ab db Gb] 24)
  replace PA := PA.alloc (.cells #[.slice ab db Gb] 24)
  clear sb
  generalize w3.heap.size = gb at *
  generalize w3.alloc _ = v3 at *
  have qXs := Xs.cell
  have lXs := Xs.lt
  go_wp2_with fail
  go_at_call 12
  refine (cc _ Xs.is).mono ?_
  rintro e w4 ⟨ac, Gc, rfl, sc, b4⟩
  replace bel := belowCall bel b4
  replace Xs := Xs.call b4
  replace Xt := Xt.call b4
  replace Te := Te.call b4
  replace PA := PA.call b4
  replace Xb := Xb.call b4
  clear b4 qXs lXs
  have qXs := Xs.cell
  have lXs := Xs.lt
  go_wp2_with fail
  clear qXs lXs
  have Xc := BoxS.laid (n := dc) sc
  replace bel := belowNew bel (.cells #[.slice ac dc Gc] 24)
  replace Xs := Xs.alloc (.cells #[.slice ac dc Gc] 24)
  replace Xt := Xt.alloc (.cells #[.slice ac dc Gc] 24)
  replace Te := Te.alloc (.cells #[.slice ac dc Gc] 24)
  replace PA := PA.alloc (.cells #[.slice ac dc Gc] 24)
  replace Xb := Xb.alloc (.cells #[.slice ac dc Gc] 24)
  clear sc
  generalize w4.heap.size = gc at *
  generalize w4.alloc _ = v4 at *
  have qXs := Xs.cell
  have lXs := Xs.lt
  go_wp2_with fail
  go_at_call 13
  refine (cd _ Xs.is).mono ?_
  rintro e w5 ⟨ad, Gd, rfl, sd, b5⟩
  replace bel := belowCall bel b5
  replace Xs := Xs.call b5
  replace Xt := Xt.call b5
  replace Te := Te.call b5
  replace PA := PA.call b5
  replace Xb := Xb.call b5
  replace Xc := Xc.call b5
  clear b5 qXs lXs
  have qXs := Xs.cell
  have lXs := Xs.lt
  go_wp2_with fail
  clear qXs lXs
  have Xd := BoxS.laid (n := dd) sd
  replace bel := belowNew bel (.cells #[.slice ad dd Gd] 24)
  replace Xs := Xs.alloc (.cells #[.slice ad dd Gd] 24)
  replace Xt := Xt.alloc (.cells #[.slice ad dd Gd] 24)
  replace Te := Te.alloc (.cells #[.slice ad dd Gd] 24)
  replace PA := PA.alloc (.cells #[.slice ad dd Gd] 24)
  replace Xb := Xb.alloc (.cells #[.slice ad dd Gd] 24)
  replace Xc := Xc.alloc (.cells #[.slice ad dd Gd] 24)
  clear sd
  generalize w5.heap.size = gd at *
  generalize w5.alloc _ = v5 at *
  have qXs := Xs.cell
  have lXs := Xs.lt
  go_wp2_with fail
  go_at_call 14
  refine (cx _ Xs.is).mono ?_
  rintro e w6 ⟨ax, Gx, rfl, sx, b6⟩
  replace bel := belowCall bel b6
  replace Xs := Xs.call b6
  replace Xt := Xt.call b6
  replace Te := Te.call b6
  replace PA := PA.call b6
  replace Xb := Xb.call b6
  replace Xc := Xc.call b6
  replace Xd := Xd.call b6
  clear b6 qXs lXs
  have qXs := Xs.cell
  have lXs := Xs.lt
  go_wp2_with fail
  clear qXs lXs
  have Xx := BoxS.laid (n := dx) sx
  replace bel := belowNew bel (.cells #[.slice ax dx Gx] 24)
  replace Xs := Xs.alloc (.cells #[.slice ax dx Gx] 24)
  replace Xt := Xt.alloc (.cells #[.slice ax dx Gx] 24)
  replace Te := Te.alloc (.cells #[.slice ax dx Gx] 24)
  replace PA := PA.alloc (.cells #[.slice ax dx Gx] 24)
  replace Xb := Xb.alloc (.cells #[.slice ax dx Gx] 24)
  replace Xc := Xc.alloc (.cells #[.slice ax dx Gx] 24)
  replace Xd := Xd.alloc (.cells #[.slice ax dx Gx] 24)
  clear sx
  generalize w6.heap.size = gx at *
  generalize w6.alloc _ = v6 at *
  clear cb cc cd cx
  have qXs := Xs.cell
  have lXs := Xs.lt
  go_wp2_with fail
  go_at_call 15
  refine (rC _ Xs.is).mono ?_
  rintro e w7 ⟨rfl, b7⟩
  replace bel := belowCall bel b7
  replace Xs := Xs.call b7
  replace Xt := Xt.call b7
  replace Te := Te.call b7
  replace PA := PA.call b7
  replace Xb := Xb.call b7
  replace Xc := Xc.call b7
  replace Xd := Xd.call b7
  replace Xx := Xx.call b7
  clear b7 qXs lXs rC
  go_wp2_with fail
  have Nn := Blk.laid w7 [.slice none 0 0] 24 _ rfl
  replace bel := belowNew bel (.cells #[.slice none 0 0] 24)
  replace Xs := Xs.alloc (.cells #[.slice none 0 0] 24)
  replace Xt := Xt.alloc (.cells #[.slice none 0 0] 24)
  replace Te := Te.alloc (.cells #[.slice none 0 0] 24)
  replace PA := PA.alloc (.cells #[.slice none 0 0] 24)
  replace Xb := Xb.alloc (.cells #[.slice none 0 0] 24)
  replace Xc := Xc.alloc (.cells #[.slice none 0 0] 24)
  replace Xd := Xd.alloc (.cells #[.slice none 0 0] 24)
  replace Xx := Xx.alloc (.cells #[.slice none 0 0] 24)
  generalize w7.heap.size = gn at *
  generalize w7.alloc _ = w8 at *
  have qXs := Xs.cell
  have lXs := Xs.lt
  have qXt := Xt.cell
  have lXt := Xt.lt
  have K0 : Below w8.heap.size w8 w8.drew := belowDrew (Below.refl _ _)
  have over : ∀ {f : Nat} {args : Array Value} {v : Value} {W : World}, Below w8.heap.size w8 W → Calls Try.prog f args W (fun e w' => e = .returned v ∧ Below W.heap.size W w') → Calls Try.prog f args W (fun e w' => e = .returned v ∧ w'.cell? ⟨g0, 0, none⟩ = some (.slice a0 cn cap0) ∧ w'.cell? ⟨g0 + 1, 0, none⟩ = some (.slice a2 tn cap2) ∧ Below w8.heap.size w8 w') := by
    intro f args v W h c
    refine c.mono ?_
    rintro e w' ⟨he, hb⟩
    have hb' := belowCall h hb
    exact ⟨he, (Xs.call hb').cell, (Xt.call hb').cell, hb'⟩
  have dN : ∀ W, Below w8.heap.size w8 W → Calls Try.prog 20 #[] W (fun e w' => ∃ x X, e = .returned (.agg #[.slice x 4 X]) ∧ IsS w' x X freshL ∧ w'.cell? ⟨g0, 0, none⟩ = some (.slice a0 cn cap0) ∧ w'.cell? ⟨g0 + 1, 0, none⟩ = some (.slice a2 tn cap2) ∧ Below w8.heap.size w8 w') := by
    intro W h
    refine (new_is W).mono ?_
    rintro e w' ⟨x, X, rfl, hx, hb⟩
    have hb' := belowCall h hb
    exact ⟨x, X, rfl, hx, (Xs.call hb').cell, (Xt.call hb').cell, hb'⟩
  have dF : ∀ W, Below w8.heap.size w8 W → Calls Try.prog 21 #[] W (fun e w' => ∃ x X, e = .returned (.agg #[.slice x 4 X]) ∧ IsS w' x X freshL ∧ Below W.heap.size W w' ∧ w'.cell? ⟨g0, 0, none⟩ = some (.slice a0 cn cap0) ∧ w'.cell? ⟨g0 + 1, 0, none⟩ = some (.slice a2 tn cap2) ∧ Below w8.heap.size w8 w') := by
    intro W h
    refine (rfresh_is W).mono ?_
    rintro e w' ⟨x, X, rfl, hx, hb⟩
    have hb' := belowCall h hb
    exact ⟨x, X, rfl, hx, hb, (Xs.call hb').cell, (Xt.call hb').cell, hb'⟩
  have iC := fun W (h : Below w8.heap.size w8 W) => (Xs.call h).is
  have iT := fun W (h : Below w8.heap.size w8 W) => (Xt.call h).is
  go_wp2_with fail
  go_region_held3 (fun w' => w'.cell? ⟨g0, 0, none⟩ = some (.slice a0 cn cap0) ∧ w'.cell? ⟨g0 + 1, 0, none⟩ = some (.slice a2 tn cap2) ∧ Below w8.heap.size w8 w') (simp [*])
    (first
      | (go_at_call 16; refine (over ?_ (sh _)).mono ?_; (simp [*]); rintro e w' ⟨rfl, z0, z1, z2⟩)
      | (go_at_call 17; refine (over ?_ (cC _ (iC _ ?_))).mono ?_; (simp [*]); (simp [*]); rintro e w' ⟨rfl, z0, z1, z2⟩)
      | (go_at_call 18; refine (over ?_ (cS _ (iC _ ?_) (iT _ ?_))).mono ?_; (simp [*]); (simp [*]); (simp [*]); rintro e w' ⟨rfl, z0, z1, z2⟩)
      | (go_at_call 19; refine (over ?_ (rS _ (iC _ ?_) (iT _ ?_))).mono ?_; (simp [*]); (simp [*]); (simp [*]); rintro e w' ⟨rfl, z0, z1, z2⟩)
      | (go_at_call 20; refine (dN _ ?_).mono ?_; (simp [*]); rintro e wN ⟨xN, XN, rfl, sN, z0, z1, z2⟩)
      | (go_at_call 21; refine (dF _ ?_).mono ?_; (simp [*]); rintro e wF ⟨xF, XF, rfl, sF, bF, z0, z1, z2⟩)
      | (go_at_call 19; refine (over ?_ (rF _ _ _ _ _ (IsS.call sN bF) sF)).mono ?_; (simp [*]); rintro e wG ⟨rfl, z0, z1, z2⟩))

  all_goals (
    replace bel := belowCall bel z2
    replace Xs := Xs.call z2
    replace Xt := Xt.call z2
    replace Te := Te.call z2
    replace PA := PA.call z2
    replace Xb := Xb.call z2
    replace Xc := Xc.call z2
    replace Xd := Xd.call z2
    replace Xx := Xx.call z2
    replace Nn := Nn.keep z2 Nn.lt
    clear over dN dF iC iT K0 qXs lXs qXt lXt
    have qXs := Xs.cell
    have lXs := Xs.lt
    go_wp2_with fail
    go_at_call 22
    refine (rb _ Xs.is Te).mono ?_
    rintro e w13 ⟨aB, GB, rfl, sB, b13⟩
    replace bel := belowCall bel b13
    replace Xs := Xs.call b13
    replace Xt := Xt.call b13
    replace Te := Te.call b13
    replace PA := PA.call b13
    replace Xb := Xb.call b13
    replace Xc := Xc.call b13
    replace Xd := Xd.call b13
    replace Xx := Xx.call b13
    replace Nn := Nn.keep b13 Nn.lt
    clear b13 qXs lXs
    have qXs := Xs.cell
    have lXs := Xs.lt
    go_wp2_with fail
    clear qXs lXs
    have XB := BoxS.laid (n := db) sB
    replace bel := belowNew bel (.cells #[.slice aB db GB] 24)
    replace Xs := Xs.alloc (.cells #[.slice aB db GB] 24)
    replace Xt := Xt.alloc (.cells #[.slice aB db GB] 24)
    replace Te := Te.alloc (.cells #[.slice aB db GB] 24)
    replace PA := PA.alloc (.cells #[.slice aB db GB] 24)
    replace Xb := Xb.alloc (.cells #[.slice aB db GB] 24)
    replace Xc := Xc.alloc (.cells #[.slice aB db GB] 24)
    replace Xd := Xd.alloc (.cells #[.slice aB db GB] 24)
    replace Xx := Xx.alloc (.cells #[.slice aB db GB] 24)
    replace Nn := Nn.alc (.cells #[.slice aB db GB] 24)
    clear sB
    generalize w13.heap.size = gB at *
    generalize w13.alloc _ = v13 at *
    have qXs := Xs.cell
    have lXs := Xs.lt
    go_wp2_with fail
    go_at_call 23
    refine (rc _ Xs.is).mono ?_
    rintro e w14 ⟨aC, GC, rfl, sC, b14⟩
    replace bel := belowCall bel b14
    replace Xs := Xs.call b14
    replace Xt := Xt.call b14
    replace Te := Te.call b14
    replace PA := PA.call b14
    replace Xb := Xb.call b14
    replace Xc := Xc.call b14
    replace Xd := Xd.call b14
    replace Xx := Xx.call b14
    replace Nn := Nn.keep b14 Nn.lt
    replace XB := XB.call b14
    clear b14 qXs lXs
    have qXs := Xs.cell
    have lXs := Xs.lt
    go_wp2_with fail
    clear qXs lXs
    have XC := BoxS.laid (n := dc) sC
    replace bel := belowNew bel (.cells #[.slice aC dc GC] 24)
    replace Xs := Xs.alloc (.cells #[.slice aC dc GC] 24)
    replace Xt := Xt.alloc (.cells #[.slice aC dc GC] 24)
    replace Te := Te.alloc (.cells #[.slice aC dc GC] 24)
    replace PA := PA.alloc (.cells #[.slice aC dc GC] 24)
    replace Xb := Xb.alloc (.cells #[.slice aC dc GC] 24)
    replace Xc := Xc.alloc (.cells #[.slice aC dc GC] 24)
    replace Xd := Xd.alloc (.cells #[.slice aC dc GC] 24)
    replace Xx := Xx.alloc (.cells #[.slice aC dc GC] 24)
    replace Nn := Nn.alc (.cells #[.slice aC dc GC] 24)
    replace XB := XB.alloc (.cells #[.slice aC dc GC] 24)
    clear sC
    generalize w14.heap.size = gC at *
    generalize w14.alloc _ = v14 at *
    have qXs := Xs.cell
    have lXs := Xs.lt
    go_wp2_with fail
    go_at_call 24
    refine (rd _ Xs.is).mono ?_
    rintro e w15 ⟨aD, GD, rfl, sD, b15⟩
    replace bel := belowCall bel b15
    replace Xs := Xs.call b15
    replace Xt := Xt.call b15
    replace Te := Te.call b15
    replace PA := PA.call b15
    replace Xb := Xb.call b15
    replace Xc := Xc.call b15
    replace Xd := Xd.call b15
    replace Xx := Xx.call b15
    replace Nn := Nn.keep b15 Nn.lt
    replace XB := XB.call b15
    replace XC := XC.call b15
    clear b15 qXs lXs
    have qXs := Xs.cell
    have lXs := Xs.lt
    go_wp2_with fail
    clear qXs lXs
    have XD := BoxS.laid (n := dd) sD
    replace bel := belowNew bel (.cells #[.slice aD dd GD] 24)
    replace Xs := Xs.alloc (.cells #[.slice aD dd GD] 24)
    replace Xt := Xt.alloc (.cells #[.slice aD dd GD] 24)
    replace Te := Te.alloc (.cells #[.slice aD dd GD] 24)
    replace PA := PA.alloc (.cells #[.slice aD dd GD] 24)
    replace Xb := Xb.alloc (.cells #[.slice aD dd GD] 24)
    replace Xc := Xc.alloc (.cells #[.slice aD dd GD] 24)
    replace Xd := Xd.alloc (.cells #[.slice aD dd GD] 24)
    replace Xx := Xx.alloc (.cells #[.slice aD dd GD] 24)
    replace Nn := Nn.alc (.cells #[.slice aD dd GD] 24)
    replace XB := XB.alloc (.cells #[.slice aD dd GD] 24)
    replace XC := XC.alloc (.cells #[.slice aD dd GD] 24)
    clear sD
    generalize w15.heap.size = gD at *
    generalize w15.alloc _ = v15 at *
    have qXs := Xs.cell
    have lXs := Xs.lt
    go_wp2_with fail
    go_at_call 25
    refine (rx _ Xs.is).mono ?_
    rintro e w16 ⟨aX, GX, rfl, sX, b16⟩
    replace bel := belowCall bel b16
    replace Xs := Xs.call b16
    replace Xt := Xt.call b16
    replace Te := Te.call b16
    replace PA := PA.call b16
    replace Xb := Xb.call b16
    replace Xc := Xc.call b16
    replace Xd := Xd.call b16
    replace Xx := Xx.call b16
    replace Nn := Nn.keep b16 Nn.lt
    replace XB := XB.call b16
    replace XC := XC.call b16
    replace XD := XD.call b16
    clear b16 qXs lXs
    have qXs := Xs.cell
    have lXs := Xs.lt
    have qXb := Xb.cell
    have lXb := Xb.lt
    have qXB := XB.cell
    have lXB := XB.lt
    go_wp2_with fail
    clear qXs lXs qXb lXb qXB lXB
    have XX := BoxS.laid (n := dx) sX
    replace bel := belowNew bel (.cells #[.slice aX dx GX] 24)
    replace Xs := Xs.alloc (.cells #[.slice aX dx GX] 24)
    replace Xt := Xt.alloc (.cells #[.slice aX dx GX] 24)
    replace Te := Te.alloc (.cells #[.slice aX dx GX] 24)
    replace PA := PA.alloc (.cells #[.slice aX dx GX] 24)
    replace Xb := Xb.alloc (.cells #[.slice aX dx GX] 24)
    replace Xc := Xc.alloc (.cells #[.slice aX dx GX] 24)
    replace Xd := Xd.alloc (.cells #[.slice aX dx GX] 24)
    replace Xx := Xx.alloc (.cells #[.slice aX dx GX] 24)
    replace Nn := Nn.alc (.cells #[.slice aX dx GX] 24)
    replace XB := XB.alloc (.cells #[.slice aX dx GX] 24)
    replace XC := XC.alloc (.cells #[.slice aX dx GX] 24)
    replace XD := XD.alloc (.cells #[.slice aX dx GX] 24)
    clear sX
    generalize w16.heap.size = gX at *
    generalize w16.alloc _ = v16 at *
    go_at_call 19
    refine (kb _ _ _ _ _ Xb.is XB.is).mono ?_
    rintro e w17 ⟨rfl, b17⟩
    replace bel := belowCall bel b17
    replace Xs := Xs.call b17
    replace Xt := Xt.call b17
    replace Te := Te.call b17
    replace PA := PA.call b17
    replace Xb := Xb.call b17
    replace Xc := Xc.call b17
    replace Xd := Xd.call b17
    replace Xx := Xx.call b17
    replace Nn := Nn.keep b17 Nn.lt
    replace XB := XB.call b17
    replace XC := XC.call b17
    replace XD := XD.call b17
    replace XX := XX.call b17
    clear b17
    have qXc := Xc.cell
    have lXc := Xc.lt
    have qXC := XC.cell
    have lXC := XC.lt
    go_wp2_with fail
    go_at_call 19
    refine (kc _ _ _ _ _ Xc.is XC.is).mono ?_
    rintro e w18 ⟨rfl, b18⟩
    replace bel := belowCall bel b18
    replace Xs := Xs.call b18
    replace Xt := Xt.call b18
    replace Te := Te.call b18
    replace PA := PA.call b18
    replace Xb := Xb.call b18
    replace Xc := Xc.call b18
    replace Xd := Xd.call b18
    replace Xx := Xx.call b18
    replace Nn := Nn.keep b18 Nn.lt
    replace XB := XB.call b18
    replace XC := XC.call b18
    replace XD := XD.call b18
    replace XX := XX.call b18
    clear b18 qXc lXc qXC lXC
    have qXd := Xd.cell
    have lXd := Xd.lt
    have qXD := XD.cell
    have lXD := XD.lt
    go_wp2_with fail
    go_at_call 19
    refine (kd _ _ _ _ _ Xd.is XD.is).mono ?_
    rintro e w19 ⟨rfl, b19⟩
    replace bel := belowCall bel b19
    replace Xs := Xs.call b19
    replace Xt := Xt.call b19
    replace Te := Te.call b19
    replace PA := PA.call b19
    replace Xb := Xb.call b19
    replace Xc := Xc.call b19
    replace Xd := Xd.call b19
    replace Xx := Xx.call b19
    replace Nn := Nn.keep b19 Nn.lt
    replace XB := XB.call b19
    replace XC := XC.call b19
    replace XD := XD.call b19
    replace XX := XX.call b19
    clear b19 qXd lXd qXD lXD
    have qXx := Xx.cell
    have lXx := Xx.lt
    have qXX := XX.cell
    have lXX := XX.lt
    go_wp2_with fail
    go_at_call 19
    refine (kx _ _ _ _ _ Xx.is XX.is).mono ?_
    rintro e w20 ⟨rfl, b20⟩
    replace bel := belowCall bel b20
    replace Xs := Xs.call b20
    replace Xt := Xt.call b20
    replace Te := Te.call b20
    replace PA := PA.call b20
    replace Xb := Xb.call b20
    replace Xc := Xc.call b20
    replace Xd := Xd.call b20
    replace Xx := Xx.call b20
    replace Nn := Nn.keep b20 Nn.lt
    replace XB := XB.call b20
    replace XC := XC.call b20
    replace XD := XD.call b20
    replace XX := XX.call b20
    clear b20 qXx lXx qXX lXX
    cases hi : inI s 0 3 with
    | false =>
      have e5 : EA = 5 := by rw [hEA2.out]; unfold allE; rw [if_pos hz'.out, if_pos hi]
      have p0 : p = 0 := by rw [hp2.out, hA2.out]; unfold allL; rw [← hEA2.out, e5]; rfl
      have hs : s < 0 ∨ 3 < s := by
        unfold inI at hi
        have : ¬ (0 ≤ s ∧ s ≤ 3) := of_decide_eq_false hi
        omega
      subst e5
      subst p0
      rcases hs with hs | hs
      · go_wp2_with fail
        go_ret
        exact ⟨rfl, bel⟩
      · have hs' : ¬ s < 0 := by omega
        go_wp2_with fail
        go_ret
        exact ⟨rfl, bel⟩
    | true =>
      obtain ⟨k, rfl, hk⟩ := inI_nat hi
      have hk3 : ¬ (3 : Int) < k := by omega
      have e0' : EA = 0 := by rw [hEA2.out]; unfold allE; rw [if_pos hz'.out, hi]; rfl
      subst e0'
      obtain ⟨b, off, r, ea, hbw, e0, e1, gr, hrw⟩ := Xs.is.at k (by rw [hR.four]; exact hk)
      subst ea
      have hrE : rowE r.rw = 0 := by
        rw [hrw]
        obtain ⟨h4, hm⟩ := shelfE_mem' hz'.out
        exact hm _ (getD_mem' (by omega))
      have hA3 : A = rowL r.rw := by
        rw [hA2.out]
        unfold allL rowL
        rw [← hEA2.out, if_pos rfl, hrE, if_pos rfl, hrw, Int.toNat_natCast]
      have hp40 : p ≤ 40 := by
        rw [hp2.out, hA3]
        exact rowL_length _
      have cR := fun W h => refRow_any r W h
      rw [hrE, ← hA3, ← hp2.out] at cR
      unfold Lr.v at cR
      have hcn4 : cn = 4 := by rw [hcn.out, hR.four]
      subst hcn4
      clear hrE hA3 hrw hi hR
      have qXs := Xs.cell
      have lXs := Xs.lt
      go_wp2_with fail
      go_at_call 26
      refine (cR _ gr).mono ?_
      rintro e w30 ⟨aR, GR, rfl, PR, b30⟩
      replace bel := belowCall bel b30
      replace PA := PA.call b30
      have cE := equalPt aA aR GA GR A A w30 PA PR (by rw [← hp2.out]; omega) (by rw [← hp2.out]; omega)
      rw [decide_eq_true (rfl : A = A), ← hp2.out] at cE
      clear b30 qXs lXs
      go_wp2_with fail
      go_at_call 27
      refine cE.mono ?_
      rintro e w31 ⟨rfl, q31, rfl⟩
      go_wp2_with fail
      go_ret
      exact ⟨rfl, belowDrewN bel q31⟩)

set_option maxHeartbeats 2000000 in
set_option maxRecDepth 100000 in
theorem walkB (w : World) (a0 : Option Addr) (cap0 cn : Nat) (C : List Rw) (hcn : Hid (cn = C.length)) (S0 : IsS w a0 cap0 C) (hc : cn ≤ 140737488355328) (a1 : Option Addr) (cap1 n1 : Nat) (L : List En) (hn1 : Hid (n1 = L.length)) (s1 : SlW En.cells w a1 cap1 L) (h1 : n1 ≤ 140737488355328) (s n : Int) (wn : (Lit.int .i64 n).wf = true) (a2 : Option Addr) (cap2 tn : Nat) (T : List Rw) (htn : Hid (tn = T.length)) (S2 : IsS w a2 cap2 T) (hz : shelfE C ≠ 0) :
    Calls Try.prog 3 #[.agg #[.slice a0 cn cap0], .slice a1 n1 cap1, .int .i64 s, .int .i64 n, .agg #[.slice a2 tn cap2]] w fun e w' => e = .returned (.bool true) ∧ Below w.heap.size w w' := by
  obtain ⟨bad, hbad⟩ : ∃ b, b = shelfE C := ⟨_, rfl⟩
  have hb0 : bad ≠ 0 := by rw [hbad]; exact hz
  have ch : ∀ x, chE C x = bad := fun x => by unfold chE; rw [if_neg hz, hbad]
  have cl : ∀ x (X : List Rw), chL C x X = [] := fun x X => by unfold chL; rw [ch, if_neg hb0]
  have cb := fun W (h : IsS W a0 cap0 C) (t : SlW En.cells W a1 cap1 L) => put_is L a1 cap1 h t (by rw [← hn1.out]; exact h1)
  simp only [ch, cl] at cb
  simp only [← hcn.out, ← hn1.out] at cb
  replace cb := fun W h t => makes_pts (d := 0) rfl (cb W h t)
  have cc := fun W (h : IsS W a0 cap0 C) => seal_is s n h
  simp only [ch, cl] at cc
  simp only [← hcn.out] at cc
  replace cc := fun W h => makes_pts (d := 0) rfl (cc W h)
  have cd := fun W (h : IsS W a0 cap0 C) => merge_is s n h
  simp only [ch, cl] at cd
  simp only [← hcn.out] at cd
  replace cd := fun W h => makes_pts (d := 0) rfl (cd W h)
  have cx := fun W (h : IsS W a0 cap0 C) => drop_is n h
  simp only [ch, cl] at cx
  simp only [← hcn.out] at cx
  replace cx := fun W h => makes_pts (d := 0) rfl (cx W h)
  have cC := fun W (h : IsS W a0 cap0 C) => check_is h
  have rC := fun W (h : IsS W a0 cap0 C) => rcheck_is h
  have cS := fun W (h : IsS W a0 cap0 C) (k : IsS W a2 cap2 T) => same_is h k (by rw [← hcn.out]; exact hc)
  have rS := fun W (h : IsS W a0 cap0 C) (k : IsS W a2 cap2 T) => rsame_is h k (by rw [← hcn.out]; exact hc)
  simp only [← hcn.out, ← htn.out] at cC rC cS rS
  generalize sameSh C T = same at *
  have rF := fun a b G H W (h : IsS W a G freshL) (k : IsS W b H freshL) => rsame_self (d := 4) rfl (by decide) h k
  have sh := fun W => shelved_any W
  obtain ⟨A, hA⟩ : ∃ A, A = allL C s := ⟨_, rfl⟩
  obtain ⟨EA, hEA⟩ : ∃ E, E = allE C s := ⟨_, rfl⟩
  obtain ⟨p, hp⟩ : ∃ p, p = A.length := ⟨_, rfl⟩
  have cA := fun W (h : IsS W a0 cap0 C) => all_sl hA hEA hp hcn.out h
  simp only [← hbad] at cC rC
  obtain rfl : EA = bad := by rw [hEA]; unfold allE; rw [if_neg hz, hbad]
  obtain rfl : p = 0 := by rw [hp, hA]; unfold allL; rw [← hEA, if_neg hb0]; rfl
  have rN := fun a b G H W (h : IsS W a G []) (k : IsS W b H []) => rsame_self (d := 0) rfl (by decide) h k
  clear hA hEA hp hz ch cl hbad
  have Xs : BoxS ((w.alloc (.cells #[.slice a0 cn cap0] 24)).alloc (.cells #[.slice a2 tn cap2] 24)) w.heap.size a0 cn cap0 C := (BoxS.laid S0).alloc _
  have Xt : BoxS ((w.alloc (.cells #[.slice a0 cn cap0] 24)).alloc (.cells #[.slice a2 tn cap2] 24)) (w.heap.size + 1) a2 tn cap2 T := by
    have := BoxS.laid (n := tn) (S2.alloc (.cells #[.slice a0 cn cap0] 24))
    rwa [World.size_alloc] at this
  have Te := (s1.alloc (.cells #[.slice a0 cn cap0] 24)).alloc (.cells #[.slice a2 tn cap2] 24)
  have bel := below2 w (.cells #[.slice a0 cn cap0] 24) (.cells #[.slice a2 tn cap2] 24)
  clear S0 S2
  go_enter Try.func3, Try.ntmps3
  go_wp2_with fail
  obtain ⟨g0, hg0⟩ : ∃ g, g = w.heap.size := ⟨_, rfl⟩
  rw [← hg0] at Xs Xt
  rw [← hg0]
  generalize (w.alloc _).alloc _ = w1 at *
  replace hg0 := hide hg0
  go_at_call 10
  refine (cA _ Xs.is).mono ?_
  rintro e w2 ⟨aA, GA, rfl, PA, b2⟩
  replace bel := belowCall bel b2
  replace Xs := Xs.call b2
  replace Xt := Xt.call b2
  replace Te := Te.call b2
  clear b2 cA
  have qXs := Xs.cell
  have lXs := Xs.lt
  go_wp2_with fail
  go_at_call 11
  refine (cb _ Xs.is Te).mono ?_
  rintro e w3 ⟨ab, Gb, rfl, sb, b3⟩
  replace bel := belowCall bel b3
  replace Xs := Xs.call b3
  replace Xt := Xt.call b3
  replace Te := Te.call b3
  replace PA := PA.call b3
  clear b3 qXs lXs
  have qXs := Xs.cell
  have lXs := Xs.lt
  go_wp2_with fail
  clear qXs lXs
  have Xb := BoxS.laid (n := 0) sb
  replace bel := belowNew bel (.cells #[.slice ab 0 Gb] 24)
  replace Xs := Xs.alloc (.cells #[.slice ab 0 Gb] 24)
  replace Xt := Xt.alloc (.cells #[.slice ab 0 Gb] 24)
  replace Te := Te.alloc (.cells #[.slice ab 0 Gb] 24)
  replace PA := PA.alloc (.cells #[.slice ab 0 Gb] 24)
  clear sb
  generalize w3.heap.size = gb at *
  generalize w3.alloc _ = v3 at *
  have qXs := Xs.cell
  have lXs := Xs.lt
  go_wp2_with fail
  go_at_call 12
  refine (cc _ Xs.is).mono ?_
  rintro e w4 ⟨ac, Gc, rfl, sc, b4⟩
  replace bel := belowCall bel b4
  replace Xs := Xs.call b4
  replace Xt := Xt.call b4
  replace Te := Te.call b4
  replace PA := PA.call b4
  replace Xb := Xb.call b4
  clear b4 qXs lXs
  have qXs := Xs.cell
  have lXs := Xs.lt
  go_wp2_with fail
  clear qXs lXs
  have Xc := BoxS.laid (n := 0) sc
  replace bel := belowNew bel (.cells #[.slice ac 0 Gc] 24)
  replace Xs := Xs.alloc (.cells #[.slice ac 0 Gc] 24)
  replace Xt := Xt.alloc (.cells #[.slice ac 0 Gc] 24)
  replace Te := Te.alloc (.cells #[.slice ac 0 Gc] 24)
  replace PA := PA.alloc (.cells #[.slice ac 0 Gc] 24)
  replace Xb := Xb.alloc (.cells #[.slice ac 0 Gc] 24)
  clear sc
  generalize w4.heap.size = gc at *
  generalize w4.alloc _ = v4 at *
  have qXs := Xs.cell
  have lXs := Xs.lt
  go_wp2_with fail
  go_at_call 13
  refine (cd _ Xs.is).mono ?_
  rintro e w5 ⟨ad, Gd, rfl, sd, b5⟩
  replace bel := belowCall bel b5
  replace Xs := Xs.call b5
  replace Xt := Xt.call b5
  replace Te := Te.call b5
  replace PA := PA.call b5
  replace Xb := Xb.call b5
  replace Xc := Xc.call b5
  clear b5 qXs lXs
  have qXs := Xs.cell
  have lXs := Xs.lt
  go_wp2_with fail
  clear qXs lXs
  have Xd := BoxS.laid (n := 0) sd
  replace bel := belowNew bel (.cells #[.slice ad 0 Gd] 24)
  replace Xs := Xs.alloc (.cells #[.slice ad 0 Gd] 24)
  replace Xt := Xt.alloc (.cells #[.slice ad 0 Gd] 24)
  replace Te := Te.alloc (.cells #[.slice ad 0 Gd] 24)
  replace PA := PA.alloc (.cells #[.slice ad 0 Gd] 24)
  replace Xb := Xb.alloc (.cells #[.slice ad 0 Gd] 24)
  replace Xc := Xc.alloc (.cells #[.slice ad 0 Gd] 24)
  clear sd
  generalize w5.heap.size = gd at *
  generalize w5.alloc _ = v5 at *
  have qXs := Xs.cell
  have lXs := Xs.lt
  go_wp2_with fail
  go_at_call 14
  refine (cx _ Xs.is).mono ?_
  rintro e w6 ⟨ax, Gx, rfl, sx, b6⟩
  replace bel := belowCall bel b6
  replace Xs := Xs.call b6
  replace Xt := Xt.call b6
  replace Te := Te.call b6
  replace PA := PA.call b6
  replace Xb := Xb.call b6
  replace Xc := Xc.call b6
  replace Xd := Xd.call b6
  clear b6 qXs lXs
  have qXs := Xs.cell
  have lXs := Xs.lt
  go_wp2_with fail
  clear qXs lXs
  have Xx := BoxS.laid (n := 0) sx
  replace bel := belowNew bel (.cells #[.slice ax 0 Gx] 24)
  replace Xs := Xs.alloc (.cells #[.slice ax 0 Gx] 24)
  replace Xt := Xt.alloc (.cells #[.slice ax 0 Gx] 24)
  replace Te := Te.alloc (.cells #[.slice ax 0 Gx] 24)
  replace PA := PA.alloc (.cells #[.slice ax 0 Gx] 24)
  replace Xb := Xb.alloc (.cells #[.slice ax 0 Gx] 24)
  replace Xc := Xc.alloc (.cells #[.slice ax 0 Gx] 24)
  replace Xd := Xd.alloc (.cells #[.slice ax 0 Gx] 24)
  clear sx
  generalize w6.heap.size = gx at *
  generalize w6.alloc _ = v6 at *
  clear cb cc cd cx
  have qXs := Xs.cell
  have lXs := Xs.lt
  go_wp2_with fail
  go_at_call 15
  refine (rC _ Xs.is).mono ?_
  rintro e w7 ⟨rfl, b7⟩
  replace bel := belowCall bel b7
  replace Xs := Xs.call b7
  replace Xt := Xt.call b7
  replace Te := Te.call b7
  replace PA := PA.call b7
  replace Xb := Xb.call b7
  replace Xc := Xc.call b7
  replace Xd := Xd.call b7
  replace Xx := Xx.call b7
  clear b7 qXs lXs rC
  go_wp2_with fail
  have Nn := Blk.laid w7 [.slice none 0 0] 24 _ rfl
  replace bel := belowNew bel (.cells #[.slice none 0 0] 24)
  replace Xs := Xs.alloc (.cells #[.slice none 0 0] 24)
  replace Xt := Xt.alloc (.cells #[.slice none 0 0] 24)
  replace Te := Te.alloc (.cells #[.slice none 0 0] 24)
  replace PA := PA.alloc (.cells #[.slice none 0 0] 24)
  replace Xb := Xb.alloc (.cells #[.slice none 0 0] 24)
  replace Xc := Xc.alloc (.cells #[.slice none 0 0] 24)
  replace Xd := Xd.alloc (.cells #[.slice none 0 0] 24)
  replace Xx := Xx.alloc (.cells #[.slice none 0 0] 24)
  generalize w7.heap.size = gn at *
  generalize w7.alloc _ = w8 at *
  have qXs := Xs.cell
  have lXs := Xs.lt
  have qXt := Xt.cell
  have lXt := Xt.lt
  have K0 : Below w8.heap.size w8 w8.drew := belowDrew (Below.refl _ _)
  have over : ∀ {f : Nat} {args : Array Value} {v : Value} {W : World}, Below w8.heap.size w8 W → Calls Try.prog f args W (fun e w' => e = .returned v ∧ Below W.heap.size W w') → Calls Try.prog f args W (fun e w' => e = .returned v ∧ w'.cell? ⟨g0, 0, none⟩ = some (.slice a0 cn cap0) ∧ w'.cell? ⟨g0 + 1, 0, none⟩ = some (.slice a2 tn cap2) ∧ Below w8.heap.size w8 w') := by
    intro f args v W h c
    refine c.mono ?_
    rintro e w' ⟨he, hb⟩
    have hb' := belowCall h hb
    exact ⟨he, (Xs.call hb').cell, (Xt.call hb').cell, hb'⟩
  have dN : ∀ W, Below w8.heap.size w8 W → Calls Try.prog 20 #[] W (fun e w' => ∃ x X, e = .returned (.agg #[.slice x 4 X]) ∧ IsS w' x X freshL ∧ w'.cell? ⟨g0, 0, none⟩ = some (.slice a0 cn cap0) ∧ w'.cell? ⟨g0 + 1, 0, none⟩ = some (.slice a2 tn cap2) ∧ Below w8.heap.size w8 w') := by
    intro W h
    refine (new_is W).mono ?_
    rintro e w' ⟨x, X, rfl, hx, hb⟩
    have hb' := belowCall h hb
    exact ⟨x, X, rfl, hx, (Xs.call hb').cell, (Xt.call hb').cell, hb'⟩
  have dF : ∀ W, Below w8.heap.size w8 W → Calls Try.prog 21 #[] W (fun e w' => ∃ x X, e = .returned (.agg #[.slice x 4 X]) ∧ IsS w' x X freshL ∧ Below W.heap.size W w' ∧ w'.cell? ⟨g0, 0, none⟩ = some (.slice a0 cn cap0) ∧ w'.cell? ⟨g0 + 1, 0, none⟩ = some (.slice a2 tn cap2) ∧ Below w8.heap.size w8 w') := by
    intro W h
    refine (rfresh_is W).mono ?_
    rintro e w' ⟨x, X, rfl, hx, hb⟩
    have hb' := belowCall h hb
    exact ⟨x, X, rfl, hx, hb, (Xs.call hb').cell, (Xt.call hb').cell, hb'⟩
  have iC := fun W (h : Below w8.heap.size w8 W) => (Xs.call h).is
  have iT := fun W (h : Below w8.heap.size w8 W) => (Xt.call h).is
  go_wp2_with fail
  go_region_held3 (fun w' => w'.cell? ⟨g0, 0, none⟩ = some (.slice a0 cn cap0) ∧ w'.cell? ⟨g0 + 1, 0, none⟩ = some (.slice a2 tn cap2) ∧ Below w8.heap.size w8 w') (simp [*])
    (first
      | (go_at_call 16; refine (over ?_ (sh _)).mono ?_; (simp [*]); rintro e w' ⟨rfl, z0, z1, z2⟩)
      | (go_at_call 17; refine (over ?_ (cC _ (iC _ ?_))).mono ?_; (simp [*]); (simp [*]); rintro e w' ⟨rfl, z0, z1, z2⟩)
      | (go_at_call 18; refine (over ?_ (cS _ (iC _ ?_) (iT _ ?_))).mono ?_; (simp [*]); (simp [*]); (simp [*]); rintro e w' ⟨rfl, z0, z1, z2⟩)
      | (go_at_call 19; refine (over ?_ (rS _ (iC _ ?_) (iT _ ?_))).mono ?_; (simp [*]); (simp [*]); (simp [*]); rintro e w' ⟨rfl, z0, z1, z2⟩)
      | (go_at_call 20; refine (dN _ ?_).mono ?_; (simp [*]); rintro e wN ⟨xN, XN, rfl, sN, z0, z1, z2⟩)
      | (go_at_call 21; refine (dF _ ?_).mono ?_; (simp [*]); rintro e wF ⟨xF, XF, rfl, sF, bF, z0, z1, z2⟩)
      | (go_at_call 19; refine (over ?_ (rF _ _ _ _ _ (IsS.call sN bF) sF)).mono ?_; (simp [*]); rintro e wG ⟨rfl, z0, z1, z2⟩))

  all_goals (
    replace bel := belowCall bel z2
    replace Xs := Xs.call z2
    replace Xt := Xt.call z2
    replace Te := Te.call z2
    replace PA := PA.call z2
    replace Xb := Xb.call z2
    replace Xc := Xc.call z2
    replace Xd := Xd.call z2
    replace Xx := Xx.call z2
    replace Nn := Nn.keep z2 Nn.lt
    clear over dN dF iC iT K0 qXs lXs qXt lXt
    have qXb := Xb.cell
    have lXb := Xb.lt
    have qNn := Nn.cell 0
    have lNn := Nn.lt
    go_wp2_with fail
    go_at_call 19
    refine (rN _ _ _ _ _ Xb.is (IsS.of (SlR.ofNil _))).mono ?_
    rintro e w17 ⟨rfl, b17⟩
    replace bel := belowCall bel b17
    replace Xs := Xs.call b17
    replace Xt := Xt.call b17
    replace Te := Te.call b17
    replace PA := PA.call b17
    replace Xb := Xb.call b17
    replace Xc := Xc.call b17
    replace Xd := Xd.call b17
    replace Xx := Xx.call b17
    replace Nn := Nn.keep b17 Nn.lt
    clear b17 qXb lXb qNn lNn
    have qXc := Xc.cell
    have lXc := Xc.lt
    have qNn := Nn.cell 0
    have lNn := Nn.lt
    go_wp2_with fail
    go_at_call 19
    refine (rN _ _ _ _ _ Xc.is (IsS.of (SlR.ofNil _))).mono ?_
    rintro e w18 ⟨rfl, b18⟩
    replace bel := belowCall bel b18
    replace Xs := Xs.call b18
    replace Xt := Xt.call b18
    replace Te := Te.call b18
    replace PA := PA.call b18
    replace Xb := Xb.call b18
    replace Xc := Xc.call b18
    replace Xd := Xd.call b18
    replace Xx := Xx.call b18
    replace Nn := Nn.keep b18 Nn.lt
    clear b18 qXc lXc qNn lNn
    have qXd := Xd.cell
    have lXd := Xd.lt
    have qNn := Nn.cell 0
    have lNn := Nn.lt
    go_wp2_with fail
    go_at_call 19
    refine (rN _ _ _ _ _ Xd.is (IsS.of (SlR.ofNil _))).mono ?_
    rintro e w19 ⟨rfl, b19⟩
    replace bel := belowCall bel b19
    replace Xs := Xs.call b19
    replace Xt := Xt.call b19
    replace Te := Te.call b19
    replace PA := PA.call b19
    replace Xb := Xb.call b19
    replace Xc := Xc.call b19
    replace Xd := Xd.call b19
    replace Xx := Xx.call b19
    replace Nn := Nn.keep b19 Nn.lt
    clear b19 qXd lXd qNn lNn
    have qXx := Xx.cell
    have lXx := Xx.lt
    have qNn := Nn.cell 0
    have lNn := Nn.lt
    go_wp2_with fail
    go_at_call 19
    refine (rN _ _ _ _ _ Xx.is (IsS.of (SlR.ofNil _))).mono ?_
    rintro e w20 ⟨rfl, b20⟩
    replace bel := belowCall bel b20
    replace Xs := Xs.call b20
    replace Xt := Xt.call b20
    replace Te := Te.call b20
    replace PA := PA.call b20
    replace Xb := Xb.call b20
    replace Xc := Xc.call b20
    replace Xd := Xd.call b20
    replace Xx := Xx.call b20
    replace Nn := Nn.keep b20 Nn.lt
    clear b20 qXx lXx qNn lNn
    go_wp2_with fail
    go_ret
    exact ⟨rfl, bel⟩)

theorem walk (w : World) (a0 : Option Addr) (cap0 : Nat) (l : List Lr) (s0 : SlR w a0 cap0 l) (r0 : cap0 * 48 ≤ 140737488351232) (a1 : Option Addr) (cap1 : Nat) (L : List En) (s1 : SlW En.cells w a1 cap1 L) (wf1 : ∀ x ∈ L, x.Wf) (r1 : cap1 * 24 ≤ 140737488351232) (s : Int) (ws : (Lit.int .i64 s).wf = true) (n : Int) (wn : (Lit.int .i64 n).wf = true) (a2 : Option Addr) (cap2 : Nat) (t : List Lr) (s2 : SlR w a2 cap2 t) (r2 : cap2 * 48 ≤ 140737488351232) :
    Calls Try.prog 3 #[.agg #[.slice a0 l.length cap0], .slice a1 L.length cap1, .int .i64 s, .int .i64 n, .agg #[.slice a2 t.length cap2]] w fun e w' => e = .returned (.bool true) ∧ Below w.heap.size w w' := by
  have h0 : l.length ≤ 140737488355328 := by have := s0.sl.le; omega
  have h1 : L.length ≤ 140737488355328 := by have := s1.le; omega
  have S0 := IsS.of s0
  have S2 := IsS.of s2
  have hcn : l.length = (l.map Lr.rw).length := by rw [List.length_map]
  have htn : t.length = (t.map Lr.rw).length := by rw [List.length_map]
  by_cases hz : shelfE (l.map Lr.rw) = 0
  · exact walkG w a0 cap0 l.length _ hcn S0 h0 a1 cap1 L.length L rfl s1 h1 s n wn a2 cap2 t.length _ htn S2 hz
  · exact walkB w a0 cap0 l.length _ hcn S0 h0 a1 cap1 L.length L rfl s1 h1 s n wn a2 cap2 t.length _ htn S2 hz

set_option maxRecDepth 100000 in
theorem lifted (os : Os) (started : os.Started) (H : Type) (enc : TypeId × Value → H) :
    ReturnsInHanded {} Try.checked os 3 .any (Rows.shelfSaysSpec.pre6 enc Try.prog Try.f3 Rows.shelfSaysRow.domain false) (Rows.shelfSaysSpec.post enc Try.prog Try.f3 false true false false) := by
  refine returnsInHanded_of_change_sized (C := Try.checked) own started (by kernel_rfl) Try.func3
    (ChangeSpec.witness6 (enc := enc) (C := Try.checked) false ⟨#[], #[.agg #[.slice none 0 0], .slice none 0 0, .int .i64 0, .int .i64 0, .agg #[.slice none 0 0]], []⟩ 8 (by kernel_rfl) (by kernel_rfl) (by kernel_rfl) (by kernel_rfl)) ?_
  intro W base args ds gs before hval0 hW hcnd hsz0 _
  have hsz : (DataW.weightsEach Try.prog (Try.f3.params.toList ++ Rows.shelfSaysSpec.plain.varTypes Try.prog) (ds ++ gs)).all (· ≤ reachBytes) = true := hsz0
  have hval : ∀ (j : Nat) t v, Try.f3.params[j]? = some t → args[j]? = some v → Value.okWide Try.prog W .any base t v := hval0
  have hW' := hW
  obtain ⟨p, q, hA0, hV, rfl, hfz, hnd⟩ := hW
  have hA : DataW.TrodAll enc Try.prog W 0 (fun _ => true) true Try.f3.params.toList args.toList ds p := hA0
  rw [Try.params3] at hA hval hsz
  obtain ⟨v0, vs0, d0, ds0, p0, q0, hargs, rfl, rfl, h0, r0⟩ := trodAll_cons hA
  obtain ⟨v1, vs1, d1, ds1, p1, q1, rfl, rfl, rfl, h1, r1⟩ := trodAll_cons r0
  obtain ⟨v2, vs2, d2, ds2, p2, q2, rfl, rfl, rfl, h2, r2⟩ := trodAll_cons r1
  obtain ⟨v3, vs3, d3, ds3, p3, q3, rfl, rfl, rfl, h3, r3⟩ := trodAll_cons r2
  obtain ⟨v4, vs4, d4, ds4, p4, q4, rfl, rfl, rfl, h4, r4⟩ := trodAll_cons r3
  obtain ⟨rfl, rfl, rfl⟩ := trodAll_nil r4
  obtain rfl : args = #[v0, v1, v2, v3, v4] := by cases args; simp_all
  obtain ⟨rfl, rfl⟩ := trodVars_none hV
  have k0 := h0
  have lt0 : ∀ x ∈ p0, x.block < W.heap.size := by obtain ⟨m, hm⟩ := k0; exact DataW.trod_lt m _ _ _ hm
  obtain ⟨l0, a0, cap0, rfl, s0, reach0⟩ := open_shelf (hval 0 24 v0 rfl rfl) h0 (light_of (j := 0) hsz rfl rfl)
  obtain ⟨a1, len1, cap1, rfl⟩ := okWide_slice Try.underlying25 (hval 1 25 v1 rfl rfl)
  have k1 := h1
  have lt1 : ∀ x ∈ p1, x.block < W.heap.size := by obtain ⟨m, hm⟩ := k1; exact DataW.trod_lt m _ _ _ hm
  obtain ⟨l1, rfl, s1, wf1, reach1⟩ := open_entries h1 (light_of (j := 1) hsz rfl rfl)
  obtain ⟨a2, rfl, rfl, rfl, w2⟩ := open_int Try.underlying3 (hval 2 3 v2 rfl rfl) h2
  obtain ⟨a3, rfl, rfl, rfl, w3⟩ := open_int Try.underlying3 (hval 3 3 v3 rfl rfl) h3
  have k4 := h4
  have lt4 : ∀ x ∈ p4, x.block < W.heap.size := by obtain ⟨m, hm⟩ := k4; exact DataW.trod_lt m _ _ _ hm
  obtain ⟨l4, a4, cap4, rfl, s4, reach4⟩ := open_shelf (hval 4 24 v4 rfl rfl) h4 (light_of (j := 4) hsz rfl rfl)
  clear hA0 hval0 hsz0
  refine (walk W a0 cap0 l0 s0 reach0 a1 cap1 l1 s1 wf1 reach1 a2 w2 a3 w3 a4 cap4 l4 s4 reach4).mono fun e W' ⟨he, bel⟩ => ?_
  subst he
  exact ⟨_, rfl, _, _, _, [], _, [], hW', trodAll_mk1 (shut_bool Try.underlying4 _), (trodAll_cons_mk (Below.trod laidOut (by kernel_rfl) (of_decide_eq_true (by kernel_rfl)) k0 bel lt0) (trodAll_cons_mk (Below.trod laidOut (by kernel_rfl) (of_decide_eq_true (by kernel_rfl)) k1 bel lt1) (trodAll_cons_mk (shut_int Try.underlying3 w2) (trodAll_cons_mk (shut_int Try.underlying3 w3) (trodAll_cons_mk (Below.trod laidOut (by kernel_rfl) (of_decide_eq_true (by kernel_rfl)) k4 bel lt4) trodAll_mk0))))), rfl, bel.frame _, fun h => by cases h⟩

theorem over : Rows.shelfSaysRow.holds Try.pinned (OpenSpec.ofChange Rows.shelfSaysSpec) :=
  OpenClaim.holds_of_wide 3 Try.f3 rfl rfl rfl rfl rfl rfl rfl ⟨rfl, rfl, rfl, rfl, rfl⟩ rfl rfl rfl rfl rfl (by kernel_rfl) Try.func3 (by kernel_rfl)
    (of_decide_eq_true (by kernel_rfl)) (by unfold Func.isWrapper; first | (rw [if_pos (by decide +kernel)]; kernel_rfl) | (rw [if_neg (by decide +kernel)]; exact ⟨rfl, rfl⟩))
    (fun os started H enc _ => lifted os started H enc)
end Go.Proofs.Ytgncadehaificaa.shelfSays

namespace Go.Proofs.Ytgncadehaificaa
theorem shelfSays_holds : Rows.ShelfSaysSaid := shelfSays.over
#print axioms shelfSays_holds
end Go.Proofs.Ytgncadehaificaa
