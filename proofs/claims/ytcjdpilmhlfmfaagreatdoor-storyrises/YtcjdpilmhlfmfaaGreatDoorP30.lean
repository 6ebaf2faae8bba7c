/-
  store.Replay: what the records of a whole log make of a new shelf.
-/
import Derived.Deep.RegionHeld3
import Derived.Deep.Cut
import Derived.Deep.CutRange
import Derived.Test.YtcjdpilmhlfmfaaGreatDoorP29
import Derived.Test.YtcjdpilmhlfmfaaGreatDoorP10
import Derived.Test.YtcjdpilmhlfmfaaGreatDoorP08
namespace Go.Proofs.YtcjdpilmhlfmfaaGreatDoor
open Go.RowKit

theorem repl_many {R : List Rc} (h : 60 < R.length) : replE R = 2 ∧ replL R = [] := ⟨if_pos h, if_pos h⟩
theorem repl_few {R : List Rc} (h : ¬ 60 < R.length) : replE R = (workAll newS R).2 ∧ replL R = (workAll newS R).1 := ⟨if_neg h, if_neg h⟩

theorem work_take {R : List Rc} {k : Nat} {C : List Rw} {x : Rc} (h : workAll newS (R.take k) = (C, 0)) (hx : R[k]? = some x) :
    (nextE C x = 0 → workAll newS (R.take (k + 1)) = (nextL C x, 0)) ∧ (nextE C x ≠ 0 → workAll newS R = ([], nextE C x)) := by
  have h1 : (workAll newS (R.take k)).1 = C := by rw [h]
  have h2 : (workAll newS (R.take k)).2 = 0 := by rw [h]
  refine ⟨fun hz => ?_, fun hz => ?_⟩
  · rw [List.take_add_one, hx]
    have := workAll_snoc (R.take k) x newS h2
    rw [h1, if_pos hz] at this
    exact this
  · have hk : k < R.length := (List.getElem?_eq_some_iff.1 hx).1
    have e : R = R.take k ++ x :: R.drop (k + 1) := by
      conv => lhs; rw [← List.take_append_drop k R]
      rw [List.drop_eq_getElem_cons hk]
      have := (List.getElem?_eq_some_iff.1 hx).2
      rw [this]
    rw [e]
    have := workAll_stop (R.take k) (R.drop (k + 1)) x newS h2 (by rw [h1]; exact hz)
    rw [h1] at this
    exact this

theorem work_shelf {R : List Rc} {k : Nat} {C : List Rw} (h : workAll newS (R.take k) = (C, 0)) : shelfE C = 0 := by
  have := workAll_right (R.take k) newS fresh_right (by rw [h])
  rwa [h] at this

end Go.Proofs.YtcjdpilmhlfmfaaGreatDoor

/-
  store.Next and store.Replay: what they make lies in memory of the call's own, as far as heads go.
-/
namespace Go.Proofs.YtcjdpilmhlfmfaaGreatDoor
open Go.RowKit

/-- A shelf whose heads lie in memory from base on. -/
structure IsSL (base : Nat) (W : World) (a : Option Addr) (G : Nat) (C : List Rw) : Prop where
  ex : ∃ rs : List Lr, rs.map Lr.rw = C ∧ SlR W a G rs ∧ HdLo base rs

theorem IsSL.is {base : Nat} {W : World} {a : Option Addr} {G : Nat} {C : List Rw} (h : IsSL base W a G C) : IsS W a G C := by
  obtain ⟨rs, e, s, _⟩ := h.ex
  exact ⟨rs, e, s⟩

theorem IsSL.down {base base' : Nat} {W : World} {a : Option Addr} {G : Nat} {C : List Rw} (h : IsSL base W a G C) (hb : base' ≤ base) : IsSL base' W a G C := by
  obtain ⟨rs, e, s, l⟩ := h.ex
  exact ⟨rs, e, s, l.mono hb⟩

theorem IsSL.call {base : Nat} {W W' : World} {a : Option Addr} {G : Nat} {C : List Rw} (h : IsSL base W a G C) (hb : Below W.heap.size W W') : IsSL base W' a G C := by
  obtain ⟨rs, e, s, l⟩ := h.ex
  exact ⟨rs, e, s.call hb, l⟩

theorem IsSL.alloc {base : Nat} {W : World} {a : Option Addr} {G : Nat} {C : List Rw} (h : IsSL base W a G C) (o : Obj) : IsSL base (W.alloc o) a G C := by
  obtain ⟨rs, e, s, l⟩ := h.ex
  exact ⟨rs, e, s.alloc o, l⟩

theorem IsSL.nul (base : Nat) (w : World) : IsSL base w none 0 [] := ⟨[], rfl, ⟨⟨.inl rfl, Nat.le_refl _, by decide, fun _ => rfl⟩, fun r hr => (by cases hr)⟩, HdLo.nil _⟩

theorem IsSL.boxed {base : Nat} {w : World} {a : Option Addr} {G g : Nat} {C : List Rw} {a1 : Option Addr} {n1 c1 : Nat} (h : IsSL base w a G C) (B : Blk w g [.slice a1 n1 c1] 24) (u : Value) : IsSL base (w.setCell ⟨g, 0, none⟩ u) a G C := by
  obtain ⟨rs, rfl, s, l⟩ := h.ex
  cases rs with
  | nil => exact ⟨[], rfl, ⟨⟨.inl rfl, s.sl.le, s.sl.max, s.sl.nil⟩, fun r hr => (by cases hr)⟩, l⟩
  | cons x q =>
    have grow := grownSet (grownRefl w (some g)) 0 u
    have hl := flat_length Lr.two (x :: q)
    exact ⟨x :: q, rfl, ⟨⟨s.sl.row.off grow (s.sl.row.offOne B (by rw [hl]; simp only [List.length_cons]; omega)), s.sl.le, s.sl.max, s.sl.nil⟩, fun r hr => (s.good r hr).offSl grow B (onlyOne _ _ _)⟩, l⟩

def MakesO (E : Int) (C : List Rw) (W : World) (e : Ending) (w' : World) : Prop :=
  ∃ a' G', e = .returned (.tuple #[.agg #[.slice a' C.length G'], .int .i64 E]) ∧ IsSL W.heap.size w' a' G' C ∧ Below W.heap.size W w'

theorem makesO_of {E : Int} {C : List Rw} {W : World} {e : Ending} {w' : World} (h : ∃ rs a' G, e = .returned (.tuple #[.agg #[.slice a' rs.length G], .int .i64 E]) ∧ rs.map Lr.rw = C ∧ SlR w' a' G rs ∧ HdLo W.heap.size rs ∧ Below W.heap.size W w') : MakesO E C W e w' := by
  obtain ⟨rs, a', G, he, rfl, s, l, b⟩ := h
  exact ⟨a', G, by rw [he, List.length_map], ⟨rs, rfl, s, l⟩, b⟩

theorem put_own {C : List Rw} {a : Option Addr} {G : Nat} {W : World} (L : List En) (la : Option Addr) (lc : Nat) (h : IsS W a G C) (hL : SlW En.cells W la lc L) (few : L.length ≤ 140737488355328) :
    Calls Tryz.prog 116 #[.agg #[.slice a C.length G], .slice la L.length lc] W (MakesO (chE C (bputE C L)) (chL C (bputE C L) (bputL C L)) W) := by
  obtain ⟨rs, rfl, t⟩ := h.ex
  rw [List.length_map]
  exact (sPut_own rs a G L la lc W t hL few).mono fun e w' h => makesO_of h

theorem seal_own {C : List Rw} {a : Option Addr} {G : Nat} {W : World} (s n : Int) (h : IsS W a G C) :
    Calls Tryz.prog 117 #[.agg #[.slice a C.length G], .int .i64 s, .int .i64 n] W (MakesO (chE C (sealE C s n)) (chL C (sealE C s n) (sealL C s n)) W) := by
  obtain ⟨rs, rfl, t⟩ := h.ex
  rw [List.length_map]
  exact (sSeal_own rs a G s n W t).mono fun e w' h => makesO_of h

theorem merge_own {C : List Rw} {a : Option Addr} {G : Nat} {W : World} (s n : Int) (h : IsS W a G C) :
    Calls Tryz.prog 118 #[.agg #[.slice a C.length G], .int .i64 s, .int .i64 n] W (MakesO (chE C (mrgE C s n)) (chL C (mrgE C s n) (mrgL C s n)) W) := by
  obtain ⟨rs, rfl, t⟩ := h.ex
  rw [List.length_map]
  exact (sMerge_own rs a G s n W t).mono fun e w' h => makesO_of h

theorem drop_own {C : List Rw} {a : Option Addr} {G : Nat} {W : World} (n : Int) (h : IsS W a G C) :
    Calls Tryz.prog 119 #[.agg #[.slice a C.length G], .int .i64 n] W (MakesO (chE C (dropE n)) (chL C (dropE n) (dropL C n)) W) := by
  obtain ⟨rs, rfl, t⟩ := h.ex
  rw [List.length_map]
  exact (sDrop_own rs a G n W t).mono fun e w' h => makesO_of h

def MkO (E : Int) (D : List Rw) (dn : Nat) (W : World) (e : Ending) (w' : World) : Prop :=
  ∃ a' G', e = .returned (.tuple #[.agg #[.slice a' dn G'], .int .i64 E]) ∧ IsSL W.heap.size w' a' G' D ∧ Below W.heap.size W w'

theorem mkO_of {E : Int} {D : List Rw} {dn : Nat} {W : World} {f : Nat} {args : Array Value} (hd : Hid (dn = D.length)) (c : Calls Tryz.prog f args W (MakesO E D W)) : Calls Tryz.prog f args W (MkO E D dn W) := by
  obtain rfl := hd.out
  exact c

theorem new_own (W : World) :
    Calls Tryz.prog 68 #[] W fun e w' => ∃ a' G', e = .returned (.agg #[.slice a' 4 G']) ∧ IsSL W.heap.size w' a' G' freshL ∧ Below W.heap.size W w' := by
  refine (sNew_any W).mono ?_
  rintro e w' ⟨a', G', rfl, s, b⟩
  exact ⟨a', G', rfl, ⟨_, rfl, s, fun r hr ad e => by
    simp only [fresh4, List.mem_cons, List.not_mem_nil, or_false, or_self] at hr
    subst hr
    cases e⟩, b⟩

set_option maxHeartbeats 2000000 in
set_option maxRecDepth 100000 in
theorem next_own (C : List Rw) (r : Rc) (a a3 : Option Addr) (G c3 n3 cn dn : Nat) (w : World) (h : IsS w a G C) (s3 : SlW ec w a3 c3 r.e) (h3 : Hid (n3 = r.e.length)) (hcn : Hid (cn = C.length)) (hdn : Hid (dn = (nextL C r).length)) :
    Calls Tryz.prog 76 #[.agg #[.slice a cn G], .agg #[.int .i64 r.k, .int .i64 r.s, .int .i64 r.n, .slice a3 n3 c3]] w (MkO (nextE C r) (nextL C r) dn w) := by
  have bel := newB (newB (newB (Below.refl w.heap.size w) (.cells #[.slice a cn G] 24)) (.cells #[.int .i64 r.k, .int .i64 r.s, .int .i64 r.n, .slice a3 n3 c3] 66)) (.cells #[.slice none 0 0] 24)
  have B1 := ((Blk.laid w [.slice a cn G] 24 _ rfl).alc (.cells #[.int .i64 r.k, .int .i64 r.s, .int .i64 r.n, .slice a3 n3 c3] 66)).alc (.cells #[.slice none 0 0] 24)
  have B2 := (Blk.laid (w.alloc (.cells #[.slice a cn G] 24)) [.int .i64 r.k, .int .i64 r.s, .int .i64 r.n, .slice a3 n3 c3] 66 (w.heap.size + 1) (by simp)).alc (.cells #[.slice none 0 0] 24)
  have B3 := Blk.laid ((w.alloc (.cells #[.slice a cn G] 24)).alloc (.cells #[.int .i64 r.k, .int .i64 r.s, .int .i64 r.n, .slice a3 n3 c3] 66)) [.slice none 0 0] 24 (w.heap.size + 1 + 1) (by simp)
  have S := h.keep bel (Nat.le_refl _)
  have S3 := s3.keep bel (Nat.le_refl _)
  have cC := fun W (h : IsS W a G C) => shCheck_is h
  have cN := fun W (s : SlW ec W a3 c3 r.e) => check_is r a3 c3 n3 W s h3.out
  rw [← hcn.out] at cC
  by_cases hz : shelfE C = 0
  · by_cases hr : recE r = 0
    · obtain ⟨g1, g2, g3, g4, g5⟩ := ch_good hz
      have hE : nextE C r = workE C r := by unfold nextE; rw [if_neg (by simp [hz]), if_neg (by simp [hr])]
      have hL : nextL C r = workL C r := by unfold nextL; rw [if_neg (by simp [hz]), if_neg (by simp [hr])]
      have few := few_rec hr
      have cP := fun W (h : IsS W a G C) (t : SlW ec W a3 c3 r.e) => put_own (enL r.e) a3 c3 h (slEn t) (by rw [enL_len]; omega)
      have cS := fun W (h : IsS W a G C) => seal_own r.s r.n h
      have cM := fun W (h : IsS W a G C) => merge_own r.s r.n h
      have cD := fun W (h : IsS W a G C) => drop_own r.n h
      simp only [g1, g2, g3, g4, g5, enL_len] at cP cS cM cD
      rw [← hcn.out] at cP cS cM cD
      rw [← h3.out] at cP
      rw [hz] at cC
      rw [hr] at cN
      obtain ⟨w1, w2, w3, w4⟩ := work_of C r
      have kd := kind_rec hr
      rw [← hE, ← hL] at w1 w2 w3 w4
      obtain ⟨K, s', m', l⟩ := r
      simp only at *
      generalize nextE C ⟨K, s', m', l⟩ = E at *
      generalize nextL C ⟨K, s', m', l⟩ = D at *
      clear hE hL g1 g2 g3 g4 g5 hr hz
      rcases kd with rfl | rfl | rfl | rfl
      · obtain ⟨w5, w6⟩ := w1 rfl
        rw [← w5, ← w6] at cP
        clear w1 w2 w3 w4 w5 w6 cS cM cD
        go_enter Tryz.func76, Tryz.ntmps76
        go_upto_region 1 with fail
        generalize World.alloc (World.alloc (World.alloc w _) _) _ = wa at *
        have b10 := B1.cell 0
        have b1l := B1.lt
        go_wp2_with fail
        go_at_call 77
        refine (cC _ S).mono ?_
        rintro e wb ⟨rfl, bb⟩
        clear b10 b1l
        replace B1 := B1.keep bb B1.lt
        replace B2 := B2.keep bb B2.lt
        replace B3 := B3.keep bb B3.lt
        replace S := S.call bb
        replace S3 := S3.call bb
        replace bel := belowCall bel bb
        clear bb
        have b20 := B2.cell 0
        have b21 := B2.cell 1
        have b22 := B2.cell 2
        have b23 := B2.cell 3
        have b2l := B2.lt
        go_wp2_with fail
        go_at_call 115
        refine (cN _ S3).mono ?_
        rintro e wc ⟨rfl, bb⟩
        clear b20 b21 b22 b23 b2l
        replace B1 := B1.keep bb B1.lt
        replace B2 := B2.keep bb B2.lt
        replace B3 := B3.keep bb B3.lt
        replace S := S.call bb
        replace S3 := S3.call bb
        replace bel := belowCall bel bb
        clear bb
        have b10 := B1.cell 0
        have b1l := B1.lt
        have b20 := B2.cell 0
        have b21 := B2.cell 1
        have b22 := B2.cell 2
        have b23 := B2.cell 3
        have b2l := B2.lt
        go_wp2_with fail
        go_at_call 116
        refine (mkO_of hdn (cP _ S S3)).mono ?_
        rintro e wd ⟨a', G', rfl, I, bb⟩
        replace I := I.down bel.size
        clear b10 b1l b20 b21 b22 b23 b2l
        replace B3 := B3.keep bb B3.lt
        replace bel := belowCall bel bb
        clear bb
        have b30 := B3.cell 0
        have b3l := B3.lt
        have f0 := B3.free 0
        go_wp2_with fail
        have B9 := B3.set 0 (.slice a' dn G')
        have bel9 := bel.setCell (p := ⟨w.heap.size + 1 + 1, 0, none⟩) (Nat.le_trans (Nat.le_succ _) (Nat.le_succ _)) (.slice a' dn G')
        have I9 := IsSL.boxed (I) B3 (.slice a' dn G')
        have i0 := B9.cell 0
        exact bodyPost_ret (v := .tuple #[.agg #[.slice a' dn G'], .int .i64 E]) (by simp [results, Tryz.results76, go_sem, i0]) rfl ⟨_, _, rfl, I9, bel9⟩
      · obtain ⟨w5, w6⟩ := w2 rfl
        rw [← w5, ← w6] at cS
        clear w1 w2 w3 w4 w5 w6 cP cM cD
        go_enter Tryz.func76, Tryz.ntmps76
        go_upto_region 1 with fail
        generalize World.alloc (World.alloc (World.alloc w _) _) _ = wa at *
        have b10 := B1.cell 0
        have b1l := B1.lt
        go_wp2_with fail
        go_at_call 77
        refine (cC _ S).mono ?_
        rintro e wb ⟨rfl, bb⟩
        clear b10 b1l
        replace B1 := B1.keep bb B1.lt
        replace B2 := B2.keep bb B2.lt
        replace B3 := B3.keep bb B3.lt
        replace S := S.call bb
        replace S3 := S3.call bb
        replace bel := belowCall bel bb
        clear bb
        have b20 := B2.cell 0
        have b21 := B2.cell 1
        have b22 := B2.cell 2
        have b23 := B2.cell 3
        have b2l := B2.lt
        go_wp2_with fail
        go_at_call 115
        refine (cN _ S3).mono ?_
        rintro e wc ⟨rfl, bb⟩
        clear b20 b21 b22 b23 b2l
        replace B1 := B1.keep bb B1.lt
        replace B2 := B2.keep bb B2.lt
        replace B3 := B3.keep bb B3.lt
        replace S := S.call bb
        replace S3 := S3.call bb
        replace bel := belowCall bel bb
        clear bb
        have b10 := B1.cell 0
        have b1l := B1.lt
        have b20 := B2.cell 0
        have b21 := B2.cell 1
        have b22 := B2.cell 2
        have b23 := B2.cell 3
        have b2l := B2.lt
        go_wp2_with fail
        go_at_call 117
        refine (mkO_of hdn (cS _ S)).mono ?_
        rintro e wd ⟨a', G', rfl, I, bb⟩
        replace I := I.down bel.size
        clear b10 b1l b20 b21 b22 b23 b2l
        replace B3 := B3.keep bb B3.lt
        replace bel := belowCall bel bb
        clear bb
        have b30 := B3.cell 0
        have b3l := B3.lt
        have f0 := B3.free 0
        go_wp2_with fail
        have B9 := B3.set 0 (.slice a' dn G')
        have bel9 := bel.setCell (p := ⟨w.heap.size + 1 + 1, 0, none⟩) (Nat.le_trans (Nat.le_succ _) (Nat.le_succ _)) (.slice a' dn G')
        have I9 := IsSL.boxed (I) B3 (.slice a' dn G')
        have i0 := B9.cell 0
        exact bodyPost_ret (v := .tuple #[.agg #[.slice a' dn G'], .int .i64 E]) (by simp [results, Tryz.results76, go_sem, i0]) rfl ⟨_, _, rfl, I9, bel9⟩
      · obtain ⟨w5, w6⟩ := w3 rfl
        rw [← w5, ← w6] at cM
        clear w1 w2 w3 w4 w5 w6 cP cS cD
        go_enter Tryz.func76, Tryz.ntmps76
        go_upto_region 1 with fail
        generalize World.alloc (World.alloc (World.alloc w _) _) _ = wa at *
        have b10 := B1.cell 0
        have b1l := B1.lt
        go_wp2_with fail
        go_at_call 77
        refine (cC _ S).mono ?_
        rintro e wb ⟨rfl, bb⟩
        clear b10 b1l
        replace B1 := B1.keep bb B1.lt
        replace B2 := B2.keep bb B2.lt
        replace B3 := B3.keep bb B3.lt
        replace S := S.call bb
        replace S3 := S3.call bb
        replace bel := belowCall bel bb
        clear bb
        have b20 := B2.cell 0
        have b21 := B2.cell 1
        have b22 := B2.cell 2
        have b23 := B2.cell 3
        have b2l := B2.lt
        go_wp2_with fail
        go_at_call 115
        refine (cN _ S3).mono ?_
        rintro e wc ⟨rfl, bb⟩
        clear b20 b21 b22 b23 b2l
        replace B1 := B1.keep bb B1.lt
        replace B2 := B2.keep bb B2.lt
        replace B3 := B3.keep bb B3.lt
        replace S := S.call bb
        replace S3 := S3.call bb
        replace bel := belowCall bel bb
        clear bb
        have b10 := B1.cell 0
        have b1l := B1.lt
        have b20 := B2.cell 0
        have b21 := B2.cell 1
        have b22 := B2.cell 2
        have b23 := B2.cell 3
        have b2l := B2.lt
        go_wp2_with fail
        go_at_call 118
        refine (mkO_of hdn (cM _ S)).mono ?_
        rintro e wd ⟨a', G', rfl, I, bb⟩
        replace I := I.down bel.size
        clear b10 b1l b20 b21 b22 b23 b2l
        replace B3 := B3.keep bb B3.lt
        replace bel := belowCall bel bb
        clear bb
        have b30 := B3.cell 0
        have b3l := B3.lt
        have f0 := B3.free 0
        go_wp2_with fail
        have B9 := B3.set 0 (.slice a' dn G')
        have bel9 := bel.setCell (p := ⟨w.heap.size + 1 + 1, 0, none⟩) (Nat.le_trans (Nat.le_succ _) (Nat.le_succ _)) (.slice a' dn G')
        have I9 := IsSL.boxed (I) B3 (.slice a' dn G')
        have i0 := B9.cell 0
        exact bodyPost_ret (v := .tuple #[.agg #[.slice a' dn G'], .int .i64 E]) (by simp [results, Tryz.results76, go_sem, i0]) rfl ⟨_, _, rfl, I9, bel9⟩
      · obtain ⟨w5, w6⟩ := w4 rfl
        rw [← w5, ← w6] at cD
        clear w1 w2 w3 w4 w5 w6 cP cS cM
        go_enter Tryz.func76, Tryz.ntmps76
        go_upto_region 1 with fail
        generalize World.alloc (World.alloc (World.alloc w _) _) _ = wa at *
        have b10 := B1.cell 0
        have b1l := B1.lt
        go_wp2_with fail
        go_at_call 77
        refine (cC _ S).mono ?_
        rintro e wb ⟨rfl, bb⟩
        clear b10 b1l
        replace B1 := B1.keep bb B1.lt
        replace B2 := B2.keep bb B2.lt
        replace B3 := B3.keep bb B3.lt
        replace S := S.call bb
        replace S3 := S3.call bb
        replace bel := belowCall bel bb
        clear bb
        have b20 := B2.cell 0
        have b21 := B2.cell 1
        have b22 := B2.cell 2
        have b23 := B2.cell 3
        have b2l := B2.lt
        go_wp2_with fail
        go_at_call 115
        refine (cN _ S3).mono ?_
        rintro e wc ⟨rfl, bb⟩
        clear b20 b21 b22 b23 b2l
        replace B1 := B1.keep bb B1.lt
        replace B2 := B2.keep bb B2.lt
        replace B3 := B3.keep bb B3.lt
        replace S := S.call bb
        replace S3 := S3.call bb
        replace bel := belowCall bel bb
        clear bb
        have b10 := B1.cell 0
        have b1l := B1.lt
        have b20 := B2.cell 0
        have b21 := B2.cell 1
        have b22 := B2.cell 2
        have b23 := B2.cell 3
        have b2l := B2.lt
        go_wp2_with fail
        go_at_call 119
        refine (mkO_of hdn (cD _ S)).mono ?_
        rintro e wd ⟨a', G', rfl, I, bb⟩
        replace I := I.down bel.size
        clear b10 b1l b20 b21 b22 b23 b2l
        replace B3 := B3.keep bb B3.lt
        replace bel := belowCall bel bb
        clear bb
        have b30 := B3.cell 0
        have b3l := B3.lt
        have f0 := B3.free 0
        go_wp2_with fail
        have B9 := B3.set 0 (.slice a' dn G')
        have bel9 := bel.setCell (p := ⟨w.heap.size + 1 + 1, 0, none⟩) (Nat.le_trans (Nat.le_succ _) (Nat.le_succ _)) (.slice a' dn G')
        have I9 := IsSL.boxed (I) B3 (.slice a' dn G')
        have i0 := B9.cell 0
        exact bodyPost_ret (v := .tuple #[.agg #[.slice a' dn G'], .int .i64 E]) (by simp [results, Tryz.results76, go_sem, i0]) rfl ⟨_, _, rfl, I9, bel9⟩
    · have hE : nextE C r = recE r := by unfold nextE; rw [if_neg (by simp [hz]), if_pos hr]
      have hD : nextL C r = [] := next_bad (by rw [hE]; exact hr)
      have hzd : decide (recE r = 0) = false := decide_eq_false hr
      rw [hz] at cC
      rw [hD] at hdn ⊢
      rw [hE]
      obtain rfl : dn = 0 := hdn.out
      generalize recE r = E at *
      obtain ⟨K, s', m', l⟩ := r
      simp only at *
      clear hE hD hdn hz
      go_enter Tryz.func76, Tryz.ntmps76
      go_upto_region 1 with fail
      generalize World.alloc (World.alloc (World.alloc w _) _) _ = wa at *
      have b10 := B1.cell 0
      have b1l := B1.lt
      go_wp2_with fail
      go_at_call 77
      refine (cC _ S).mono ?_
      rintro e wb ⟨rfl, bb⟩
      clear b10 b1l
      replace B1 := B1.keep bb B1.lt
      replace B2 := B2.keep bb B2.lt
      replace B3 := B3.keep bb B3.lt
      replace S := S.call bb
      replace S3 := S3.call bb
      replace bel := belowCall bel bb
      clear bb
      have b20 := B2.cell 0
      have b21 := B2.cell 1
      have b22 := B2.cell 2
      have b23 := B2.cell 3
      have b2l := B2.lt
      go_wp2_with fail
      go_at_call 115
      refine (cN _ S3).mono ?_
      rintro e wc ⟨rfl, bb⟩
      clear b20 b21 b22 b23 b2l
      replace B1 := B1.keep bb B1.lt
      replace B2 := B2.keep bb B2.lt
      replace B3 := B3.keep bb B3.lt
      replace S := S.call bb
      replace S3 := S3.call bb
      replace bel := belowCall bel bb
      clear bb
      have b30 := B3.cell 0
      have b3l := B3.lt
      have f0 := B3.free 0
      go_wp2_with fail
      have B9 := B3.set 0 (.slice none 0 0)
      have bel9 := bel.setCell (p := ⟨w.heap.size + 1 + 1, 0, none⟩) (Nat.le_trans (Nat.le_succ _) (Nat.le_succ _)) (.slice none 0 0)
      have I9 := IsSL.boxed (IsSL.nul w.heap.size _) B3 (.slice none 0 0)
      have i0 := B9.cell 0
      exact bodyPost_ret (v := .tuple #[.agg #[.slice none 0 0], .int .i64 E]) (by simp [results, Tryz.results76, go_sem, i0]) rfl ⟨_, _, rfl, I9, bel9⟩
  · have hE : nextE C r = shelfE C := if_pos hz
    have hD : nextL C r = [] := if_pos hz
    have hzd : decide (shelfE C = 0) = false := decide_eq_false hz
    rw [hD] at hdn ⊢
    rw [hE]
    obtain rfl : dn = 0 := hdn.out
    generalize shelfE C = E at *
    obtain ⟨K, s', m', l⟩ := r
    simp only at *
    clear hE hD hdn
    go_enter Tryz.func76, Tryz.ntmps76
    go_upto_region 1 with fail
    generalize World.alloc (World.alloc (World.alloc w _) _) _ = wa at *
    have b10 := B1.cell 0
    have b1l := B1.lt
    go_wp2_with fail
    go_at_call 77
    refine (cC _ S).mono ?_
    rintro e wb ⟨rfl, bb⟩
    clear b10 b1l
    replace B1 := B1.keep bb B1.lt
    replace B2 := B2.keep bb B2.lt
    replace B3 := B3.keep bb B3.lt
    replace S := S.call bb
    replace S3 := S3.call bb
    replace bel := belowCall bel bb
    clear bb
    have b30 := B3.cell 0
    have b3l := B3.lt
    have f0 := B3.free 0
    go_wp2_with fail
    have B9 := B3.set 0 (.slice none 0 0)
    have bel9 := bel.setCell (p := ⟨w.heap.size + 1 + 1, 0, none⟩) (Nat.le_trans (Nat.le_succ _) (Nat.le_succ _)) (.slice none 0 0)
    have I9 := IsSL.boxed (IsSL.nul w.heap.size _) B3 (.slice none 0 0)
    have i0 := B9.cell 0
    exact bodyPost_ret (v := .tuple #[.agg #[.slice none 0 0], .int .i64 E]) (by simp [results, Tryz.results76, go_sem, i0]) rfl ⟨_, _, rfl, I9, bel9⟩

set_option maxHeartbeats 2000000 in
set_option maxRecDepth 100000 in
theorem replay_own (l : List Lrc) (la : Option Addr) (n c dn : Nat) (w : World) (S : SlRec w la c l) (hn : Hid (n = l.length)) (hdn : Hid (dn = (replL (l.map (·.r))).length)) :
    Calls Tryz.prog 37 #[.slice la n c] w (MkO (replE (l.map (·.r))) (replL (l.map (·.r))) dn w) := by
  have hmax := S.row.max
  have hle := S.row.le
  have hnc : n ≤ c := by rw [hn.out]; exact hle
  obtain ⟨R, hR⟩ : ∃ R, R = l.map (·.r) := ⟨_, rfl⟩
  have hRl : R.length = n := by rw [hR, List.length_map, hn.out]
  rw [← hR] at hdn ⊢
  have BR := Blk.laid w [.slice none 0 0] 24 _ rfl
  have bel := newB (Below.refl w.heap.size w) (.cells #[.slice none 0 0] 24)
  by_cases hm : 60 < n
  · have hm' : (60 : Int) < n := by omega
    obtain ⟨e1, e2⟩ := repl_many (R := R) (by omega)
    rw [e2] at hdn ⊢
    rw [e1]
    obtain rfl : dn = 0 := hdn.out
    clear hdn e1 e2 hR hRl hmax hle
    go_enter Tryz.func37, Tryz.ntmps37
    go_upto_region 1 with fail
    generalize World.alloc w _ = w1 at *
    have x0 := BR.cell 0
    have f0 := BR.free 0
    have xl := BR.lt
    go_wp2_with fail
    have B9 := BR.set 0 (.slice none 0 0)
    have bel9 := bel.setCell (p := ⟨w.heap.size, 0, none⟩) (Nat.le_refl _) (.slice none 0 0)
    have I9 := (IsSL.nul w.heap.size w1).boxed BR (.slice none 0 0)
    have i0 := B9.cell 0
    exact bodyPost_ret (v := .tuple #[.agg #[.slice none 0 0], .int .i64 2]) (by simp [results, Tryz.results37, go_sem, i0]) rfl ⟨_, _, rfl, I9, bel9⟩
  · have hm' : ¬ (60 : Int) < n := by omega
    obtain ⟨e1, e2⟩ := repl_few (R := R) (by omega)
    rw [e2] at hdn ⊢
    rw [e1]
    have hn60 : n ≤ 60 := by omega
    have hxR : ∀ (k : Nat) (x : Lrc), l[k]? = some x → R[k]? = some x.r := by
      intro k x hx
      rw [hR, List.getElem?_map, hx]
      rfl
    clear e1 e2 hmax hle
    generalize hEE : (workAll newS R).2 = EE at *
    generalize hDD : (workAll newS R).1 = DD at *
    replace hEE := hide hEE
    replace hDD := hide hDD
    replace hR := hide hR
    replace hRl := hide hRl
    go_enter Tryz.func37, Tryz.ntmps37
    go_upto_region 1 with fail
    generalize World.alloc w _ = w1 at *
    go_wp2_with fail
    go_at_call 68
    refine (new_own _).mono ?_
    rintro e w2 ⟨aN, GN, rfl, IN, b2⟩
    replace IN := IN.down bel.size
    have BS := Blk.laid w2 [.slice aN 4 GN] 24 _ rfl
    have bq := newB b2 (.cells #[.slice aN 4 GN] 24)
    have IN2 := IN.alloc (.cells #[.slice aN 4 GN] 24)
    have lgS : w.heap.size < w2.heap.size := Nat.lt_of_lt_of_le BR.lt b2.size
    replace BR := BR.keep bq BR.lt
    replace bel := belowCall bel bq
    clear b2 bq IN
    go_upto_region 4 with fail
    generalize w2.heap.size = gS at *
    generalize World.alloc w2 _ = w3 at *
    go_wp2_with fail
    go_loopw [15] (fun i wr => ∃ (k : Nat) (aS : Option Addr) (cS : Nat) (C : List Rw), k ≤ n ∧ i = .int .i64 k ∧ Blk wr w.heap.size [.slice none 0 0] 24 ∧ Blk wr gS [.slice aS 4 cS] 24 ∧ IsSL w.heap.size wr aS cS C ∧ Hid (workAll newS (R.take k) = (C, 0)) ∧ Below w.heap.size w wr) (fun i _ => n - (intOf i).toNat)
    case atStart => exact ⟨0, aN, GN, newS, Nat.zero_le _, rfl, BR, BS, IN2, by simp [workAll, Hid], bel⟩
    case round =>
      clear BR BS IN2 bel
      obtain ⟨k, aS, cS, C, hk, rfl, BR, BS, I, hC, bel⟩ := hrel
      have hz := work_shelf hC.out
      have h4 := hide (right_len hz)
      by_cases hlt : k < n
      · have hkl : k < l.length := by rw [← hn.out]; exact hlt
        obtain ⟨x, hx⟩ : ∃ x, l[k]? = some x := ⟨_, List.getElem?_eq_getElem hkl⟩
        obtain ⟨lb, lo, rfl, hlb⟩ := S.row.where Lrc.four (by decide) (by intro h; subst h; simp at hkl)
        have S' := S.keep bel (Nat.le_refl _)
        have d0 := S'.row.cell Lrc.four k 0 x _ hx rfl
        have d1 := S'.row.cell Lrc.four k 1 x _ hx rfl
        have d2 := S'.row.cell Lrc.four k 2 x _ hx rfl
        have d3 := S'.row.cell Lrc.four k 3 x _ hx rfl
        simp only [Nat.add_zero] at d0
        have llb := Nat.lt_of_lt_of_le hlb bel.size
        have hent := S'.ent x (List.mem_of_getElem? hx)
        obtain ⟨wz, wb⟩ := work_take hC.out (hxR k x hx)
        obtain ⟨dk, hdk⟩ : ∃ d, Hid (d = (nextL C x.r).length) := ⟨_, hide rfl⟩
        have cN := fun W h t => next_own C x.r aS x.a cS x.c x.r.e.length 4 dk W h t (hide rfl) (hide h4.out.symm) hdk
        have BC := Blk.laid wr x.cells 66 _ rfl
        have bc := newB (Below.refl wr.heap.size wr) (.cells x.cells.toArray 66)
        have hent1 := hent.call bc
        have I1 := I.call bc
        replace BR := BR.keep bc BR.lt
        replace BS := BS.keep bc BS.lt
        have bel1 := bel.trans (bc.mono bel.size)
        have ly := right_len hz
        simp only [Lrc.cells] at BC bc hent1 I1 BR BS bel1
        replace hx := hide hx
        clear S' hkl hent I bc bel ly
        go_upto_region 7 with fail
        generalize wr.heap.size = gC at *
        generalize World.alloc wr _ = w4 at *
        have x0 := BC.cell 0
        have x1 := BC.cell 1
        have x2 := BC.cell 2
        have x3 := BC.cell 3
        have lC := BC.lt
        have y0 := BS.cell 0
        have lS := BS.lt
        go_wp2_with fail
        go_at_call 76
        refine (cN _ I1.is hent1).mono ?_
        rintro e w5 ⟨a', G', rfl, I5, b5⟩
        replace I5 := I5.down bel1.size
        clear x0 x1 x2 x3 lC y0 lS I1 hent1 cN BC
        replace BR := BR.keep b5 BR.lt
        replace BS := BS.keep b5 BS.lt
        replace bel1 := bel1.trans (b5.mono bel1.size)
        clear b5
        have y0 := BS.cell 0
        have f0 := BS.free 0
        have lS := BS.lt
        have BS6 := BS.set 0 (.slice a' dk G')
        have BR6 : Blk (w5.setCell ⟨gS, 0, none⟩ (.slice a' dk G')) w.heap.size [.slice none 0 0] 24 := BR.other 0 _ (by omega)
        have I6 := I5.boxed BS (.slice a' dk G')
        have bel6 := bel1.setCell (p := ⟨gS, 0, none⟩) (Nat.le_of_lt lgS) (.slice a' dk G')
        by_cases hE : nextE C x.r = 0
        · rw [hE]
          have hw := wz hE
          obtain rfl : dk = 4 := by rw [hdk.out]; exact right_len (next_right hE)
          clear wz wb
          go_wp2_with fail
          go_roundw
          case rel => exact ⟨k + 1, a', G', nextL C x.r, by omega, by go_num, BR6, BS6, I6, hide hw, bel6⟩
          case measure => simp [intOf]; omega
        · have hw := wb hE
          have hzd : decide (nextE C x.r = 0) = false := decide_eq_false hE
          generalize nextE C x.r = E at *
          obtain rfl : DD = [] := by rw [← hDD.out, hw]
          obtain rfl : EE = E := by rw [← hEE.out, hw]
          obtain rfl : dn = 0 := hdn.out
          clear wz wb hEE hDD hw
          go_upto_region 9 with fail
          clear y0 f0 lS BS I5 bel1 BR
          generalize World.setCell w5 _ _ = w6 at *
          have z0 := BR6.cell 0
          have f0 := BR6.free 0
          have lR := BR6.lt
          go_wp2_with fail
          have B9 := BR6.set 0 (.slice none 0 0)
          have bel9 := bel6.setCell (p := ⟨w.heap.size, 0, none⟩) (Nat.le_refl _) (.slice none 0 0)
          have I9 := (IsSL.nul w.heap.size w6).boxed BR6 (.slice none 0 0)
          have i0 := B9.cell 0
          exact bodyPost_ret (v := .tuple #[.agg #[.slice none 0 0], .int .i64 EE]) (by simp [results, Tryz.results37, go_sem, i0]) rfl ⟨_, _, rfl, I9, bel9⟩
      · obtain rfl : k = n := by omega
        have hw := hC.out
        rw [List.take_of_length_le (by rw [hRl.out]; exact Nat.le_refl _)] at hw
        obtain rfl : DD = C := by rw [← hDD.out, hw]
        obtain rfl : EE = 0 := by rw [← hEE.out, hw]
        obtain rfl : dn = 4 := hdn.out.trans h4.out
        clear hw hEE hDD
        have y0 := BS.cell 0
        have lS := BS.lt
        have z0 := BR.cell 0
        have f0 := BR.free 0
        have lR := BR.lt
        go_wp2_with fail
        have B9 := BR.set 0 (.slice aS 4 cS)
        have bel9 := bel.setCell (p := ⟨w.heap.size, 0, none⟩) (Nat.le_refl _) (.slice aS 4 cS)
        have I9 := I.boxed BR (.slice aS 4 cS)
        have i0 := B9.cell 0
        exact bodyPost_ret (v := .tuple #[.agg #[.slice aS 4 cS], .int .i64 0]) (by simp [results, Tryz.results37, go_sem, i0]) rfl ⟨_, _, rfl, I9, bel9⟩

end Go.Proofs.YtcjdpilmhlfmfaaGreatDoor

/-
  Slices of records, with their entries (RecLs holds them; package disk's list is one).
-/
namespace Go.Proofs.YtcjdpilmhlfmfaaGreatDoor
end Go.Proofs.YtcjdpilmhlfmfaaGreatDoor

/-
  A list of records of the call's own whose entries lie where they came in.
-/
namespace Go.Proofs.YtcjdpilmhlfmfaaGreatDoor
open Go.RowKit

end Go.Proofs.YtcjdpilmhlfmfaaGreatDoor

/-
  disk.Same, disk.Sync, disk.Crash: what they answer; nothing that was there is written.
-/
namespace Go.Proofs.YtcjdpilmhlfmfaaGreatDoor
open Go.RowKit
open Go.Lib (byteCells)

theorem put2 {w : World} {g : Nat} {c0 c1 : Value} {t : TypeId} (h : Blk w g [c0, c1] t) (u0 u1 : Value) : Blk ((w.setCell ⟨g, 0, none⟩ u0).setCell ⟨g, 1, none⟩ u1) g [u0, u1] t := (h.set 0 u0).set 1 u1

theorem below2s {B : Nat} {w W : World} (h : Below B w W) {g : Nat} (hg : B ≤ g) (u0 u1 : Value) : Below B w ((W.setCell ⟨g, 0, none⟩ u0).setCell ⟨g, 1, none⟩ u1) :=
  (h.setCell (p := ⟨g, 0, none⟩) hg u0).setCell (p := ⟨g, 1, none⟩) hg u1

/-- Bytes stay where a block of another kind is written. -/
theorem slU_set {w : World} {a : Option Addr} {cap g i : Nat} {l : List UInt8} {cs : List Value} {t : TypeId} (S : Sl w a cap (byteCells l)) (B : Blk w g cs t) (hk : ∀ c ∈ cs, ∀ b, c ≠ .int .u8 b) (v : Value) : Sl (w.setCell ⟨g, i, none⟩ v) a cap (byteCells l) := by
  obtain ⟨hr, h1, h2, h3⟩ := S
  refine ⟨?_, h1, h2, h3⟩
  rcases hr with h | ⟨b, off, e, hb, hc⟩
  · exact .inl h
  · by_cases hl : byteCells l = []
    · exact .inl hl
    · refine .inr ⟨b, off, e, by simpa using hb, fun j u hu => ?_⟩
      have hne : b ≠ g := by
        rintro rfl
        have hc0 := hc j u hu
        obtain ⟨x, hx, rfl⟩ : ∃ x, x ∈ l ∧ u = .int .u8 x.toNat := by
          have := List.mem_of_getElem? hu
          obtain ⟨x, hx, e⟩ := List.mem_map.1 this
          exact ⟨x, hx, e.symm⟩
        rw [B.cell] at hc0
        exact hk _ (List.mem_of_getElem? hc0) _ rfl
      rw [← hc j u hu]
      simp only [World.cell?]
      rw [heap_setCell_other w ⟨g, i, none⟩ b v hne]

/-- What the functions that answer a disk say. -/
def AnsD (w : World) (D : Dk) (E : Int) (e : Ending) (w' : World) : Prop :=
  ∃ (a1 a2 : Option Addr) (n1 n2 c1 c2 : Nat), e = .returned (.tuple #[.agg #[.slice a1 n1 c1, .slice a2 n2 c2], .int .i64 E]) ∧ n1 = D.safe.length ∧ n2 = D.wait.length ∧ Sl w' a1 c1 (byteCells D.safe) ∧ Sl w' a2 c2 (byteCells D.wait) ∧ Below w.heap.size w w'

theorem ans0 {w w' : World} {E : Int} (b : Below w.heap.size w w') : AnsD w dk0 E (.returned (.tuple #[.agg #[.slice none 0 0, .slice none 0 0], .int .i64 E])) w' :=
  ⟨none, none, 0, 0, 0, 0, rfl, rfl, rfl, Sl.ofNil _, Sl.ofNil _, b⟩

/-- Where bytes lie, there are bytes alone. -/
def BytB (w : World) (a : Option Addr) : Prop := ∀ ad, a = some ad → ∃ l, Blk w ad.block (byteCells l) 5

/-- The same, with where its bytes lie. -/
def AnsU (w : World) (D : Dk) (E : Int) (e : Ending) (w' : World) : Prop :=
  ∃ (a1 a2 : Option Addr) (n1 n2 c1 c2 : Nat), e = .returned (.tuple #[.agg #[.slice a1 n1 c1, .slice a2 n2 c2], .int .i64 E]) ∧ n1 = D.safe.length ∧ n2 = D.wait.length ∧ Sl w' a1 c1 (byteCells D.safe) ∧ Sl w' a2 c2 (byteCells D.wait) ∧ Below w.heap.size w w' ∧ BytB w' a1 ∧ BytB w' a2

theorem AnsU.d {w w' : World} {D : Dk} {E : Int} {e : Ending} (h : AnsU w D E e w') : AnsD w D E e w' := by
  obtain ⟨a1, a2, n1, n2, c1, c2, he, h1, h2, s1, s2, b, _, _⟩ := h
  exact ⟨a1, a2, n1, n2, c1, c2, he, h1, h2, s1, s2, b⟩

theorem ansU0 {w w' : World} {E : Int} (b : Below w.heap.size w w') : AnsU w dk0 E (.returned (.tuple #[.agg #[.slice none 0 0, .slice none 0 0], .int .i64 E])) w' :=
  ⟨none, none, 0, 0, 0, 0, rfl, rfl, rfl, Sl.ofNil _, Sl.ofNil _, b, (fun _ h => (by cases h)), (fun _ h => (by cases h))⟩

theorem slices_plain (a1 a2 : Option Addr) (n1 n2 c1 c2 : Nat) : ∀ c ∈ ([.slice a1 n1 c1, .slice a2 n2 c2] : List Value), ∀ b, c ≠ .int .u8 b := by
  intro c hc b
  simp only [List.mem_cons, List.not_mem_nil, or_false] at hc
  rcases hc with rfl | rfl <;> (intro h; cases h)

set_option maxHeartbeats 1000000 in
set_option maxRecDepth 100000 in
theorem sync_any (d : Dk) (a1 a2 : Option Addr) (c1 c2 n1 n2 : Nat) (w : World) (hg : Gl w) (s1 : Sl w a1 c1 (byteCells d.safe)) (s2 : Sl w a2 c2 (byteCells d.wait)) (h1 : n1 = d.safe.length) (h2 : n2 = d.wait.length) (few : n1 + n2 ≤ 9223372036854775807) :
    Calls Tryz.prog 139 #[.agg #[.slice a1 n1 c1, .slice a2 n2 c2]] w (AnsD w (syncD d) (syncE d)) := by
  have cC := fun W g s => dcheck_any d a1 a2 c1 c2 n1 n2 W g s h1 h2 few
  have B1 := (Blk.laid w [.slice a1 n1 c1, .slice a2 n2 c2] 27 _ rfl).alc (.cells #[.slice none 0 0, .slice none 0 0] 27)
  have B2 := Blk.laid (w.alloc (.cells #[.slice a1 n1 c1, .slice a2 n2 c2] 27)) [.slice none 0 0, .slice none 0 0] 27 (w.heap.size + 1) (by simp)
  have bel := newB (newB (Below.refl w.heap.size w) (.cells #[.slice a1 n1 c1, .slice a2 n2 c2] 27)) (.cells #[.slice none 0 0, .slice none 0 0] 27)
  have S1 := s1.keep bel (Nat.le_refl _)
  have S2 := s2.keep bel (Nat.le_refl _)
  have g := hg.call bel
  by_cases h0 : dkE d = 0
  · have few' : n1 + n2 ≤ 60000 := by
      have := h0
      unfold dkE at this
      split at this
      · cases this
      · rw [h1, h2]; omega
    have hE : syncE d = dkE ⟨d.safe ++ d.wait, []⟩ := if_neg (by simp [h0])
    have hD0 : syncE d ≠ 0 → syncD d = dk0 := fun h => if_neg h
    have hD1 : syncE d = 0 → syncD d = ⟨d.safe ++ d.wait, []⟩ := fun h => if_pos h
    have cJ := fun W s t => join_any a1 a2 c1 c2 n1 n2 d.safe d.wait W s t h1 h2 (by omega)
    have cK := fun gJ W g s => dcheck_any ⟨d.safe ++ d.wait, []⟩ (some ⟨gJ, 0, none⟩) none (n1 + n2) 0 (n1 + n2) 0 W g s (by rw [List.length_append, h1, h2]) rfl (by omega)
    have hJL : n1 + n2 = (d.safe ++ d.wait).length := by rw [List.length_append, h1, h2]
    rw [h0] at cC
    rw [← hE] at cK
    generalize syncE d = E at *
    generalize syncD d = D at *
    obtain ⟨N, hN⟩ : ∃ N, N = n1 + n2 := ⟨_, rfl⟩
    rw [← hN] at cK cJ hJL few'
    replace h1 := hide h1
    replace h2 := hide h2
    replace hN := hide hN
    replace hJL := hide hJL
    clear hE h0
    have x0 := B1.cell 0
    have x1 := B1.cell 1
    have l1 := B1.lt
    go_enter Tryz.func139, Tryz.ntmps139
    go_wp2_with fail
    generalize World.alloc (World.alloc w _) _ = w2 at *
    go_at_call 174
    refine (cC _ g S1).mono ?_
    rintro e w3 ⟨rfl, b3⟩
    clear x0 x1 l1
    replace B1 := B1.keep b3 B1.lt
    replace B2 := B2.keep b3 B2.lt
    replace S1 := S1.call b3
    replace S2 := S2.call b3
    replace g := g.call b3
    replace bel := belowCall bel b3
    have x0 := B1.cell 0
    have x1 := B1.cell 1
    have l1 := B1.lt
    go_wp2_with fail
    go_at_call 59
    refine (cJ _ S1 S2).mono ?_
    rintro e w4 ⟨rfl, BJ, b4⟩
    have SJ := ownBlkU BJ hJL.out (by omega)
    have B5 := Blk.laid w4 [.slice (some ⟨w3.heap.size, 0, none⟩) N N, .slice none 0 0] 27 _ rfl
    have bq := newB b4 (.cells #[.slice (some ⟨w3.heap.size, 0, none⟩) N N, .slice none 0 0] 27)
    replace SJ := SJ.alloc (.cells #[.slice (some ⟨w3.heap.size, 0, none⟩) N N, .slice none 0 0] 27)
    replace B2 := B2.keep bq B2.lt
    replace g := g.call bq
    replace bel := belowCall bel bq
    clear x0 x1 l1 b4 bq BJ B1 S1 S2
    go_upto_region 5 with fail
    generalize w3.heap.size = gJ at *
    generalize w4.heap.size = g5 at *
    generalize w4.alloc _ = w5 at *
    have x0 := B5.cell 0
    have x1 := B5.cell 1
    have l5 := B5.lt
    go_wp2_with fail
    go_at_call 174
    refine (cK _ _ g SJ).mono ?_
    rintro e w6 ⟨rfl, b6⟩
    clear x0 x1 l5
    replace B5 := B5.keep b6 B5.lt
    replace B2 := B2.keep b6 B2.lt
    replace SJ := SJ.call b6
    replace bel := belowCall bel b6
    have x0 := B5.cell 0
    have x1 := B5.cell 1
    have l5 := B5.lt
    have y0 := B2.cell 0
    have y1 := B2.cell 1
    have f0 := B2.free 0
    have f1 := B2.free 1
    have l2 := B2.lt
    by_cases hE0 : E = 0
    · obtain rfl := hD1 hE0
      subst hE0
      clear hD0 hD1
      go_wp2_with fail
      have B9 := put2 B2 (.slice (some ⟨gJ, 0, none⟩) N N) (.slice none 0 0)
      have bel9 := below2s bel (Nat.le_succ _) (.slice (some ⟨gJ, 0, none⟩) N N) (.slice none 0 0)
      have S9 := slU_set (i := 1) (slU_set (i := 0) SJ B2 (slices_plain _ _ _ _ _ _) (.slice (some ⟨gJ, 0, none⟩) N N)) (B2.set 0 (.slice (some ⟨gJ, 0, none⟩) N N)) (slices_plain _ _ _ _ _ _) (.slice none 0 0)
      have i0 := B9.cell 0
      have i1 := B9.cell 1
      exact bodyPost_ret (v := .tuple #[.agg #[.slice (some ⟨gJ, 0, none⟩) N N, .slice none 0 0], .int .i64 0]) (by simp [results, Tryz.results139, go_sem, i0, i1]) rfl ⟨_, none, N, 0, N, 0, rfl, hJL.out, rfl, S9, Sl.ofNil _, bel9⟩
    · obtain rfl := hD0 hE0
      have hd : decide (E = 0) = false := decide_eq_false hE0
      clear hD0 hD1
      go_wp2_with fail
      have B9 := put2 B2 (.slice none 0 0) (.slice none 0 0)
      have bel9 := below2s bel (Nat.le_succ _) (.slice none 0 0) (.slice none 0 0)
      have i0 := B9.cell 0
      have i1 := B9.cell 1
      exact bodyPost_ret (v := .tuple #[.agg #[.slice none 0 0, .slice none 0 0], .int .i64 E]) (by simp [results, Tryz.results139, go_sem, i0, i1]) rfl (ans0 bel9)
  · have hE : syncE d = dkE d := if_pos h0
    have hD : syncD d = dk0 := if_neg (by rw [hE]; exact h0)
    rw [hE, hD]
    have hd : decide (dkE d = 0) = false := decide_eq_false h0
    generalize dkE d = E at *
    replace h1 := hide h1
    replace h2 := hide h2
    clear hE hD
    have x0 := B1.cell 0
    have x1 := B1.cell 1
    have l1 := B1.lt
    go_enter Tryz.func139, Tryz.ntmps139
    go_wp2_with fail
    generalize World.alloc (World.alloc w _) _ = w2 at *
    go_at_call 174
    refine (cC _ g S1).mono ?_
    rintro e w3 ⟨rfl, b3⟩
    replace B2 := B2.keep b3 B2.lt
    replace bel := belowCall bel b3
    have y0 := B2.cell 0
    have y1 := B2.cell 1
    have f0 := B2.free 0
    have f1 := B2.free 1
    have l2 := B2.lt
    go_wp2_with fail
    have B9 := put2 B2 (.slice none 0 0) (.slice none 0 0)
    have bel9 := below2s bel (Nat.le_succ _) (.slice none 0 0) (.slice none 0 0)
    have i0 := B9.cell 0
    have i1 := B9.cell 1
    exact bodyPost_ret (v := .tuple #[.agg #[.slice none 0 0, .slice none 0 0], .int .i64 E]) (by simp [results, Tryz.results139, go_sem, i0, i1]) rfl (ans0 bel9)

end Go.Proofs.YtcjdpilmhlfmfaaGreatDoor

/-
  A frame some of whose places in a row are told by a function: how operations of a region that draws its order are shown over it, one by one.
-/
namespace Go.Proofs.YtcjdpilmhlfmfaaGreatDoor
open Go.RowKit

/-- The frame A with the places lo, lo + 1, .. (n of them) told by V. -/
def pV (A : Act) (lo n : Nat) (V : Nat → Value) : Act := { tmps := A.tmps.mapIdx (fun k x => if lo ≤ k ∧ k < lo + n then V (k - lo) else x), defers := A.defers }

theorem pV_put {A : Act} {lo n : Nat} {V : Nat → Value} (i d : Nat) (hd : d = lo + i) (hi : i < n) (v : Value) : (pV A lo n V).put (some d) v = pV A lo n (putV V i v) := by
  subst hd
  unfold pV Act.put
  simp only [Act.mk.injEq, and_true]
  apply Array.ext_getElem?
  intro k
  rw [Array.getElem?_setIfInBounds, Array.getElem?_mapIdx, Array.getElem?_mapIdx, Array.size_mapIdx]
  by_cases hk : lo + i = k
  · subst hk
    rw [if_pos rfl]
    by_cases hs : lo + i < A.tmps.size
    · rw [if_pos hs, Array.getElem?_eq_getElem hs]
      simp [putV, hi]
    · rw [if_neg hs, Array.getElem?_eq_none (by omega)]
      rfl
  · rw [if_neg hk]
    congr 1
    funext x
    by_cases hr : lo ≤ k ∧ k < lo + n
    · rw [if_pos hr, if_pos hr]
      unfold putV
      rw [if_neg (by omega)]
    · rw [if_neg hr, if_neg hr]

theorem pV_in {A : Act} {lo n : Nat} {V : Nat → Value} (i d : Nat) (hd : d = lo + i) (hi : i < n) (h : lo + n ≤ A.tmps.size) : (pV A lo n V).eval (.tmp d) = V i := by
  subst hd
  show (pV A lo n V).tmps.getD (lo + i) undef = V i
  unfold pV
  have hl : lo + i < (A.tmps.mapIdx (fun k x => if lo ≤ k ∧ k < lo + n then V (k - lo) else x)).size := by simp; omega
  simp only [Array.getD, hl, dif_pos, Array.getInternal_eq_getElem, Array.getElem_mapIdx]
  rw [if_pos (by omega), Nat.add_sub_cancel_left]

theorem pV_out {A : Act} {lo n : Nat} {V : Nat → Value} (d : Nat) (hd : d < lo ∨ lo + n ≤ d) : (pV A lo n V).eval (.tmp d) = A.eval (.tmp d) := by
  show (pV A lo n V).tmps.getD d undef = A.tmps.getD d undef
  unfold pV
  by_cases hl : d < A.tmps.size
  · have hl' : d < (A.tmps.mapIdx (fun k x => if lo ≤ k ∧ k < lo + n then V (k - lo) else x)).size := by simpa using hl
    simp only [Array.getD, hl, hl', dif_pos, Array.getInternal_eq_getElem, Array.getElem_mapIdx]
    rw [if_neg (by omega)]
  · have hl' : ¬ d < (A.tmps.mapIdx (fun k x => if lo ≤ k ∧ k < lo + n then V (k - lo) else x)).size := by simpa using hl
    simp only [Array.getD, hl, hl', dif_neg, not_false_eq_true]

theorem pV_self (A : Act) (lo n : Nat) : pV A lo n (fun i => A.eval (.tmp (lo + i))) = A := by
  cases A with
  | mk t ds =>
    unfold pV
    simp only [Act.mk.injEq, and_true]
    apply Array.ext
    · simp
    · intro k h1 h2
      simp only [Array.getElem_mapIdx]
      split
      · rename_i h
        show t.getD (lo + (k - lo)) undef = t[k]
        rw [show lo + (k - lo) = k by omega]
        simp [Array.getD, h2]
      · rfl

/-- The places as so many puts. -/
def putsV (A : Act) (lo : Nat) (V : Nat → Value) : Nat → Act
  | 0 => A
  | n + 1 => (putsV A lo V n).put (some (lo + n)) (V n)

theorem putsV_eq (A : Act) (lo : Nat) (V : Nat → Value) : ∀ n, putsV A lo V n = pV A lo n V
  | 0 => by
    cases A with
    | mk t ds =>
      unfold putsV pV
      simp only [Act.mk.injEq, and_true]
      apply Array.ext_getElem?
      intro k
      rw [Array.getElem?_mapIdx]
      have : (fun x : Value => if lo ≤ k ∧ k < lo + 0 then V (k - lo) else x) = id := by
        funext x
        rw [if_neg (by omega)]
        rfl
      rw [this, Option.map_id]
      rfl
  | n + 1 => by
    rw [putsV, putsV_eq A lo V n]
    unfold pV Act.put
    simp only [Act.mk.injEq, and_true]
    apply Array.ext_getElem?
    intro k
    rw [Array.getElem?_setIfInBounds, Array.getElem?_mapIdx, Array.getElem?_mapIdx, Array.size_mapIdx]
    by_cases hk : lo + n = k
    · subst hk
      rw [if_pos rfl]
      by_cases hs : lo + n < A.tmps.size
      · rw [if_pos hs, Array.getElem?_eq_getElem hs]
        simp
      · rw [if_neg hs, Array.getElem?_eq_none (by omega)]
        rfl
    · rw [if_neg hk]
      congr 1
      funext x
      by_cases hr : lo ≤ k ∧ k < lo + n
      · rw [if_pos hr, if_pos (by omega)]
      · rw [if_neg hr, if_neg (by omega)]

theorem step_value {P : Program} {ops : Array Oper} {o : Oper} {a : Act} {w W' : World} {K : Act → World → Prop} {Q : Exit → Act → World → Prop} {E : Prop} {v : Value} {d : Nat} (hg : o.guard = none) (hd : o.dst = some d)
    (hrun : ∀ ρ, ρ = a.eval → (execOp ρ o).run P w = .ok (.value v) W') (h : K (a.put (some d) v) W') : if Region.wanted o (yielded ops a.tmps) = true then Oper.wp P o a w K Q else E := by
  have hw : Region.wanted o (yielded ops a.tmps) = true := by simp [Region.wanted, hg]
  rw [if_pos hw]
  unfold Oper.wp
  rw [hrun _ rfl, Oper.upon_value, hd]
  exact h

theorem step_skip {P : Program} {ops : Array Oper} {o : Oper} {a : Act} {w W' : World} {K : Act → World → Prop} {Q : Exit → Act → World → Prop} {E : Prop} {n : Next} (hg : o.guard = none) (hd : o.dst = none)
    (hn : n = .skip ∨ ∃ v, n = .value v) (hrun : ∀ ρ, ρ = a.eval → (execOp ρ o).run P w = .ok n W') (h : K a W') : if Region.wanted o (yielded ops a.tmps) = true then Oper.wp P o a w K Q else E := by
  have hw : Region.wanted o (yielded ops a.tmps) = true := by simp [Region.wanted, hg]
  rw [if_pos hw]
  unfold Oper.wp
  rw [hrun _ rfl]
  rcases hn with rfl | ⟨v, rfl⟩
  · rw [Oper.upon_skip, hd]
    exact h
  · rw [Oper.upon_value, hd]
    exact h

theorem named {P : Program} {c : Code} {Q : Exit → Act → World → Prop} {a : Act} {w : World} (h : ∀ A, A = a → c.wp P Q A w) : c.wp P Q a w := h a rfl

end Go.Proofs.YtcjdpilmhlfmfaaGreatDoor
