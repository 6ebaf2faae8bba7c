/-
  Lists of records of the call's own, and slices of records, with where the entries lie.
-/
import Derived.Deep.Cut
import Derived.Deep.RegionHeld3
import Derived.Deep.CutRange
import Derived.Lib.SliceRun
import Derived.Test.YtabeihkfjlmepaaP20
import Derived.Test.YtabeihkfjlmepaaP07
import Derived.Test.YtabeihkfjlmepaaP02
import Derived.Test.YtabeihkfjlmepaaP04
namespace Go.Proofs.Ytabeihkfjlmepaa
open Go.RowKit

/-- A record, and where its entries lie. -/
structure Lrc where
  r : Rc
  a : Option Addr
  c : Nat

def Lrc.cells (x : Lrc) : List Value := [.int .i64 x.r.k, .int .i64 x.r.s, .int .i64 x.r.n, .slice x.a x.r.e.length x.c]
theorem Lrc.four (x : Lrc) : x.cells.length = 4 := rfl

/-- Its entries lie in memory of the call's own. -/
def Lrc.own (base : Nat) (w : World) (x : Lrc) : Prop := w.ownsRow base 41 3 (.slice x.a x.r.e.length x.c) x.r.e.length (x.r.e.flatMap ec)

structure Recs (base : Nat) (w : World) (a : Option Addr) (n G : Nat) (l : List Lrc) : Prop where
  len : n = l.length
  row : w.ownsRow base 27 4 (.slice a n G) n (l.flatMap Lrc.cells)
  own : ∀ x ∈ l, x.own base w

theorem Recs.nil (base : Nat) (w : World) : Recs base w none 0 0 [] := ⟨rfl, World.ownsRow_nil _ _ _ _, fun x h => by simp at h⟩

theorem Recs.call {base : Nat} {w w' : World} {a : Option Addr} {n G : Nat} {l : List Lrc} (h : Recs base w a n G l) (hb : Below w.heap.size w w') : Recs base w' a n G l :=
  ⟨h.len, ownCall h.row hb, fun x hx => ownCall (h.own x hx) hb⟩

theorem Recs.down {base base' : Nat} {w : World} {a : Option Addr} {n G : Nat} {l : List Lrc} (h : Recs base w a n G l) (hb : base' ≤ base) : Recs base' w a n G l :=
  ⟨h.len, owndown h.row hb, fun x hx => owndown (h.own x hx) hb⟩

theorem infoRec : (Try.prog.info? 27).map (fun i => (i.zero, i.size, i.bytes)) = some (some (.agg #[.int .i64 0, .int .i64 0, .int .i64 0, .slice none 0 0]), 4, 48) := by kernel_rfl

/-- One more record. -/
theorem Recs.snoc {base : Nat} {w w' : World} {a : Option Addr} {n G : Nat} {l : List Lrc} {v : Value} (h : Recs base w a n G l) (x : Lrc) (hx : x.own base w) (o : w'.ownsRow base 27 4 v (n + 1) (l.flatMap Lrc.cells ++ x.cells)) (gr : w.grownBy w' (Value.slice a n G).ownBlock) :
    ∃ a' G', v = .slice a' (n + 1) G' ∧ Recs base w' a' (n + 1) G' (l ++ [x]) := by
  obtain ⟨g7, G7, rfl⟩ : ∃ g7 G7, v = .slice (some ⟨g7, 0, none⟩) (n + 1) G7 := by
    rcases o.2 with ⟨_, h⟩ | ⟨g, cap, cur, h, _⟩
    · omega
    · exact ⟨_, _, h⟩
  refine ⟨_, _, rfl, by rw [List.length_append, h.len]; rfl, by rw [List.flatMap_append]; simpa using o, fun y hy => ?_⟩
  rcases List.mem_append.1 hy with hy | hy
  · exact ownApart (h.own y hy) gr (apartTy (h.own y hy) h.row (by decide))
  · simp only [List.mem_cons, List.not_mem_nil, or_false] at hy
    subst hy
    exact ownApart hx gr (apartTy hx h.row (by decide))

/-- A list of records, with their entries. -/
structure SlRec (w : World) (a : Option Addr) (cap : Nat) (l : List Lrc) : Prop where
  row : SlW Lrc.cells w a cap l
  ent : ∀ x ∈ l, SlW ec w x.a x.c x.r.e

theorem SlRec.keep {w w' : World} {a : Option Addr} {cap B : Nat} {l : List Lrc} (h : SlRec w a cap l) (hb : Below B w w') (hs : w.heap.size ≤ B) : SlRec w' a cap l :=
  ⟨h.row.keep hb hs, fun x hx => (h.ent x hx).keep hb hs⟩

theorem Recs.sl {base : Nat} {w : World} {a : Option Addr} {n G : Nat} {l : List Lrc} (R : Recs base w a n G l) : SlRec w a G l := by
  obtain ⟨a9, G9, e9, S9, _, _⟩ := SlW.ofOwn Lrc.four (by decide) R.row
  simp only [Value.slice.injEq, true_and] at e9
  obtain ⟨rfl, rfl⟩ := e9
  refine ⟨S9, fun x hx => ?_⟩
  obtain ⟨a5, G5, e5, s5, _, _⟩ := SlW.ofOwn ec_three (by decide) (R.own x hx)
  simp only [Value.slice.injEq, true_and] at e5
  obtain ⟨e1, e2⟩ := e5
  rw [e1, e2]
  exact s5

/-- What a test says. -/
def AnsB (P : Prop) (w : World) (e : Ending) (w' : World) : Prop := ∃ b, e = .returned (.bool b) ∧ (b = true ↔ P) ∧ Below w.heap.size w w'

theorem rc_eta (r q : Rc) : (r.k = q.k ∧ r.s = q.s ∧ r.n = q.n ∧ r.e = q.e) ↔ r = q := by
  cases r; cases q; simp

end Go.Proofs.Ytabeihkfjlmepaa

/-
  store.Replay: what the records of a whole log make of a new shelf.
-/
namespace Go.Proofs.Ytabeihkfjlmepaa
open Go.RowKit

theorem repl_many {R : List Rc} (h : 60 < R.length) : replE R = 2 ∧ replL R = [] := ⟨if_pos h, if_pos h⟩
theorem repl_few {R : List Rc} (h : ¬ 60 < R.length) : replE R = (workAll newS R).2 ∧ replL R = (workAll newS R).1 := ⟨if_neg h, if_neg h⟩

theorem work_take {R : List Rc} {k : Nat} {C : List Rw} {x : Rc} (h : workAll newS (R.take k) = (C, 0)) (hx : R[k]? = some x) :
    (nextE C x = 0 → workAll newS (R.take (k + 1)) = (nextL C x, 0)) ∧ (nextE C x ≠ 0 → workAll newS R = ([], nextE C x)) := by
  have h1 : (workAll newS (R.take k)).1 = C := by rw [h]
  have h2 : (workAll newS (R.take k)).2 = 0 := by rw [h]
  refine ⟨fun hz => ?_, fun hz => ?_⟩
  · rw [List.take_add_one, hx]
    have := workAll_snoc (R.take k) x newS h2
    rw [h1, if_pos hz] at this
    exact this
  · have hk : k < R.length := (List.getElem?_eq_some_iff.1 hx).1
    have e : R = R.take k ++ x :: R.drop (k + 1) := by
      conv => lhs; rw [← List.take_append_drop k R]
      rw [List.drop_eq_getElem_cons hk]
      have := (List.getElem?_eq_some_iff.1 hx).2
      rw [this]
    rw [e]
    have := workAll_stop (R.take k) (R.drop (k + 1)) x newS h2 (by rw [h1]; exact hz)
    rw [h1] at this
    exact this

theorem work_shelf {R : List Rc} {k : Nat} {C : List Rw} (h : workAll newS (R.take k) = (C, 0)) : shelfE C = 0 := by
  have := workAll_right (R.take k) newS fresh_right (by rw [h])
  rwa [h] at this

set_option maxHeartbeats 2000000 in
set_option maxRecDepth 100000 in
theorem replay_any (l : List Lrc) (la : Option Addr) (n c dn : Nat) (w : World) (S : SlRec w la c l) (hn : Hid (n = l.length)) (hdn : Hid (dn = (replL (l.map (·.r))).length)) :
    Calls Try.prog 6 #[.slice la n c] w (Mk (replE (l.map (·.r))) (replL (l.map (·.r))) dn w) := by
  have hmax := S.row.max
  have hle := S.row.le
  have hnc : n ≤ c := by rw [hn.out]; exact hle
  obtain ⟨R, hR⟩ : ∃ R, R = l.map (·.r) := ⟨_, rfl⟩
  have hRl : R.length = n := by rw [hR, List.length_map, hn.out]
  rw [← hR] at hdn ⊢
  have BR := Blk.laid w [.slice none 0 0] 24 _ rfl
  have bel := newB (Below.refl w.heap.size w) (.cells #[.slice none 0 0] 24)
  by_cases hm : 60 < n
  · have hm' : (60 : Int) < n := by omega
    obtain ⟨e1, e2⟩ := repl_many (R := R) (by omega)
    rw [e2] at hdn ⊢
    rw [e1]
    obtain rfl : dn = 0 := hdn.out
    clear hdn e1 e2 hR hRl hmax hle
    go_enter Try.func6, Try.ntmps6
    go_upto_region 1 with fail
    generalize World.alloc w _ = w1 at *
    have x0 := BR.cell 0
    have f0 := BR.free 0
    have xl := BR.lt
    go_wp2_with fail
    have B9 := BR.set 0 (.slice none 0 0)
    have bel9 := bel.setCell (p := ⟨w.heap.size, 0, none⟩) (Nat.le_refl _) (.slice none 0 0)
    have I9 := (IsS.none w1).boxed BR (.slice none 0 0)
    have i0 := B9.cell 0
    exact bodyPost_ret (v := .tuple #[.agg #[.slice none 0 0], .int .i64 2]) (by simp [results, Try.results6, go_sem, i0]) rfl ⟨_, _, rfl, I9, bel9⟩
  · have hm' : ¬ (60 : Int) < n := by omega
    obtain ⟨e1, e2⟩ := repl_few (R := R) (by omega)
    rw [e2] at hdn ⊢
    rw [e1]
    have hn60 : n ≤ 60 := by omega
    have hxR : ∀ (k : Nat) (x : Lrc), l[k]? = some x → R[k]? = some x.r := by
      intro k x hx
      rw [hR, List.getElem?_map, hx]
      rfl
    clear e1 e2 hmax hle
    generalize hEE : (workAll newS R).2 = EE at *
    generalize hDD : (workAll newS R).1 = DD at *
    replace hEE := hide hEE
    replace hDD := hide hDD
    replace hR := hide hR
    replace hRl := hide hRl
    go_enter Try.func6, Try.ntmps6
    go_upto_region 1 with fail
    generalize World.alloc w _ = w1 at *
    go_wp2_with fail
    go_at_call 20
    refine (new_is _).mono ?_
    rintro e w2 ⟨aN, GN, rfl, IN, b2⟩
    have BS := Blk.laid w2 [.slice aN 4 GN] 24 _ rfl
    have bq := newB b2 (.cells #[.slice aN 4 GN] 24)
    have IN2 := IN.alloc (.cells #[.slice aN 4 GN] 24)
    have lgS : w.heap.size < w2.heap.size := Nat.lt_of_lt_of_le BR.lt b2.size
    replace BR := BR.keep bq BR.lt
    replace bel := belowCall bel bq
    clear b2 bq IN
    go_upto_region 4 with fail
    generalize w2.heap.size = gS at *
    generalize World.alloc w2 _ = w3 at *
    go_wp2_with fail
    go_loopw [15] (fun i wr => ∃ (k : Nat) (aS : Option Addr) (cS : Nat) (C : List Rw), k ≤ n ∧ i = .int .i64 k ∧ Blk wr w.heap.size [.slice none 0 0] 24 ∧ Blk wr gS [.slice aS 4 cS] 24 ∧ IsS wr aS cS C ∧ Hid (workAll newS (R.take k) = (C, 0)) ∧ Below w.heap.size w wr) (fun i _ => n - (intOf i).toNat)
    case atStart => exact ⟨0, aN, GN, newS, Nat.zero_le _, rfl, BR, BS, IN2, by simp [workAll, Hid], bel⟩
    case round =>
      clear BR BS IN2 bel
      obtain ⟨k, aS, cS, C, hk, rfl, BR, BS, I, hC, bel⟩ := hrel
      have hz := work_shelf hC.out
      have h4 := hide (right_len hz)
      by_cases hlt : k < n
      · have hkl : k < l.length := by rw [← hn.out]; exact hlt
        obtain ⟨x, hx⟩ : ∃ x, l[k]? = some x := ⟨_, List.getElem?_eq_getElem hkl⟩
        obtain ⟨lb, lo, rfl, hlb⟩ := S.row.where Lrc.four (by decide) (by intro h; subst h; simp at hkl)
        have S' := S.keep bel (Nat.le_refl _)
        have d0 := S'.row.cell Lrc.four k 0 x _ hx rfl
        have d1 := S'.row.cell Lrc.four k 1 x _ hx rfl
        have d2 := S'.row.cell Lrc.four k 2 x _ hx rfl
        have d3 := S'.row.cell Lrc.four k 3 x _ hx rfl
        simp only [Nat.add_zero] at d0
        have llb := Nat.lt_of_lt_of_le hlb bel.size
        have hent := S'.ent x (List.mem_of_getElem? hx)
        obtain ⟨wz, wb⟩ := work_take hC.out (hxR k x hx)
        obtain ⟨dk, hdk⟩ : ∃ d, Hid (d = (nextL C x.r).length) := ⟨_, hide rfl⟩
        have cN := fun W h t => next_any C x.r aS x.a cS x.c x.r.e.length 4 dk W h t (hide rfl) (hide h4.out.symm) hdk
        have BC := Blk.laid wr x.cells 27 _ rfl
        have bc := newB (Below.refl wr.heap.size wr) (.cells x.cells.toArray 27)
        have hent1 := hent.call bc
        have I1 := I.call bc
        replace BR := BR.keep bc BR.lt
        replace BS := BS.keep bc BS.lt
        have bel1 := bel.trans (bc.mono bel.size)
        have ly := right_len hz
        simp only [Lrc.cells] at BC bc hent1 I1 BR BS bel1
        replace hx := hide hx
        clear S' hkl hent I bc bel ly
        go_upto_region 7 with fail
        generalize wr.heap.size = gC at *
        generalize World.alloc wr _ = w4 at *
        have x0 := BC.cell 0
        have x1 := BC.cell 1
        have x2 := BC.cell 2
        have x3 := BC.cell 3
        have lC := BC.lt
        have y0 := BS.cell 0
        have lS := BS.lt
        go_wp2_with fail
        go_at_call 5
        refine (cN _ I1 hent1).mono ?_
        rintro e w5 ⟨a', G', rfl, I5, b5⟩
        clear x0 x1 x2 x3 lC y0 lS I1 hent1 cN BC
        replace BR := BR.keep b5 BR.lt
        replace BS := BS.keep b5 BS.lt
        replace bel1 := bel1.trans (b5.mono bel1.size)
        clear b5
        have y0 := BS.cell 0
        have f0 := BS.free 0
        have lS := BS.lt
        have BS6 := BS.set 0 (.slice a' dk G')
        have BR6 : Blk (w5.setCell ⟨gS, 0, none⟩ (.slice a' dk G')) w.heap.size [.slice none 0 0] 24 := BR.other 0 _ (by omega)
        have I6 := I5.boxed BS (.slice a' dk G')
        have bel6 := bel1.setCell (p := ⟨gS, 0, none⟩) (Nat.le_of_lt lgS) (.slice a' dk G')
        by_cases hE : nextE C x.r = 0
        · rw [hE]
          have hw := wz hE
          obtain rfl : dk = 4 := by rw [hdk.out]; exact right_len (next_right hE)
          clear wz wb
          go_wp2_with fail
          go_roundw
          case rel => exact ⟨k + 1, a', G', nextL C x.r, by omega, by go_num, BR6, BS6, I6, hide hw, bel6⟩
          case measure => simp [intOf]; omega
        · have hw := wb hE
          have hzd : decide (nextE C x.r = 0) = false := decide_eq_false hE
          generalize nextE C x.r = E at *
          obtain rfl : DD = [] := by rw [← hDD.out, hw]
          obtain rfl : EE = E := by rw [← hEE.out, hw]
          obtain rfl : dn = 0 := hdn.out
          clear wz wb hEE hDD hw
          go_upto_region 9 with fail
          clear y0 f0 lS BS I5 bel1 BR
          generalize World.setCell w5 _ _ = w6 at *
          have z0 := BR6.cell 0
          have f0 := BR6.free 0
          have lR := BR6.lt
          go_wp2_with fail
          have B9 := BR6.set 0 (.slice none 0 0)
          have bel9 := bel6.setCell (p := ⟨w.heap.size, 0, none⟩) (Nat.le_refl _) (.slice none 0 0)
          have I9 := (IsS.none w6).boxed BR6 (.slice none 0 0)
          have i0 := B9.cell 0
          exact bodyPost_ret (v := .tuple #[.agg #[.slice none 0 0], .int .i64 EE]) (by simp [results, Try.results6, go_sem, i0]) rfl ⟨_, _, rfl, I9, bel9⟩
      · obtain rfl : k = n := by omega
        have hw := hC.out
        rw [List.take_of_length_le (by rw [hRl.out]; exact Nat.le_refl _)] at hw
        obtain rfl : DD = C := by rw [← hDD.out, hw]
        obtain rfl : EE = 0 := by rw [← hEE.out, hw]
        obtain rfl : dn = 4 := hdn.out.trans h4.out
        clear hw hEE hDD
        have y0 := BS.cell 0
        have lS := BS.lt
        have z0 := BR.cell 0
        have f0 := BR.free 0
        have lR := BR.lt
        go_wp2_with fail
        have B9 := BR.set 0 (.slice aS 4 cS)
        have bel9 := bel.setCell (p := ⟨w.heap.size, 0, none⟩) (Nat.le_refl _) (.slice aS 4 cS)
        have I9 := I.boxed BR (.slice aS 4 cS)
        have i0 := B9.cell 0
        exact bodyPost_ret (v := .tuple #[.agg #[.slice aS 4 cS], .int .i64 0]) (by simp [results, Try.results6, go_sem, i0]) rfl ⟨_, _, rfl, I9, bel9⟩

end Go.Proofs.Ytabeihkfjlmepaa

/-
  What the closed fact 'stored' reckons, as plain lists. No program is named.
-/
namespace Go.Proofs.Ytabeihkfjlmepaa

def rSt : Rc := ⟨2, 1, 1, []⟩
def rDr : Rc := ⟨4, 0, 11, []⟩
def rNo : Rc := ⟨0, 0, 0, []⟩
def rBt : Rc := ⟨1, 0, 0, [(1, 10, -5), (2, 3, 4)]⟩

def stC : List Rw := replL [rBt, rSt]
def stD : List Rw := nextL stC rDr

theorem st_e : replE [rBt, rSt] = 0 := by decide +kernel
theorem st_4 : stC.length = 4 := by decide +kernel
theorem st_f : nextE stC rDr = 0 := by decide +kernel
theorem st_d4 : stD.length = 4 := by decide +kernel
theorem st_g : nextE stC rBt = 7 := by decide +kernel
theorem st_g0 : nextL stC rBt = [] := next_bad (by rw [st_g]; decide)
theorem st_h : nextE stC rNo = 4 := by decide +kernel
theorem st_h0 : nextL stC rNo = [] := next_bad (by rw [st_h]; decide)
theorem st_i : allE stC 1 = 0 ∧ (allL stC 1).length = 1 := by decide +kernel
theorem st_j : allE stD 1 = 0 ∧ (allL stD 1).length = 0 := by decide +kernel
theorem st_k : allE stD 2 = 0 ∧ (allL stD 2).length = 1 := by decide +kernel

end Go.Proofs.Ytabeihkfjlmepaa

/-
  The laws' 'batch': a record of two points.
-/
namespace Go.Proofs.Ytabeihkfjlmepaa
open Go.RowKit

def rBatch : Rc := ⟨1, 0, 0, [(1, 10, -5), (2, 3, 4)]⟩

theorem slW_of_blk {w : World} {g : Nat} {l : List Nt} {T : TypeId} (B : Blk w g (l.flatMap ec) T) (h : l.length ≤ 1000) : SlW ec w (some ⟨g, 0, none⟩) l.length l := by
  refine ⟨.inr ⟨g, 0, rfl, B.lt, fun i v hv => ?_⟩, Nat.le_refl _, by omega, fun h => by cases h⟩
  rw [Nat.zero_add]
  exact (B.cell i).trans hv

set_option maxRecDepth 100000 in
theorem batch_any (w : World) : Calls Try.prog 25 #[] w fun e w' => ∃ g, e = .returned (.agg #[.int .i64 1, .int .i64 0, .int .i64 0, .slice (some ⟨g, 0, none⟩) 2 2]) ∧ SlW ec w' (some ⟨g, 0, none⟩) 2 [(1, 10, -5), (2, 3, 4)] ∧ Below w.heap.size w w' := by
  go_enter Try.func25, Try.ntmps25
  go_wp2_with fail
  have BA := Blk.laid w [.int .i64 1, .int .i64 0, .int .i64 0, .slice (some ⟨w.heap.size + 1, 0, none⟩) 2 2] 27 _ rfl
  have bel : Below w.heap.size w (w.alloc (.cells #[.int .i64 1, .int .i64 0, .int .i64 0, .slice (some ⟨w.heap.size + 1, 0, none⟩) 2 2] 27)) := (Below.refl _ _).alloc (Nat.le_refl _) _
  have hsz : (w.alloc (.cells #[.int .i64 1, .int .i64 0, .int .i64 0, .slice (some ⟨w.heap.size + 1, 0, none⟩) 2 2] 27)).heap.size = w.heap.size + 1 := by simp
  generalize w.alloc _ = w1 at *
  have BB := Blk.laid w1 ([(1, 10, -5), (2, 3, 4)].flatMap ec) 41 (w.heap.size + 1) hsz.symm
  have BA2 := BA.keep (newB (Below.refl w1.heap.size w1) (.cells ([(1, 10, -5), (2, 3, 4)].flatMap ec).toArray 41)) BA.lt
  have bel2 := newB bel (.cells ([(1, 10, -5), (2, 3, 4)].flatMap ec).toArray 41)
  have sl := slW_of_blk (l := [(1, 10, -5), (2, 3, 4)]) BB (by decide)
  simp only [ec, List.flatMap_cons, List.flatMap_nil, List.cons_append, List.nil_append, List.append_nil] at BB BA2 bel2 sl
  generalize w1.alloc _ = w2 at *
  have i0 : w2.cell? ⟨w.heap.size, 0, none⟩ = some (.int .i64 1) := BA2.cell 0
  have i1 : w2.cell? ⟨w.heap.size, 1, none⟩ = some (.int .i64 0) := BA2.cell 1
  have i2 : w2.cell? ⟨w.heap.size, 2, none⟩ = some (.int .i64 0) := BA2.cell 2
  have i3 : w2.cell? ⟨w.heap.size, 3, none⟩ = some (.slice (some ⟨w.heap.size + 1, 0, none⟩) 2 2) := BA2.cell 3
  exact bodyPost_ret (v := .agg #[.int .i64 1, .int .i64 0, .int .i64 0, .slice (some ⟨w.heap.size + 1, 0, none⟩) 2 2]) (by simp [results, Try.results25, go_sem, i0, i1, i2, i3]) rfl ⟨_, rfl, sl, bel2⟩

end Go.Proofs.Ytabeihkfjlmepaa

/-
  The closed fact 'stored': a batch, a seal, a drop.
-/
namespace Go.Proofs.Ytabeihkfjlmepaa
open Go.RowKit

theorem recLaid (w : World) (l : List Lrc) (cs : Array Value) (hc : cs.toList = l.flatMap Lrc.cells) (t : TypeId) (n : Nat) (hn : n = w.heap.size) (cap : Nat) (hl : l.length = cap) (hm : cap ≤ 9223372036854775807) : SlW Lrc.cells (w.alloc (.cells cs t)) (some ⟨n, 0, none⟩) cap l := by
  have h := Row.laid w cs.toList t n hn
  rw [Array.toArray_toList, hc] at h
  exact ⟨h, by omega, hm, fun e => by cases e⟩

theorem st_k1 : ∀ a G W, IsS W a G stC → Calls Try.prog 5 #[.agg #[.slice a 4 G], .agg #[.int .i64 4, .int .i64 0, .int .i64 11, .slice none 0 0]] W (Mk 0 stD 4 W) := by
  intro a G W h
  have c := next_any stC rDr a none G 0 0 4 4 W h (SlW.ofNil ec W) (hide rfl) (hide st_4.symm) (hide st_d4.symm)
  rw [st_f] at c
  exact c

theorem st_k2 : ∀ a G g W, IsS W a G stC → SlW ec W (some ⟨g, 0, none⟩) 2 [(1, 10, -5), (2, 3, 4)] → Calls Try.prog 5 #[.agg #[.slice a 4 G], .agg #[.int .i64 1, .int .i64 0, .int .i64 0, .slice (some ⟨g, 0, none⟩) 2 2]] W (Mk 7 [] 0 W) := by
  intro a G g W h s
  have c := next_any stC rBt a (some ⟨g, 0, none⟩) G 2 2 4 0 W h s (hide rfl) (hide st_4.symm) (hide (by rw [st_g0]; rfl))
  rw [st_g, st_g0] at c
  exact c

theorem st_k3 : ∀ a G W, IsS W a G stC → Calls Try.prog 5 #[.agg #[.slice a 4 G], .agg #[.int .i64 0, .int .i64 0, .int .i64 0, .slice none 0 0]] W (Mk 4 [] 0 W) := by
  intro a G W h
  have c := next_any stC rNo a none G 0 0 4 0 W h (SlW.ofNil ec W) (hide rfl) (hide st_4.symm) (hide (by rw [st_h0]; rfl))
  rw [st_h, st_h0] at c
  exact c

theorem st_all {C : List Rw} {s : Int} {m : Nat} (h4 : C.length = 4) (he : allE C s = 0) (hl : (allL C s).length = m) : ∀ a G W, IsS W a G C → Calls Try.prog 12 #[.agg #[.slice a 4 G], .int .i64 s] W fun e w' => ∃ a' G', e = .returned (.tuple #[.slice a' m G', .int .i64 0]) ∧ Below W.heap.size W w' := by
  intro a G W h
  have c := all_is s h
  rw [h4, he, hl] at c
  refine c.mono ?_
  rintro e w' ⟨a', G', rfl, _, b⟩
  exact ⟨a', G', rfl, b⟩

/-- The two boxes. -/
structure StB (w W : World) (gS gT : Nat) (a1 a2 : Option Addr) (G1 G2 : Nat) : Prop where
  bs : Blk W gS [.slice a1 4 G1] 24
  is : IsS W a1 G1 stC
  bt : Blk W gT [.slice a2 4 G2] 24
  it : IsS W a2 G2 stD
  bel : Below w.heap.size w W

theorem StB.call {w W W' : World} {gS gT : Nat} {a1 a2 : Option Addr} {G1 G2 : Nat} (h : StB w W gS gT a1 a2 G1 G2) (b : Below W.heap.size W W') : StB w W' gS gT a1 a2 G1 G2 :=
  ⟨h.bs.keep b h.bs.lt, h.is.call b, h.bt.keep b h.bt.lt, h.it.call b, belowCall h.bel b⟩

set_option maxHeartbeats 4000000 in
set_option maxRecDepth 100000 in
theorem stored_any (w : World) : Calls Try.prog 9 #[] w fun e w' => e = .returned (.bool true) ∧ Below w.heap.size w w' := by
  have cA1 := st_all st_4 st_i.1 st_i.2
  have cA2 := st_all st_d4 st_j.1 st_j.2
  have cA3 := st_all st_d4 st_k.1 st_k.2
  go_enter Try.func9, Try.ntmps9
  go_wp2_with fail
  go_at_call 25
  refine (batch_any w).mono ?_
  rintro e w1 ⟨g1, rfl, s1, b1⟩
  have SL : SlRec (w1.alloc (.cells #[.int .i64 1, .int .i64 0, .int .i64 0, .slice (some ⟨g1, 0, none⟩) 2 2, .int .i64 2, .int .i64 1, .int .i64 1, .slice none 0 0] 27)) (some ⟨w1.heap.size, 0, none⟩) 2 [⟨rBt, some ⟨g1, 0, none⟩, 2⟩, ⟨rSt, none, 0⟩] := by
    refine ⟨recLaid w1 [⟨rBt, some ⟨g1, 0, none⟩, 2⟩, ⟨rSt, none, 0⟩] #[.int .i64 1, .int .i64 0, .int .i64 0, .slice (some ⟨g1, 0, none⟩) 2 2, .int .i64 2, .int .i64 1, .int .i64 1, .slice none 0 0] rfl 27 _ rfl 2 rfl (by decide), fun x hx => ?_⟩
    simp only [List.mem_cons, List.not_mem_nil, or_false] at hx
    rcases hx with rfl | rfl
    · exact s1.alloc _
    · exact SlW.ofNil ec _
  have cR := fun W S => replay_any [⟨rBt, some ⟨g1, 0, none⟩, 2⟩, ⟨rSt, none, 0⟩] (some ⟨w1.heap.size, 0, none⟩) 2 2 4 W S (hide rfl) (hide st_4.symm)
  have cR' : ∀ W, SlRec W (some ⟨w1.heap.size, 0, none⟩) 2 [⟨rBt, some ⟨g1, 0, none⟩, 2⟩, ⟨rSt, none, 0⟩] → Calls Try.prog 6 #[.slice (some ⟨w1.heap.size, 0, none⟩) 2 2] W (Mk 0 stC 4 W) := by
    intro W S
    have c := cR W S
    have e : replE (List.map (fun x : Lrc => x.r) [⟨rBt, some ⟨g1, 0, none⟩, 2⟩, ⟨rSt, none, 0⟩]) = 0 := st_e
    rw [e] at c
    exact c
  have bel := newB b1 (.cells #[.int .i64 1, .int .i64 0, .int .i64 0, .slice (some ⟨g1, 0, none⟩) 2 2, .int .i64 2, .int .i64 1, .int .i64 1, .slice none 0 0] 27)
  clear cR b1 s1
  go_wp2_with fail
  go_at_call 6
  refine (cR' _ SL).mono ?_
  rintro e w2 ⟨a1, G1, rfl, I1, b2⟩
  have BS := Blk.laid w2 [.slice a1 4 G1] 24 _ rfl
  have bq := newB b2 (.cells #[.slice a1 4 G1] 24)
  replace I1 := I1.alloc (.cells #[.slice a1 4 G1] 24)
  replace bel := belowCall bel bq
  clear cR' SL b2 bq
  go_upto_region 2 with fail
  generalize w2.heap.size = gS at *
  generalize World.alloc w2 _ = v2 at *
  have x0 := BS.cell 0
  have xl := BS.lt
  go_wp2_with fail
  go_at_call 5
  refine (st_k1 _ _ _ I1).mono ?_
  rintro e w3 ⟨a2, G2, rfl, I2, b3⟩
  clear x0 xl
  have bq := newB b3 (.cells #[.slice a2 4 G2] 24)
  have H : StB w (w3.alloc (.cells #[.slice a2 4 G2] 24)) gS w3.heap.size a1 a2 G1 G2 := ⟨BS.keep bq BS.lt, I1.call bq, Blk.laid w3 [.slice a2 4 G2] 24 _ rfl, I2.alloc _, belowCall bel bq⟩
  clear BS I1 I2 bel b3 bq
  go_upto_region 3 with fail
  generalize w3.heap.size = gT at *
  generalize World.alloc w3 _ = v3 at *
  have x0 := H.bs.cell 0
  have xl := H.bs.lt
  have k0 : Below v3.heap.size v3 v3.drew := belowDrew (Below.refl _ _)
  have kB : ∀ W, Below v3.heap.size v3 W → Calls Try.prog 25 #[] W fun e w' => ∃ g, e = .returned (.agg #[.int .i64 1, .int .i64 0, .int .i64 0, .slice (some ⟨g, 0, none⟩) 2 2]) ∧ SlW ec w' (some ⟨g, 0, none⟩) 2 [(1, 10, -5), (2, 3, 4)] ∧ w'.cell? ⟨gS, 0, none⟩ = some (.slice a1 4 G1) ∧ gS < w'.heap.size ∧ Below v3.heap.size v3 w' ∧ Below W.heap.size W w' := by
    intro W h
    refine (batch_any W).mono ?_
    rintro e w' ⟨g, rfl, s, b⟩
    have bb := belowCall h b
    exact ⟨g, rfl, s, (H.call bb).bs.cell 0, (H.call bb).bs.lt, bb, b⟩
  have kN : ∀ g W, Below v3.heap.size v3 W → SlW ec W (some ⟨g, 0, none⟩) 2 [(1, 10, -5), (2, 3, 4)] → Calls Try.prog 5 #[.agg #[.slice a1 4 G1], .agg #[.int .i64 1, .int .i64 0, .int .i64 0, .slice (some ⟨g, 0, none⟩) 2 2]] W fun e w' => ∃ a' G', e = .returned (.tuple #[.agg #[.slice a' 0 G'], .int .i64 7]) ∧ w'.cell? ⟨gS, 0, none⟩ = some (.slice a1 4 G1) ∧ gS < w'.heap.size ∧ Below v3.heap.size v3 w' ∧ Below W.heap.size W w' := by
    intro g W h s
    refine (st_k2 _ _ g W (H.call h).is s).mono ?_
    rintro e w' ⟨a', G', rfl, _, b⟩
    have bb := belowCall h b
    exact ⟨a', G', rfl, (H.call bb).bs.cell 0, (H.call bb).bs.lt, bb, b⟩
  have nV := Nat.ne_of_lt xl
  have nV' := Nat.ne_of_gt xl
  have Q0 : Blk ((v3.alloc (.cells #[.slice none 0 0] 24)).drew) v3.heap.size [.slice none 0 0] 24 := Blk.laid v3 [.slice none 0 0] 24 _ rfl
  go_cut [5, 6] from 28 to 33 (fun s5 s6 wx => s6 = .int .i64 7 ∧ Below v3.heap.size v3 wx)
  case first =>
    go_region_held3 (fun w' => w'.cell? ⟨gS, 0, none⟩ = some (.slice a1 4 G1)) (go_keep)
      (first
        | (go_at_call 25; refine (kB _ (by first | exact k0 | exact belowDrew (newB (Below.refl _ _) _) | assumption)).mono ?_; rintro e wA ⟨gb, rfl, sA, y0, yl, zA, zV⟩; have nA := Nat.ne_of_lt yl; have nA' := Nat.ne_of_gt yl)
        | (go_at_call 5; refine (kN _ _ (by first | exact zA | exact newB zA _) (by first | exact sA | exact sA.alloc _)).mono ?_; rintro e wB ⟨a', G', rfl, y1, yl2, zB, zW⟩; have nB := Nat.ne_of_lt yl2; have nB' := Nat.ne_of_gt yl2; (first | (have Q := (Blk.laid wA [.slice none 0 0] 24 _ rfl).keep zW (by simp); have q0 := Q.cell 0; have qf := Q.free 0; have ql := Q.lt) | (have Q := (Q0.keep zV Q0.lt).keep zW (Q0.keep zV Q0.lt).lt; have q0 := Q.cell 0; have qf := Q.free 0; have ql := Q.lt) | skip)))
    all_goals (
      go_wp2_with fail
      go_meet
      case rel => exact ⟨rfl, by first | exact zB | exact newB zB _ | exact zB.setCell zA.size _ | exact zB.setCell (Nat.le_refl _) _ | exact (newB zB _).setCell zB.size _⟩)
  case rest =>
    obtain ⟨rfl, hcut⟩ := hcut
    replace H := H.call hcut
    clear hcut kB kN k0 x0 xl nV nV' Q0
    have x0 := H.bs.cell 0
    have xl := H.bs.lt
    go_wp2_with fail
    go_at_call 5
    refine (st_k3 _ _ _ H.is).mono ?_
    rintro e w4 ⟨a4, G4, rfl, _, b4⟩
    clear x0 xl
    replace H := H.call (newB b4 (.cells #[.slice a4 0 G4] 24))
    clear b4
    go_upto_region 5 with fail
    generalize w4.heap.size = g4 at *
    generalize World.alloc w4 _ = v4 at *
    have x0 := H.bs.cell 0
    have xl := H.bs.lt
    go_wp2_with fail
    go_at_call 12
    refine (cA1 _ _ _ H.is).mono ?_
    rintro e w5 ⟨a5, G5, rfl, b5⟩
    clear x0 xl
    replace H := H.call b5
    have x0 := H.bt.cell 0
    have xl := H.bt.lt
    go_wp2_with fail
    go_at_call 12
    refine (cA2 _ _ _ H.it).mono ?_
    rintro e w6 ⟨a6, G6, rfl, b6⟩
    clear x0 xl
    replace H := H.call b6
    have x0 := H.bt.cell 0
    have xl := H.bt.lt
    go_wp2_with fail
    go_at_call 12
    refine (cA3 _ _ _ H.it).mono ?_
    rintro e w7 ⟨a7, G7, rfl, b7⟩
    clear x0 xl
    replace H := H.call b7
    go_wp2_with fail
    go_ret
    exact ⟨rfl, H.bel⟩

end Go.Proofs.Ytabeihkfjlmepaa

/-
  slices.Clone at bools: a slice of the call's own with the same values.
-/
namespace Go.Proofs.Ytabeihkfjlmepaa
open Go.RowKit

set_option maxHeartbeats 1000000 in
set_option maxRecDepth 100000 in
theorem clone_any (ao : Option Addr) (cap : Nat) (l : List Bool) (w : World) (hr : Sl w ao cap (l.map Value.bool)) (hl : l.length ≤ 140737488355328) :
    Calls Try.prog 90 #[.slice ao l.length cap] w fun e w' =>
      ∃ v', e = .returned v' ∧ w'.ownsRow w.heap.size 4 1 v' l.length (l.map Value.bool) ∧ Below w.heap.size w w' := by
  obtain ⟨i0, hi, hz0, hz1, hz2⟩ := info_parts infoBool
  have q : ∀ (w : World) (a : Option Addr) (n c n' c' : Nat), (binOp .eql 58 (.slice a n c) (.slice none n' c')).run Try.prog w = .ok (.bool a.isNone) w := fun w a n c n' c' => Lib.run_eql_slice_nil w _ _ a n c n' c' Try.underlying58
  cases ao with
  | none =>
    obtain ⟨h1, rfl⟩ := hr.src0 rfl
    obtain rfl : l = [] := by simpa using h1
    clear h1
    go_enter Try.func90, Try.ntmps90
    go_wp2_with fail
    go_ret
    exact ⟨_, rfl, ⟨rfl, .inl ⟨rfl, rfl⟩⟩, Below.refl _ _⟩
  | some ad =>
    have own0 : (w.alloc (.cells #[] 4)).ownsRow w.heap.size 4 1 (.slice (some ⟨w.heap.size, 0, none⟩) 0 0) 0 [] := by
      have hB := Blk.laid w [] 4 _ rfl
      exact ownOfBlk hB w.heap.size (Nat.le_refl _) 0 (Nat.le_refl _) (by decide)
    have belA := (Below.refl w.heap.size w).alloc (Nat.le_refl _) (Obj.cells #[] 4)
    by_cases h0 : l = []
    · subst h0
      have hs := hr.alloc (.cells #[] 4)
      have hx := hs.src
      have hy := hs.src0
      have bA : w.heap.size ≤ (w.alloc (.cells #[] 4)).heap.size := by simp
      clear hr hs
      go_enter Try.func90, Try.ntmps90
      go_wp2_with (at_builtin; refine wpList_append_fits_any _ rfl (.tmp 5) (.tmp 6) 58 rfl w.heap.size 4 i0 1 Try.underlying58 hi hz1 w.heap.size 0 0 [] rfl own0 (some ad) 0 cap [] rfl rfl hy hx (by simp) (Nat.le_refl _) ?_)
      intro w1 own1 grow1
      have bel1 := belowGrown belA own0 grow1 (Nat.le_refl _) bA
      go_wp2_with fail
      go_ret
      exact ⟨_, rfl, own1, bel1⟩
    · have hpos : 0 < l.length := List.length_pos_iff.2 h0
      have hs := hr.alloc (.cells #[] 4)
      have hsrc := hs.src ad rfl
      have one := bools_one l
      have bA : w.heap.size ≤ (w.alloc (.cells #[] 4)).heap.size := by simp
      clear hr hs h0
      go_enter Try.func90, Try.ntmps90
      go_wp2_with (at_builtin; refine wpList_append_went _ rfl (.tmp 5) (.tmp 6) 58 rfl w.heap.size 4 i0 (.bool false) 1 1 Try.underlying58 hi hz0 hz1 hz2 rfl (by decide) _ 0 _ rfl own0 ad l.length cap (l.map Value.bool) rfl (by simp) hsrc one hpos (by unfold maxLen; omega) (by omega) bA ?_)
      intro v' w1 own1 grow1 went1
      have bel1 := belowGrown belA own0 grow1 (Nat.le_refl _) bA
      obtain ⟨a1, c1, rfl, t1, n1⟩ := ownSl own1
      go_wp2_with fail
      go_ret
      exact ⟨_, rfl, own1, bel1⟩

end Go.Proofs.Ytabeihkfjlmepaa
