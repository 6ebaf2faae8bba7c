/-
  rainbookref.Dropped, of a shelf that is right: what it answers; nothing that was there is written.
-/
import Derived.Deep.Cut
import Derived.Deep.CutRange
import Derived.Test.YtabeihkfjlmepaaP07
import Derived.Test.YtabeihkfjlmepaaP19
import Derived.Test.YtabeihkfjlmepaaHRefSeal
namespace Go.Proofs.Ytabeihkfjlmepaa
open Go.RowKit

/-- Two slices of the call's own whose elements are of two types lie in two blocks. -/
theorem apartType {w : World} {b1 b2 s1 s2 n m : Nat} {t1 t2 : TypeId} {u v : Value} {xs ys : List Value} (h : w.ownsRow b1 t1 s1 u n xs) (k : w.ownsRow b2 t2 s2 v m ys) (ht : t1 ≠ t2) : Apart u v := by
  intro g hu hv
  rcases h.2 with ⟨rfl, _⟩ | ⟨g1, c1, cur1, rfl, _, h1, _⟩
  · simp [Value.ownBlock] at hu
  rcases k.2 with ⟨rfl, _⟩ | ⟨g2, c2, cur2, rfl, _, h2, _⟩
  · simp [Value.ownBlock] at hv
  have e1 : g1 = g := Option.some.inj hu
  have e2 : g2 = g := Option.some.inj hv
  subst e1
  subst e2
  rw [h1] at h2
  simp only [Option.some.injEq, Obj.cells.injEq] at h2
  exact ht h2.2.1

theorem apartBlk {w : World} {b1 s1 n g : Nat} {t1 t2 : TypeId} {u : Value} {xs cs : List Value} (h : w.ownsRow b1 t1 s1 u n xs) (B : Blk w g cs t2) (ht : t1 ≠ t2) : u.ownBlock = none ∨ u.ownBlock ≠ some g := by
  rcases h.2 with ⟨rfl, _⟩ | ⟨g1, c1, cur1, rfl, _, h1, _⟩
  · exact .inl rfl
  · refine .inr (fun e => ?_)
    have e1 : g1 = g := Option.some.inj e
    subst e1
    unfold Blk at B
    rw [h1] at B
    simp only [Option.some.injEq, Obj.cells.injEq] at B
    exact ht B.2.1

def keepB (n : Int) (x : Lb) : Bool := !decide (x.b.to < n)

/-- What is left of a row: its blocks in memory of the call's own, its head where it lay. -/
structure Cut1 (base : Nat) (n : Int) (w : World) (q r : Lr) : Prop where
  hd : r.hd = q.hd
  ha : r.ha = q.ha
  hc : r.hc = q.hc
  bs : r.bs = q.bs.filter (keepB n)
  own : w.ownsRow base 60 4 (.slice r.ba r.bs.length r.bc) r.bs.length (r.bs.flatMap Lb.cells)

theorem Cut1.call {base : Nat} {n : Int} {w w' : World} {q r : Lr} (h : Cut1 base n w q r) (hb : Below w.heap.size w w') : Cut1 base n w' q r := ⟨h.hd, h.ha, h.hc, h.bs, ownCall h.own hb⟩

theorem Cut1.wrote {base : Nat} {n : Int} {w w' : World} {q r : Lr} {g : Nat} {cs : List Value} {t : TypeId} (h : Cut1 base n w q r) (hg : w.grownBy w' (some g)) (B : Blk w g cs t) (ht : 60 ≠ t) : Cut1 base n w' q r :=
  ⟨h.hd, h.ha, h.hc, h.bs, h.own.kept hg (apartBlk h.own B ht)⟩

theorem Cut1.apart {base b2 : Nat} {n : Int} {w w' : World} {q r : Lr} {v : Value} {m : Nat} {ys : List Value} (h : Cut1 base n w q r) (hg : w.grownBy w' v.ownBlock) (k : w.ownsRow b2 56 2 v m ys) : Cut1 base n w' q r :=
  ⟨h.hd, h.ha, h.hc, h.bs, ownApart h.own hg (apartType h.own k (by decide))⟩

theorem Cut1.good {base : Nat} {n : Int} {w w' : World} {q r : Lr} (h : Cut1 base n w' q r) (hq : q.Good w) (hb : Below w.heap.size w w') : r.Good w' := by
  have g := hq.keep hb (Nat.le_refl _)
  obtain ⟨a3, c3, e3, s3, _, _⟩ := SlW.ofOwn Lb.four (by decide) h.own
  simp only [Value.slice.injEq, true_and] at e3
  obtain ⟨e1, e2⟩ := e3
  rw [← e1, ← e2] at s3
  have hl : r.bs.length ≤ q.bs.length := by rw [h.bs]; exact List.length_filter_le _ _
  have h1 := g.few
  have h2 := g.hfew
  have h3 := g.hd
  refine ⟨⟨s3, fun x hx => g.bs.good x (List.mem_filter.1 (h.bs ▸ hx)).1⟩, ?_, by omega, by rw [h.hd]; exact h2⟩
  rw [h.hd, h.ha, h.hc]
  exact h3

theorem Cut1.rw {base : Nat} {n : Int} {w : World} {q r : Lr} (h : Cut1 base n w q r) : r.rw = dropRw n q.rw := by
  unfold Lr.rw dropRw
  rw [h.hd, h.bs, List.filter_map]
  rfl

set_option maxHeartbeats 400000 in
set_option maxRecDepth 100000 in
theorem refDrop_range (m : Nat) (ao : Option Addr) (cap : Nat) (n : Int) (w : World) (h : inI n 0 100001 = false) :
    Calls Try.prog 53 #[.agg #[.slice ao m cap], .int .i64 n] w fun e w' => e = .returned (.tuple #[.agg #[.slice none 0 0], .int .i64 3]) ∧ Below w.heap.size w w' := by
  have c := fun W => in_any n 0 100001 W
  unfold inI at h
  rw [h] at c
  clear h
  go_enter Try.func53, Try.ntmps53
  go_wp2_with fail
  go_at_call 48
  refine (c _).mono ?_
  rintro e w1 ⟨rfl, rfl⟩
  go_wp2_with fail
  exact bodyPost_ret (v := .tuple #[.agg #[.slice none 0 0], .int .i64 3]) (by simp [results, Try.results53, go_sem]) rfl ⟨rfl, below2 w _ _⟩

set_option maxHeartbeats 2000000 in
set_option maxRecDepth 100000 in
theorem refDrop_ok (l : List Lr) (ao : Option Addr) (cap : Nat) (n : Int) (w : World) (hs : SlR w ao cap l) (h4 : l.length = 4) (few : ∀ r ∈ l, r.bs.length ≤ 8) (h : inI n 0 100001 = true) :
    Calls Try.prog 53 #[.agg #[.slice ao 4 cap], .int .i64 n] w fun e w' =>
      ∃ rs a' G, e = .returned (.tuple #[.agg #[.slice a' 4 G], .int .i64 0]) ∧ rs.map Lr.rw = (l.map Lr.rw).map (dropRw n) ∧ rs.length = 4 ∧ SlR w' a' G rs ∧ Below w.heap.size w w' := by
  have c := fun W => in_any n 0 100001 W
  unfold inI at h
  rw [h] at c
  clear h
  obtain ⟨lb, lo, rfl, -⟩ := hs.where (by intro e; rw [e] at h4; simp at h4)
  replace h4 := hide h4
  replace few := hide few
  obtain ⟨i0, hi0, z0, z1, z2⟩ := info_parts infoR
  obtain ⟨i1, hi1, y0, y1, y2⟩ := info_parts infoB
  go_enter Try.func53, Try.ntmps53
  go_wp2_with fail
  go_at_call 48
  refine (c _).mono ?_
  rintro e w1 ⟨rfl, rfl⟩
  clear c
  go_wp2_with fail
  obtain ⟨BR, BO, bel⟩ := three w [.slice (some ⟨lb, lo, none⟩) 4 cap] [.slice none 0 0] [.slice none 0 0] 24
  generalize World.alloc _ _ = w1 at *
  go_loopw [19] (fun i wr => ∃ (k : Nat) (rs : List Lr) (a' : Option Addr) (G : Nat), k ≤ 4 ∧ i = .int .i64 k ∧ Hid (rs.length = k) ∧ Blk wr (w.heap.size + 2) [.slice a' k G] 24 ∧ wr.ownsRow (w.heap.size + 3) 56 2 (.slice a' k G) k (rs.flatMap Lr.cells) ∧
      Hid (∀ (j : Nat) (r : Lr), rs[j]? = some r → ∃ q, l[j]? = some q ∧ Cut1 (w.heap.size + 3) n wr q r) ∧ Blk wr (w.heap.size + 1) [.slice none 0 0] 24 ∧ Below w.heap.size w wr) (fun i _ => 4 - (intOf i).toNat)
  case atStart => exact ⟨0, [], none, 0, by omega, rfl, rfl, BO, World.ownsRow_nil _ _ _ _, fun j r h => by simp at h, BR, bel⟩
  case round =>
    clear BR BO bel
    obtain ⟨k, rs, a', G, hk, rfl, hl, BO, own, H, BR, bel⟩ := hrel
    rename World => wo
    by_cases hlt : k < 4
    · have hk4 : (k : Int) < 4 := by omega
      have hs1 := hs.keep bel (Nat.le_refl _)
      obtain ⟨r, hr⟩ : ∃ r, l[k]? = some r := ⟨_, List.getElem?_eq_getElem (by rw [h4.out]; exact hlt)⟩
      obtain ⟨e0, e1, gr⟩ := hs1.at k r hr
      have fr := few.out r (List.mem_of_getElem? hr)
      replace hr := hide hr
      obtain ⟨bs, ba, bc, hd, ha, hc⟩ := r
      simp only at *
      obtain ⟨m, em⟩ : ∃ m, m = hd.length := ⟨_, rfl⟩
      obtain ⟨bn, eb⟩ : ∃ bn, bn = bs.length := ⟨_, rfl⟩
      rw [← eb] at e0 fr
      rw [← em] at e1
      replace em := hide em
      replace eb := hide eb
      clear hs1
      have BX := Blk.laid (wo.alloc (.cells #[.slice ba bn bc, .slice ha m hc] 56)) [.slice none 0 0, .slice ha m hc] 56 (wo.heap.size + 1) (by simp)
      have belX := below2 wo (.cells #[.slice ba bn bc, .slice ha m hc] 56) (.cells #[.slice none 0 0, .slice ha m hc] 56)
      have hob := BO.lt
      go_wp2_with fail
      generalize World.alloc _ _ = w2 at *
      clear e0 e1
      go_loopw [29] (fun i wr => ∃ (j X1 : Nat) (X : List Lb) (a3 : Option Addr) (G3 : Nat), j ≤ bn ∧ i = .int .i64 j ∧ X1 ≤ j ∧ Hid (X1 = X.length) ∧ Hid (X = (bs.take j).filter (keepB n)) ∧ Blk wr (wo.heap.size + 1) [.slice a3 X1 G3, .slice ha m hc] 56 ∧ wr.ownsRow (wo.heap.size + 2) 60 4 (.slice a3 X1 G3) X1 (X.flatMap Lb.cells) ∧ Below wo.heap.size wo wr) (fun i _ => bn - (intOf i).toNat)
      case atStart => exact ⟨0, 0, [], none, 0, by omega, rfl, by omega, rfl, by simp [Hid], BX, World.ownsRow_nil _ _ _ _, belX⟩
      case round =>
        clear BX belX
        obtain ⟨j, X1, X, a3, G3, hj, rfl, hX1, eX1, eX, BX, ownX, belX⟩ := hrel
        by_cases hlj : j < bn
        · have sb := gr.bs.keep belX (Nat.le_refl _)
          obtain ⟨b, off, rfl, hbw⟩ := sb.where (by intro e; have e' : bs = [] := e; rw [eb.out, e'] at hlj; simp at hlj)
          obtain ⟨x, hx⟩ : ∃ x, bs[j]? = some x := ⟨_, List.getElem?_eq_getElem (by rw [← eb.out]; exact hlj)⟩
          obtain ⟨u0, u1, u2, u3, gx⟩ := sb.at j x hx
          have tk : bs.take (j + 1) = bs.take j ++ [x] := by rw [List.take_add_one, hx]; rfl
          replace tk := hide tk
          obtain ⟨⟨xn, xf, xT, xb⟩, xa, xc⟩ := x
          simp only at *
          obtain ⟨xl, exl⟩ : ∃ xl, xl = xb.length := ⟨_, rfl⟩
          rw [← exl] at u3
          replace exl := hide exl
          clear gx hx sb
          by_cases hto : xT < n
          · have ht' : ¬ n ≤ xT := by omega
            have eX2 : Hid (X = (bs.take (j + 1)).filter (keepB n)) := by
              rw [tk.out, List.filter_append, ← eX.out, List.filter_cons_of_neg (by simp [keepB]; exact hto)]
              simp [Hid]
            have bel2 := belowNew belX (.cells #[.int .i64 xn, .int .i64 xf, .int .i64 xT, .slice xa xl xc] 60)
            have B2 := BX.alc (.cells #[.int .i64 xn, .int .i64 xf, .int .i64 xT, .slice xa xl xc] 60)
            have o2 := ownX.alloc (.cells #[.int .i64 xn, .int .i64 xf, .int .i64 xT, .slice xa xl xc] 60)
            go_wp2_with fail
            go_roundw
            case rel => exact ⟨j + 1, X1, X, a3, G3, by omega, by go_num, by omega, eX1, eX2, B2, o2, bel2⟩
            case measure => simp [intOf]; omega
          · have ht' : n ≤ xT := by omega
            have eX2 : Hid (X ++ [⟨⟨xn, xf, xT, xb⟩, xa, xc⟩] = (bs.take (j + 1)).filter (keepB n)) := by
              rw [tk.out, List.filter_append, ← eX.out, List.filter_cons_of_pos (by simp [keepB]; omega)]
              simp [Hid]
            have bel2 := belowNew belX (.cells #[.int .i64 xn, .int .i64 xf, .int .i64 xT, .slice xa xl xc] 60)
            have B2 := BX.alc (.cells #[.int .i64 xn, .int .i64 xf, .int .i64 xT, .slice xa xl xc] 60)
            have o2 := ownX.alloc (.cells #[.int .i64 xn, .int .i64 xf, .int .i64 xT, .slice xa xl xc] 60)
            have B11 := Blk.laid wr [.int .i64 xn, .int .i64 xf, .int .i64 xT, .slice xa xl xc] 60 _ rfl
            go_upto_region 12 with fail
            generalize wr.heap.size = g11 at *
            generalize wr.alloc _ = w3 at *
            have c0 : w3.cell? ⟨wo.heap.size + 1, 0, none⟩ = some (.slice a3 X1 G3) := B2.cell 0
            have v0 : w3.cell? ⟨g11, 0, none⟩ = some (.int .i64 xn) := B11.cell 0
            have v1 : w3.cell? ⟨g11, 1, none⟩ = some (.int .i64 xf) := B11.cell 1
            have v2 : w3.cell? ⟨g11, 2, none⟩ = some (.int .i64 xT) := B11.cell 2
            have v3 : w3.cell? ⟨g11, 3, none⟩ = some (.slice xa xl xc) := B11.cell 3
            have lx := B2.lt
            have hone : ∀ u ∈ (#[Value.int .i64 xn, .int .i64 xf, .int .i64 xT, .slice xa xl xc] : Array Value).toList, u.oneCell' = true := by
              intro u hu
              simp only [List.mem_cons, List.not_mem_nil, or_false] at hu
              rcases hu with rfl | rfl | rfl | rfl <;> rfl
            clear u0 u1 u2 u3
            go_wp2_with (at_builtin; refine wpList_append_new w3 rfl (.tmp 38) (.tmp 40) 54 rfl (wo.heap.size + 2) 60 i1 _ 4 48 Try.underlying54 hi1 y0 y1 y2 rfl (by decide) (.slice a3 X1 G3) X1 _ (by rfl) o2 1 #[.int .i64 xn, .int .i64 xf, .int .i64 xT, .slice xa xl xc] 60 (by rfl) (by rfl) hone (by decide) (by unfold maxLen; omega) (by omega) (by omega) ?_)
            intro v4 w4 own4 grow4 went4
            have B4 := B2.grown grow4 (fun q hq => by have := (o2.lt q hq).1; omega)
            have bel4 := belowGrown bel2 o2 grow4 (by omega) bel2.size
            rw [show X.flatMap Lb.cells ++ (#[Value.int .i64 xn, .int .i64 xf, .int .i64 xT, .slice xa xl xc] : Array Value).toList = (X ++ [(⟨⟨xn, xf, xT, xb⟩, xa, xc⟩ : Lb)]).flatMap Lb.cells by rw [List.flatMap_append, exl.out]; rfl] at own4
            obtain ⟨a4, G4, rfl, _, _, _⟩ := SlW.ofOwn Lb.four (by decide) own4
            have l4' := B4.lt
            have f4 := B4.free 0
            have c4 : w4.cell? ⟨wo.heap.size + 1, 0, none⟩ = some (.slice a3 X1 G3) := B4.cell 0
            have B5 := B4.set 0 (.slice a4 (X1 + 1) G4)
            have own5 := own4.kept (row := some (wo.heap.size + 1)) (grownSet (grownRefl w4 (some (wo.heap.size + 1))) 0 (.slice a4 (X1 + 1) G4)) (by
              cases hv : (Value.slice a4 (X1 + 1) G4).ownBlock with
              | none => exact .inl rfl
              | some q => exact .inr (fun e => by have := (own4.lt q hv).1; have := Option.some.inj e; omega))
            have bel5 := bel4.setCell (p := ⟨wo.heap.size + 1, 0, none⟩) (Nat.le_succ _) (.slice a4 (X1 + 1) G4)
            have eX3 : Hid (X1 + 1 = (X ++ [(⟨⟨xn, xf, xT, xb⟩, xa, xc⟩ : Lb)]).length) := by
              rw [List.length_append, ← eX1.out]
              exact hide rfl
            clear own4 o2 B2 bel2 BX ownX belX
            go_wp2_with fail
            go_roundw
            case rel => exact ⟨j + 1, X1 + 1, _, a4, G4, by omega, by go_num, by omega, eX3, eX2, B5, own5, bel5⟩
            case measure => simp [intOf]; omega
        · obtain rfl : j = bn := by omega
          have eX' := eX.out
          rw [eb.out, List.take_length] at eX'
          have BO2 := BO.keep belX BO.lt
          have BR2 := BR.keep belX BR.lt
          have own2 := ownCall own belX
          have bel2 : Below w.heap.size w wr := bel.trans (belX.mono bel.size)
          have c0 : wr.cell? ⟨wo.heap.size + 1, 0, none⟩ = some (.slice a3 X1 G3) := BX.cell 0
          have c1 : wr.cell? ⟨wo.heap.size + 1, 1, none⟩ = some (.slice ha m hc) := BX.cell 1
          have c2 : wr.cell? ⟨w.heap.size + 2, 0, none⟩ = some (.slice a' k G) := BO2.cell 0
          have lo2 := BO2.lt
          have lx := BX.lt
          replace eX' := hide eX'
          have hone : ∀ u ∈ (#[Value.slice a3 X1 G3, .slice ha m hc] : Array Value).toList, u.oneCell' = true := by
            intro u hu
            simp only [List.mem_cons, List.not_mem_nil, or_false] at hu
            rcases hu with rfl | rfl <;> rfl
          go_wp2_with (at_builtin; refine wpList_append_new wr rfl (.tmp 45) (.tmp 47) 22 rfl (w.heap.size + 3) 56 i0 _ 2 48 Try.underlying22 hi0 z0 z1 z2 rfl (by decide) (.slice a' k G) k _ (by rfl) own2 1 #[.slice a3 X1 G3, .slice ha m hc] 56 (by rfl) (by rfl) hone (by decide) (by unfold maxLen; omega) (by omega) (by omega) ?_)
          intro v5 w5 own5 grow5 went5
          have BO5 := BO2.grown grow5 (fun q hq => by have := (own2.lt q hq).1; omega)
          have BR5 := BR2.grown grow5 (fun q hq => by have := (own2.lt q hq).1; omega)
          have bel5 := belowGrown bel2 own2 grow5 (by omega) bel2.size
          rw [show rs.flatMap Lr.cells ++ (#[Value.slice a3 X1 G3, .slice ha m hc] : Array Value).toList = (rs ++ [(⟨X, a3, G3, hd, ha, hc⟩ : Lr)]).flatMap Lr.cells by rw [List.flatMap_append, eX1.out, em.out]; rfl] at own5
          obtain ⟨a5, G5, rfl, _, _, _⟩ := SlW.ofOwn Lr.two (by decide) own5
          have H5 : ∀ (j : Nat) (r : Lr), (rs ++ [(⟨X, a3, G3, hd, ha, hc⟩ : Lr)])[j]? = some r → ∃ q, l[j]? = some q ∧ Cut1 (w.heap.size + 3) n (w5.setCell ⟨w.heap.size + 2, 0, none⟩ (.slice a5 (k + 1) G5)) q r := by
            intro i r hi
            have hg := grownSet (grownRefl w5 (some (w.heap.size + 2))) 0 (.slice a5 (k + 1) G5)
            by_cases hik : i < k
            · rw [List.getElem?_append_left (by rw [hl.out]; exact hik)] at hi
              obtain ⟨q, h1, h2⟩ := H.out i r hi
              exact ⟨q, h1, ((h2.call belX).apart grow5 own2).wrote hg BO5 (by decide)⟩
            · rw [List.getElem?_append_right (by rw [hl.out]; omega), hl.out] at hi
              have e0 : i - k = 0 := by
                have := (List.getElem?_eq_some_iff.1 hi).1
                simpa using this
              rw [e0] at hi
              obtain rfl : i = k := by omega
              simp at hi
              subst hi
              have o := own_base ownX (show w.heap.size + 3 ≤ wo.heap.size + 2 by omega)
              rw [eX1.out] at o
              have C : Cut1 (w.heap.size + 3) n wr ⟨bs, ba, bc, hd, ha, hc⟩ ⟨X, a3, G3, hd, ha, hc⟩ := ⟨rfl, rfl, rfl, eX'.out, o⟩
              exact ⟨_, hr.out, (C.apart grow5 own2).wrote hg BO5 (by decide)⟩
          have own6 := own5.kept (row := some (w.heap.size + 2)) (grownSet (grownRefl w5 (some (w.heap.size + 2))) 0 (.slice a5 (k + 1) G5)) (by
            cases hv : (Value.slice a5 (k + 1) G5).ownBlock with
            | none => exact .inl rfl
            | some q => exact .inr (fun e => by have := (own5.lt q hv).1; have := Option.some.inj e; omega))
          have B6 := BO5.set 0 (.slice a5 (k + 1) G5)
          have R6 := BR5.other 0 (.slice a5 (k + 1) G5) (show w.heap.size + 2 ≠ w.heap.size + 1 by omega)
          have bel6 := bel5.setCell (p := ⟨w.heap.size + 2, 0, none⟩) (show w.heap.size ≤ w.heap.size + 2 by omega) (.slice a5 (k + 1) G5)
          have l5 := BO5.lt
          have f5 := BO5.free 0
          have c5 : w5.cell? ⟨w.heap.size + 2, 0, none⟩ = some (.slice a' k G) := BO5.cell 0
          have hl5 : Hid ((rs ++ [(⟨X, a3, G3, hd, ha, hc⟩ : Lr)]).length = k + 1) := by
            rw [List.length_append, hl.out]
            exact hide rfl
          replace H5 := hide H5
          clear own5 own2 BO2 BR2 bel2 grow5 went5
          go_wp2_with fail
          go_roundw
          case rel => exact ⟨k + 1, _, a5, G5, by omega, by go_num, hl5, B6, own6, H5, R6, bel6⟩
          case measure => simp [intOf]; omega
    · obtain rfl : k = 4 := by omega
      have c2 : wo.cell? ⟨w.heap.size + 2, 0, none⟩ = some (.slice a' 4 G) := BO.cell 0
      have lR := BR.lt
      have lO := BO.lt
      have fR := BR.free 0
      have dR : wo.cell? ⟨w.heap.size + 1, 0, none⟩ = some (.slice none 0 0) := BR.cell 0
      have hg := grownSet (grownRefl wo (some (w.heap.size + 1))) 0 (.slice a' 4 G)
      have bel6 := bel.setCell (p := ⟨w.heap.size + 1, 0, none⟩) (Nat.le_succ _) (.slice a' 4 G)
      have own6 := own.kept hg (apartBlk own BR (by decide))
      have H6 : ∀ (j : Nat) (r : Lr), rs[j]? = some r → ∃ q, l[j]? = some q ∧ Cut1 (w.heap.size + 3) n (wo.setCell ⟨w.heap.size + 1, 0, none⟩ (.slice a' 4 G)) q r := by
        intro j r hj
        obtain ⟨q, h1, h2⟩ := H.out j r hj
        exact ⟨q, h1, h2.wrote hg BR (by decide)⟩
      obtain ⟨a9, G9, e9, s9, _, _⟩ := SlW.ofOwn Lr.two (by decide) own6
      simp only [Value.slice.injEq, true_and] at e9
      obtain ⟨rfl, rfl⟩ := e9
      have S9 : SlR (wo.setCell ⟨w.heap.size + 1, 0, none⟩ (.slice a' 4 G)) a' G rs := by
        refine ⟨s9, fun r hr => ?_⟩
        obtain ⟨j, hj⟩ := List.mem_iff_getElem?.1 hr
        obtain ⟨q, h1, h2⟩ := H6 j r hj
        exact h2.good (hs.good q (List.mem_of_getElem? h1)) bel6
      have E9 : rs.map Lr.rw = (l.map Lr.rw).map (dropRw n) := by
        apply List.ext_getElem?
        intro j
        rw [List.getElem?_map, List.getElem?_map, List.getElem?_map]
        cases hj : rs[j]? with
        | none =>
          have : l[j]? = none := by
            rw [List.getElem?_eq_none_iff] at hj ⊢
            rw [h4.out, ← hl.out]
            exact hj
          rw [this]
          rfl
        | some r =>
          obtain ⟨q, h1, h2⟩ := H6 j r hj
          rw [h1]
          simp [h2.rw]
      replace E9 := hide E9
      clear H6 H own own6 s9 hg
      go_wp2_with fail
      exact bodyPost_ret (v := .tuple #[.agg #[.slice a' 4 G], .int .i64 0]) (by simp [results, Try.results53, go_sem, dR]) rfl ⟨rs, _, _, rfl, E9.out, hl.out, S9, bel6⟩

/-- Dropped, of a shelf that is right. -/
theorem refDrop_any (l : List Lr) (ao : Option Addr) (cap : Nat) (n : Int) (w : World) (hs : SlR w ao cap l) (hR : Right (l.map Lr.rw)) :
    Calls Try.prog 53 #[.agg #[.slice ao l.length cap], .int .i64 n] w fun e w' =>
      ∃ rs a' G, e = .returned (.tuple #[.agg #[.slice a' rs.length G], .int .i64 (dropE n)]) ∧ rs.map Lr.rw = dropL (l.map Lr.rw) n ∧ SlR w' a' G rs ∧ Below w.heap.size w w' := by
  have h4 : l.length = 4 := by have := hR.four; rwa [List.length_map] at this
  cases h : inI n 0 100001 with
  | false =>
    have e : dropE n = 3 := by unfold dropE; rw [if_pos h]
    refine (refDrop_range l.length ao cap n w h).mono ?_
    rintro _ w' ⟨rfl, b⟩
    exact ⟨[], none, 0, by rw [e]; rfl, by unfold dropL; rw [e]; rfl, SlR.ofNil _, b⟩
  | true =>
    have e : dropE n = 0 := by unfold dropE; rw [if_neg (by rw [h]; decide)]
    rw [h4]
    refine (refDrop_ok l ao cap n w hs h4 (fun r hr => ?_) h).mono ?_
    · have := (hR.few r.rw (List.mem_map.2 ⟨r, hr, rfl⟩)).1
      unfold Lr.rw at this
      simpa using this
    · rintro _ w' ⟨rs, a', G, rfl, h1, h2, h3, h5⟩
      exact ⟨rs, a', G, by rw [e, h2], by unfold dropL; rw [if_pos e]; exact h1, h3, h5⟩

end Go.Proofs.Ytabeihkfjlmepaa
