/-
  rainbookref.PutAll, of a shelf that is right: what it answers; nothing that was there is written.
-/
import Derived.Deep.Cut
import Derived.Deep.CutRange
import Derived.Deep.AppendLies
import Derived.Test.YtabeihkfjlmepaaP07
import Derived.Test.YtabeihkfjlmepaaP08
import Derived.Test.YtabeihkfjlmepaaP24
import Derived.Test.YtabeihkfjlmepaaHRefSeal
import Derived.Test.YtabeihkfjlmepaaP28
namespace Go.Proofs.Ytabeihkfjlmepaa
open Go.RowKit

set_option maxHeartbeats 400000 in
set_option maxRecDepth 100000 in
theorem refPut_many (m : Nat) (ao : Option Addr) (cap : Nat) (la : Option Addr) (n lc : Nat) (w : World) (h : 10 < n) (hn : n ≤ 140737488355328) :
    Calls Try.prog 50 #[.agg #[.slice ao m cap], .slice la n lc] w fun e w' => e = .returned (.tuple #[.agg #[.slice none 0 0], .int .i64 2]) ∧ Below w.heap.size w w' := by
  have h' : (10 : Int) < n := by omega
  go_enter Try.func50, Try.ntmps50
  go_wp2_with fail
  exact bodyPost_ret (v := .tuple #[.agg #[.slice none 0 0], .int .i64 2]) (by simp [results, Try.results50, go_sem]) rfl ⟨rfl, below2 w _ _⟩

/-- Rows of which one block of slices alone is written. -/
theorem Rows.onlySl {w : World} {g G : Nat} {l : List Lr} (h : Rows w g G l) : ∃ cs, Blk w g cs 56 ∧ OnlySl cs := by
  obtain ⟨L, B, hL⟩ := h.blk
  refine ⟨_, B, fun v hv => ?_⟩
  rcases List.mem_append.1 hv with hv | hv
  · exact onlyRows l v hv
  · exact ⟨_, _, _, hL v hv⟩

set_option maxHeartbeats 4000000 in
set_option maxRecDepth 100000 in
theorem refPut_few (l : List Lr) (ao : Option Addr) (cap : Nat) (L : List En) (la : Option Addr) (lc : Nat) (w : World) (hs : SlR w ao cap l) (hL : SlW En.cells w la lc L) (hR : Right (l.map Lr.rw)) (h : L.length ≤ 10) :
    Calls Try.prog 50 #[.agg #[.slice ao 4 cap], .slice la L.length lc] w fun e w' =>
      ∃ rs a' G, e = .returned (.tuple #[.agg #[.slice a' rs.length G], .int .i64 (putsE (l.map Lr.rw) L)]) ∧ rs.map Lr.rw = (if putsE (l.map Lr.rw) L = 0 then putsL (l.map Lr.rw) L else []) ∧ SlR w' a' G rs ∧ Below w.heap.size w w' := by
  have h4 : l.length = 4 := by have := hR.four; rwa [List.length_map] at this
  obtain ⟨E, hE⟩ : ∃ E, E = putsE (l.map Lr.rw) L := ⟨_, rfl⟩
  obtain ⟨F, hF⟩ : ∃ F, F = putsL (l.map Lr.rw) L := ⟨_, rfl⟩
  rw [← hE, ← hF]
  obtain ⟨Z, hZ⟩ : ∃ Z, Z = if E = 0 then F else [] := ⟨_, rfl⟩
  rw [← hZ]
  replace hZ := hide hZ
  have H0 : Hid (E = putsE (l.map Lr.rw) (L.drop 0)) := by rw [List.drop_zero]; exact hE
  have H1 : Hid (F = putsL (l.map Lr.rw) (L.drop 0)) := by rw [List.drop_zero]; exact hF
  clear hE hF
  obtain ⟨n, hn⟩ : ∃ n, n = L.length := ⟨_, rfl⟩
  rw [← hn] at h ⊢
  have h' : ¬ (10 : Int) < n := by omega
  replace hn := hide hn
  obtain ⟨lb, lo, rfl, -⟩ := hs.where (by intro e; rw [e] at h4; simp at h4)
  have c3 := fun W (hW : SlW Lr.cells W (some ⟨lb, lo, none⟩) cap l) => cloneR2 ⟨lb, lo, none⟩ cap (l.flatMap Lr.cells) 4 W hW.row (by rw [flat_length Lr.two, h4]) (by decide) (by decide)
  have s2 := fun o1 o2 => (hs.sl.alloc o1).alloc o2
  have gl := hs.good
  replace hR := hide hR
  replace h4 := hide h4
  clear hs
  go_enter Try.func50, Try.ntmps50
  go_wp2_with fail
  have BR := (three' w [.slice (some ⟨lb, lo, none⟩) 4 cap] [.slice none 0 0] 24)
  go_at_call 65
  refine (c3 _ (s2 _ _)).mono ?_
  rintro e w1 ⟨g, G, X, rfl, B1, hX, hG, hGm, hg1, b1⟩
  have rows : Rows w1 g G l := ⟨⟨X, B1, hX⟩, by rw [h4.out]; exact hG, hGm⟩
  obtain ⟨BR, bel⟩ := BR
  replace BR := BR.keep b1 BR.lt
  replace bel := belowCall bel b1
  have gl1 : ∀ r ∈ l, r.Good w1 := fun r hr => (gl r hr).keep bel (Nat.le_refl _)
  clear b1 s2 c3 B1 hX X gl
  simp only [World.size_alloc] at hg1
  replace gl1 := hide gl1
  have hG4 : 4 ≤ G := hG
  go_wp2_with fail
  go_loopw [21] (fun i wr => ∃ (k : Nat) (rs : List Lr), k ≤ n ∧ i = .int .i64 k ∧ Hid (E = putsE (rs.map Lr.rw) (L.drop k)) ∧ Hid (F = putsL (rs.map Lr.rw) (L.drop k)) ∧ Hid (Right (rs.map Lr.rw)) ∧ Rows wr g G rs ∧ Hid (∀ r ∈ rs, r.Good wr) ∧ Blk wr (w.heap.size + 1) [.slice none 0 0] 24 ∧ Below w.heap.size w wr) (fun i _ => n - (intOf i).toNat)
  case atStart => exact ⟨0, l, by omega, rfl, H0, H1, hR, rows, gl1, BR, bel⟩
  case round =>
    clear H0 H1 hR rows gl1 BR bel h4
    obtain ⟨k, rs, hk, rfl, H0, H1, hR, rows, gl, BR, bel⟩ := hrel
    by_cases hlt : k < n
    · have hs1 := hL.keep bel (Nat.le_refl _)
      obtain ⟨b, off, rfl, hbw⟩ := hs1.where En.three (by decide) (by intro e; rw [hn.out, e] at hlt; simp at hlt)
      obtain ⟨x, hx⟩ : ∃ x, L[k]? = some x := ⟨_, List.getElem?_eq_getElem (by rw [← hn.out]; exact hlt)⟩
      have e0 := hs1.cell En.three k 0 x _ hx rfl
      have e1 := hs1.cell En.three k 1 x _ hx rfl
      have e2 := hs1.cell En.three k 2 x _ hx rfl
      simp only [Nat.add_zero] at e0
      have hd : L.drop k = x :: L.drop (k + 1) := by
        obtain ⟨hk', rfl⟩ := List.getElem?_eq_some_iff.1 hx
        exact List.drop_eq_getElem_cons hk'
      have H0' := H0.out
      have H1' := H1.out
      rw [hd, putsE] at H0'
      rw [hd, putsL] at H1'
      clear H0 H1 hd hx hs1
      obtain ⟨xs, xt, xv⟩ := x
      simp only at *
      have c := fun W => in_any xs 0 3 W
      cases hi : inI xs 0 3 with
      | false =>
        have hE : E = 5 := by rw [H0']; unfold putRowE; rw [if_pos hi]; simp
        unfold inI at hi
        rw [hi] at c
        replace hE := hide hE
        clear H0' H1' hi
        have lR := BR.lt
        have fR := BR.free 0
        have dR : wr.cell? ⟨w.heap.size + 1, 0, none⟩ = some (.slice none 0 0) := BR.cell 0
        go_wp2_with fail
        go_at_call 48
        refine (c _).mono ?_
        rintro e w2 ⟨rfl, rfl⟩
        go_wp2_with fail
        exact bodyPost_ret (v := .tuple #[.agg #[.slice none 0 0], .int .i64 5]) (by simp [results, Try.results50, go_sem, lR, dR]) rfl ⟨[], none, 0, by rw [hE.out]; rfl, by rw [hZ.out, hE.out]; rfl, SlR.ofNil _, belowNew (bel.setCell (Nat.le_succ _) _) _⟩
      | true =>
        obtain ⟨s, rfl, hs4⟩ := inI_nat hi
        have l4 : rs.length = 4 := by have := hR.out.four; rwa [List.length_map] at this
        obtain ⟨r, hr⟩ : ∃ r, rs[s]? = some r := ⟨_, List.getElem?_eq_getElem (by omega)⟩
        have hgr := gl.out r (List.mem_of_getElem? hr)
        obtain ⟨f1, f2⟩ := hR.out.few r.rw (List.mem_map.2 ⟨r, List.mem_of_getElem? hr, rfl⟩)
        obtain ⟨q0, q1⟩ := rows.cells s r hr
        have hrw : (rs.map Lr.rw).getD s rw0 = r.rw := by rw [List.getD, List.getElem?_map, hr]; rfl
        have eput : putRow (rs.map Lr.rw) ⟨s, xt, xv⟩ = ⟨r.bs.map Lb.b, r.hd ++ [(xt, xv)]⟩ := by
          unfold putRow
          simp only [Int.toNat_natCast]
          rw [hrw]
          rfl
        rw [show putRowE (rs.map Lr.rw) ⟨s, xt, xv⟩ = rowE ⟨r.bs.map Lb.b, r.hd ++ [(xt, xv)]⟩ by unfold putRowE; rw [hi, if_neg (by decide), eput], show putRowL (rs.map Lr.rw) ⟨s, xt, xv⟩ = (rs.map Lr.rw).set s ⟨r.bs.map Lb.b, r.hd ++ [(xt, xv)]⟩ by unfold putRowL; rw [eput]; rfl] at H0'
        rw [show putRowL (rs.map Lr.rw) ⟨s, xt, xv⟩ = (rs.map Lr.rw).set s ⟨r.bs.map Lb.b, r.hd ++ [(xt, xv)]⟩ by unfold putRowL; rw [eput]; rfl] at H1'
        replace H0' := hide H0'
        replace H1' := hide H1'
        have hRput : rowE ⟨r.bs.map Lb.b, r.hd ++ [(xt, xv)]⟩ = 0 → Right ((rs.map Lr.rw).set s ⟨r.bs.map Lb.b, r.hd ++ [(xt, xv)]⟩) := by
          intro h0
          have := hR.out.put (x := ⟨s, xt, xv⟩) (by unfold putRowE; rw [hi, if_neg (by decide), eput]; exact h0)
          unfold putRowL at this
          rw [eput] at this
          exact this
        unfold inI at hi
        rw [hi] at c
        clear hi eput hrw
        obtain ⟨bs, ba, bc, hd, ha, hc⟩ := r
        simp only at *
        obtain ⟨m, em⟩ : ∃ m, m = hd.length := ⟨_, rfl⟩
        obtain ⟨bn, eb⟩ : ∃ bn, bn = bs.length := ⟨_, rfl⟩
        have f1' : bn ≤ 8 := by rw [eb]; simpa [Lr.rw] using f1
        have f2' : m ≤ 40 := by rw [em]; simpa [Lr.rw] using f2
        rw [← eb] at q0
        rw [← em] at q1
        replace em := hide em
        replace eb := hide eb
        replace hr := hide hr
        replace l4 := hide l4
        clear f1 f2
        have hs4' : (s : Int) < 4 := by omega
        have gW := fun W (hW : Below wr.heap.size wr W) => hgr.keep hW (Nat.le_refl _)
        clear hgr
        go_wp2_with fail
        go_at_call 48
        refine (c _).mono ?_
        rintro e w2 ⟨rfl, rfl⟩
        clear c
        have X8 := Blk.laid wr [.int .i64 s, .int .i64 xt, .int .i64 xv] 41 _ rfl
        have belA : Below wr.heap.size wr (wr.alloc (.cells #[.int .i64 s, .int .i64 xt, .int .i64 xv] 41)) := (Below.refl _ _).alloc (Nat.le_refl _) _
        have lg := rows.lt
        generalize hg8 : wr.heap.size = g8 at X8 ⊢
        generalize wr.alloc _ = w2 at *
        have a0 := (belA.cell (p := ⟨g, s * 2, none⟩) lg).trans q0
        have a1 := (belA.cell (p := ⟨g, s * 2 + 1, none⟩) lg).trans q1
        have lg2 : g < w2.heap.size := Nat.lt_of_lt_of_le lg belA.size
        have x0 : w2.cell? ⟨g8, 0, none⟩ = some (.int .i64 s) := X8.cell 0
        clear q0 q1 e0 e1 e2
        go_wp2_with fail
        have B9 := Blk.laid w2 [.slice ba bn bc, .slice ha m hc] 56 _ rfl
        have X9 := X8.alc (.cells #[.slice ba bn bc, .slice ha m hc] 56)
        have belB := belowNew belA (.cells #[.slice ba bn bc, .slice ha m hc] 56)
        have h89 : g8 < w2.heap.size := X8.lt
        clear X8 belA a0 a1 lg2 x0
        generalize hg9 : w2.heap.size = g9 at *
        generalize w2.alloc _ = w4 at *
        clear hg9
        obtain ⟨i1, hi1, y0, y1, y2⟩ := info_parts infoP
        have q1 : w4.cell? ⟨g9, 1, none⟩ = some (.slice ha m hc) := B9.cell 1
        have x1 : w4.cell? ⟨g8, 1, none⟩ = some (.int .i64 xt) := X9.cell 1
        have x2 : w4.cell? ⟨g8, 2, none⟩ = some (.int .i64 xv) := X9.cell 2
        have fz : w4.frozen? ⟨g9, 1, none⟩ = false := B9.free 1
        have l9 := B9.lt
        have l8 := X9.lt
        have cP : ∀ W, Below w4.heap.size w4 W → Calls Try.prog 66 #[.slice ha m hc] W fun e w' => ∃ v', e = .returned v' ∧ w'.ownsRow w4.heap.size 43 2 v' m (cellsP hd) ∧ Below W.heap.size W w' ∧ Below w4.heap.size w4 w' ∧ v'.ownBlock ≠ some g8 ∧ v'.ownBlock ≠ some g9 ∧ w'.cell? ⟨g9, 1, none⟩ = some (.slice ha m hc) ∧ w'.cell? ⟨g8, 1, none⟩ = some (.int .i64 xt) ∧ w'.cell? ⟨g8, 2, none⟩ = some (.int .i64 xv) := by
          intro W hW
          have gg := (gW W (belB.trans (hW.mono belB.size))).hd
          refine (cloneP ha hc (cellsP hd) m W gg.row (by have := gg.le; rw [em.out]; exact this) gg.nil (by rw [cellsP_length, em.out]) (cellsP_one hd) (by omega)).mono ?_
          rintro e w' ⟨v', rfl, o', b'⟩
          have o2 := own_base o' hW.size
          have bb := hW.trans (b'.mono hW.size)
          refine ⟨v', rfl, o2, b', bb, ?_, ?_, (B9.keep bb l9).cell 1, (X9.keep bb l8).cell 1, (X9.keep bb l8).cell 2⟩
          · intro e; have := (o2.lt g8 e).1; omega
          · intro e; have := (o2.lt g9 e).1; omega
        have hone : ∀ u ∈ ([.int .i64 xt, .int .i64 xv] : List Value), u.oneCell' = true := by
          intro u hu
          simp only [List.mem_cons, List.not_mem_nil, or_false] at hu
          rcases hu with rfl | rfl <;> rfl
        have n89 : ¬ g8 = g9 := by omega
        have n98 : ¬ g9 = g8 := by omega
        have lo9 : wr.heap.size ≤ g9 := by omega
        go_cut [] from 35 to 60 (fun wx => ∃ (hg c6 : Nat), Blk wx g9 [.slice ba bn bc, .slice (some ⟨hg, 0, none⟩) (m + 1) c6] 56 ∧ wx.ownsRow w4.heap.size 43 2 (.slice (some ⟨hg, 0, none⟩) (m + 1) c6) (m + 1) (cellsP (hd ++ [(xt, xv)])) ∧ Blk wx g8 [.int .i64 s, .int .i64 xt, .int .i64 xv] 41 ∧ Below wr.heap.size wr wx)
        case first =>
          go_region_law
            (first
              | (refine step_go_call (by rfl) 66 (.tmp 36) 37 (by rfl) (.slice ha m hc) (by rfl) (by go_simp) (cP _ (by first | exact belowDrew (Below.refl _ _) | exact belowDrew (belowNew (Below.refl _ _) _) | exact belowNew (belowDrew (Below.refl _ _)) _)) (by rintro e w' ⟨v', rfl, _⟩; exact ⟨_, rfl⟩) ?_; rintro v5 w5 ⟨v5', ev5, own5, b5, bb5, n8, n9, z0, z1, z2⟩; obtain rfl := Ending.returned.inj ev5)
              | ((refine step_append_lies _ (by rfl) (.tmp 37) (.tmp 43) 37 (by rfl) w4.heap.size 43 i1 (.agg #[.int .i64 0, .int .i64 0]) 2 16 Try.underlying37 hi1 y0 y1 y2 rfl (by decide) v5 m _ (by rfl) (own5.alloc _) ⟨w5.heap.size, 0, none⟩ 1 1 [.int .i64 xt, .int .i64 xv] (by rfl) (by rfl) (World.news_of_block (cs := #[.int .i64 xt, .int .i64 xv]) (t := 43) (fr := (0, 0)) (heap_alloc_new w5 _)) hone (by decide) (by unfold maxLen; omega) (by omega) (by simp; exact Nat.le_succ_of_le bb5.size) (w5.heap.size + 1) (by simp) ?_; intro g6 c6 w6 own6 grow6 at6 lt6; have bb6 := belowGrown (belowNew bb5 _) (own5.alloc _) grow6 (Nat.le_refl _) (belowNew bb5 _).size; have u1 := (bb6.cell (p := ⟨g9, 1, none⟩) l9).trans q1; have v1 := (bb6.cell (p := ⟨g8, 1, none⟩) l8).trans x1; have v2 := (bb6.cell (p := ⟨g8, 2, none⟩) l8).trans x2; have fz6 := (bb6.frozen (p := ⟨g9, 1, none⟩) l9).trans fz))
              | ((refine step_append_lies _ (by rfl) (.tmp 37) (.tmp 43) 37 (by rfl) w4.heap.size 43 i1 (.agg #[.int .i64 0, .int .i64 0]) 2 16 Try.underlying37 hi1 y0 y1 y2 rfl (by decide) v5 m _ (by rfl) own5 ⟨w4.heap.size, 0, none⟩ 1 1 [.int .i64 xt, .int .i64 xv] (by rfl) (by rfl) (World.news_of_block (cs := #[.int .i64 xt, .int .i64 xv]) (t := 43) (fr := (0, 0)) ((b5.block w4.heap.size (by simp)).trans (heap_alloc_new w4 _))) hone (by decide) (by unfold maxLen; omega) (by omega) bb5.size w5.heap.size rfl ?_; intro g6 c6 w6 own6 grow6 at6 lt6; have bb6 := belowGrown bb5 own5 grow6 (Nat.le_refl _) bb5.size; have u1 := (bb6.cell (p := ⟨g9, 1, none⟩) l9).trans q1; have v1 := (bb6.cell (p := ⟨g8, 1, none⟩) l8).trans x1; have v2 := (bb6.cell (p := ⟨g8, 2, none⟩) l8).trans x2; have fz6 := (bb6.frozen (p := ⟨g9, 1, none⟩) l9).trans fz)))
          all_goals (
            go_wp2_with fail
            go_meet
            case rel =>
              have hx6 := (own6.lt g6 rfl).1
              have o7 := own6.kept (row := some g9) (grownSet (grownRefl w6 (some g9)) 1 (.slice (some ⟨g6, 0, none⟩) (m + 1) c6)) (.inr (fun e => by have : g6 = g9 := Option.some.inj e; omega))
              rw [show cellsP hd ++ [.int .i64 xt, .int .i64 xv] = cellsP (hd ++ [(xt, xv)]) by rw [cellsP_append]; rfl] at o7
              exact ⟨g6, c6, (B9.keep bb6 l9).set 1 _, o7, (X9.keep bb6 l8).other 1 _ n98, (belB.trans (bb6.mono belB.size)).setCell lo9 _⟩)
        case rest =>
          obtain ⟨hg, c6, B9, own9, X9, belC⟩ := hcut
          have lenE : (hd ++ [(xt, xv)]).length = m + 1 := by rw [List.length_append, ← em.out]; rfl
          have gnew : Lr.Good wc ⟨bs, ba, bc, hd ++ [(xt, xv)], some ⟨hg, 0, none⟩, c6⟩ := by
            obtain ⟨a3, G3, e3, s3, _, _⟩ := SlP.ofOwn own9
            simp only [Value.slice.injEq, true_and] at e3
            obtain ⟨rfl, rfl⟩ := e3
            have g0 := gW wc belC
            exact ⟨g0.bs, s3, g0.few, by simp only [lenE]; omega⟩
          have c5 := fun W h => refRow_any ⟨bs, ba, bc, hd ++ [(xt, xv)], some ⟨hg, 0, none⟩, c6⟩ W h
          obtain ⟨RE, hRE⟩ : ∃ RE, RE = rowE ⟨bs.map Lb.b, hd ++ [(xt, xv)]⟩ := ⟨_, rfl⟩
          rw [show Lr.rw ⟨bs, ba, bc, hd ++ [(xt, xv)], some ⟨hg, 0, none⟩, c6⟩ = ⟨bs.map Lb.b, hd ++ [(xt, xv)]⟩ from rfl, ← hRE] at c5
          generalize rowL ⟨bs.map Lb.b, hd ++ [(xt, xv)]⟩ = RL at c5
          unfold Lr.v at c5
          simp only [lenE] at c5
          rw [← eb.out] at c5
          have H0'' := H0'.out
          rw [← hRE] at H0'' hRput
          have rowsC := rows.keep belC rows.lt
          have BRC := BR.keep belC BR.lt
          have bel2 : Below w.heap.size w wc := bel.trans (belC.mono bel.size)
          have glC : ∀ r ∈ rs, r.Good wc := fun r hr => (gl.out r hr).keep belC (Nat.le_refl _)
          replace lenE := hide lenE
          replace hRE := hide hRE
          replace glC := hide glC
          have k0 : wc.cell? ⟨g9, 0, none⟩ = some (.slice ba bn bc) := B9.cell 0
          have k1 : wc.cell? ⟨g9, 1, none⟩ = some (.slice (some ⟨hg, 0, none⟩) (m + 1) c6) := B9.cell 1
          clear gW cP own9 hone q1 x1 x2 fz l8 l9 gl rows BR bel H0'
          by_cases h0 : RE = 0
          · rw [if_pos h0] at H0''
            replace H0'' := hide H0''
            have R2 := hide (hRput h0)
            clear hRput
            subst h0
            go_wp2_with fail
            go_at_call 47
            refine (c5 _ gnew).mono ?_
            rintro e w7 ⟨a7, G7, rfl, s7, b7⟩
            have B7 := B9.keep b7 B9.lt
            have X7 := X9.keep b7 X9.lt
            have rows7 := rowsC.keep b7 rowsC.lt
            have BR7 := BRC.keep b7 BRC.lt
            have bel7 := belowCall bel2 b7
            have g7 := gnew.call b7
            have gl7 : ∀ r ∈ rs, r.Good w7 := fun r hr => (glC.out r hr).call b7
            clear k0 k1 c5 b7 B9 X9 rowsC BRC bel2 gnew glC s7
            have k0 : w7.cell? ⟨g9, 0, none⟩ = some (.slice ba bn bc) := B7.cell 0
            have k1 : w7.cell? ⟨g9, 1, none⟩ = some (.slice (some ⟨hg, 0, none⟩) (m + 1) c6) := B7.cell 1
            have k2 : w7.cell? ⟨g8, 0, none⟩ = some (.int .i64 s) := X7.cell 0
            have l7 := rows7.lt
            have fz0 := rows7.free (s * 2)
            have fz1 := rows7.free (s * 2 + 1)
            obtain ⟨j0, j1⟩ := rows7.cells s _ hr.out
            have P7 := rows7.put s (by rw [l4.out]; exact hs4) ⟨bs, ba, bc, hd ++ [(xt, xv)], some ⟨hg, 0, none⟩, c6⟩
            simp only [lenE.out, ← eb.out] at P7 j0 j1
            obtain ⟨cs, Bcs, ocs⟩ := rows7.onlySl
            have grow := grownSet (grownSet (grownRefl w7 (some g)) (s * 2) (.slice ba bn bc)) (s * 2 + 1) (.slice (some ⟨hg, 0, none⟩) (m + 1) c6)
            have G8 : ∀ r ∈ rs.set s ⟨bs, ba, bc, hd ++ [(xt, xv)], some ⟨hg, 0, none⟩, c6⟩, r.Good ((w7.setCell ⟨g, s * 2, none⟩ (.slice ba bn bc)).setCell ⟨g, s * 2 + 1, none⟩ (.slice (some ⟨hg, 0, none⟩) (m + 1) c6)) := by
              intro r hr
              rcases List.mem_or_eq_of_mem_set hr with hr | rfl
              · exact (gl7 r hr).offSl grow Bcs ocs
              · exact g7.offSl grow Bcs ocs
            have BR8 := (BR7.other (s * 2) (.slice ba bn bc) (show g ≠ w.heap.size + 1 by omega)).other (s * 2 + 1) (.slice (some ⟨hg, 0, none⟩) (m + 1) c6) (show g ≠ w.heap.size + 1 by omega)
            have hlg : w.heap.size ≤ g := by omega
            have bel8 := (bel7.setCell (p := ⟨g, s * 2, none⟩) hlg (.slice ba bn bc)).setCell (p := ⟨g, s * 2 + 1, none⟩) hlg (.slice (some ⟨hg, 0, none⟩) (m + 1) c6)
            have esame : (rs.set s ⟨bs, ba, bc, hd ++ [(xt, xv)], some ⟨hg, 0, none⟩, c6⟩).map Lr.rw = (rs.map Lr.rw).set s ⟨bs.map Lb.b, hd ++ [(xt, xv)]⟩ := by rw [List.map_set]; rfl
            replace G8 := hide G8
            replace esame := hide esame
            clear gl7 g7 Bcs ocs grow
            go_wp2_with fail
            go_roundw
            case rel => exact ⟨k + 1, _, by omega, by go_num, by rw [esame.out]; exact H0'', by rw [esame.out]; exact H1', by rw [esame.out]; exact R2, P7, G8, BR8, bel8⟩
            case measure => simp [intOf]; omega
          · rw [if_neg h0] at H0''
            replace H0'' := hide H0''
            clear hRput
            go_wp2_with fail
            go_at_call 47
            refine (c5 _ gnew).mono ?_
            rintro e w7 ⟨a7, G7, rfl, s7, b7⟩
            have BR7 := BRC.keep b7 BRC.lt
            have bel7 := belowCall bel2 b7
            have lR := BR7.lt
            have fR := BR7.free 0
            have dR : w7.cell? ⟨w.heap.size + 1, 0, none⟩ = some (.slice none 0 0) := BR7.cell 0
            clear k0 k1 c5 b7
            go_wp2_with fail
            exact bodyPost_ret (v := .tuple #[.agg #[.slice none 0 0], .int .i64 RE]) (by simp [results, Try.results50, go_sem, dR]) rfl ⟨[], none, 0, by rw [H0''.out]; rfl, by rw [hZ.out, H0''.out, if_neg h0]; rfl, SlR.ofNil _, bel7.setCell (Nat.le_succ _) _⟩
    · obtain rfl : k = n := by omega
      have H0' := H0.out
      have H1' := H1.out
      rw [hn.out, List.drop_length] at H0' H1'
      rw [putsE] at H0'
      rw [putsL] at H1'
      have l4 : rs.length = 4 := by have := hR.out.four; rwa [List.length_map] at this
      have lR := BR.lt
      have fR := BR.free 0
      have dR : wr.cell? ⟨w.heap.size + 1, 0, none⟩ = some (.slice none 0 0) := BR.cell 0
      have grow := grownSet (grownRefl wr (some (w.heap.size + 1))) 0 (.slice (some ⟨g, 0, none⟩) 4 G)
      have S9 := (rows.other (w.heap.size + 1) 0 (.slice (some ⟨g, 0, none⟩) 4 G) (by omega)).slr (fun r hr => (gl.out r hr).offSl grow BR (onlyOne _ _ _))
      have b9 := bel.setCell (p := ⟨w.heap.size + 1, 0, none⟩) (Nat.le_succ w.heap.size) (.slice (some ⟨g, 0, none⟩) 4 G)
      replace H0' := hide H0'
      replace H1' := hide H1'
      replace l4 := hide l4
      clear H0 H1 grow gl hR
      go_wp2_with fail
      exact bodyPost_ret (v := .tuple #[.agg #[.slice (some ⟨g, 0, none⟩) 4 G], .int .i64 0]) (by simp [results, Try.results50, go_sem, dR]) rfl ⟨rs, _, _, by rw [H0'.out, l4.out], by rw [hZ.out, H0'.out, H1'.out]; rfl, S9, b9⟩

/-- PutAll, of a shelf that is right. -/
theorem refPut_any (l : List Lr) (ao : Option Addr) (cap : Nat) (L : List En) (la : Option Addr) (lc : Nat) (w : World) (hs : SlR w ao cap l) (hL : SlW En.cells w la lc L) (few : L.length ≤ 140737488355328) (hR : Right (l.map Lr.rw)) :
    Calls Try.prog 50 #[.agg #[.slice ao l.length cap], .slice la L.length lc] w fun e w' =>
      ∃ rs a' G, e = .returned (.tuple #[.agg #[.slice a' rs.length G], .int .i64 (bputE (l.map Lr.rw) L)]) ∧ rs.map Lr.rw = bputL (l.map Lr.rw) L ∧ SlR w' a' G rs ∧ Below w.heap.size w w' := by
  have h4 : l.length = 4 := by have := hR.four; rwa [List.length_map] at this
  by_cases h : 10 < L.length
  · have e : bputE (l.map Lr.rw) L = 2 := by unfold bputE; rw [if_pos h]
    refine (refPut_many l.length ao cap la L.length lc w h few).mono ?_
    rintro _ w' ⟨rfl, b⟩
    exact ⟨[], none, 0, by rw [e]; rfl, by unfold bputL; rw [e]; rfl, SlR.ofNil _, b⟩
  · have e : bputE (l.map Lr.rw) L = putsE (l.map Lr.rw) L := by unfold bputE; rw [if_neg h]
    unfold bputL
    rw [e, h4]
    exact refPut_few l ao cap L la lc w hs hL hR (by omega)

end Go.Proofs.Ytabeihkfjlmepaa
