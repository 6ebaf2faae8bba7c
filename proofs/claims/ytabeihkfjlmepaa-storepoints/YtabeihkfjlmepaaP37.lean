/-
  The points of all batches, and what of them is there, as plain lists. No program is named.
-/
import Derived.Lib.MinMax
import Derived.Test.YtabeihkfjlmepaaP20
import Derived.Test.YtabeihkfjlmepaaP01
import Derived.Test.YtabeihkfjlmepaaP34
import Derived.Test.YtabeihkfjlmepaaP24
namespace Go.Proofs.Ytabeihkfjlmepaa

/-- What records say of a series. -/
def ptsOf (s : Int) (l : List Rc) : List Pt := l.flatMap (fun r => entPts s (enL r.e))

def leastR (b : Int) (r : Rc) : Int := if r.k = 4 then max b r.n else b

def leastOf (b : Int) (l : List Rc) : Int := l.foldl leastR b

/-- What is there is the end of all; what is ahead of it lies ahead of b. -/
def EndOf (s : Nat) (C : List Rw) (A : List Pt) (b : Int) : Prop :=
  ∃ m, m ≤ A.length ∧ allPts (C.getD s rw0) = A.drop m ∧ ∀ p ∈ A.take m, p.1 < b

theorem no_ents {r : Rc} (h : recE r = 0) (hk : r.k ≠ 1) : r.e = [] := by
  unfold recE at h
  rw [if_neg hk] at h
  split at h
  · split at h
    · cases h
    · rename_i h1
      exact Decidable.byContradiction fun e => h1 (.inl e)
  · cases h

theorem end_step {s : Nat} {C : List Rw} {r : Rc} {A : List Pt} {b : Int} (hs : s < 4) (h : nextE C r = 0) (hP : EndOf s C A b) : EndOf s (nextL C r) (A ++ entPts s (enL r.e)) (leastR b r) := by
  obtain ⟨hz, hr, hw, hL⟩ := next_zero h
  obtain ⟨w1, w2, w3, w4⟩ := work_of C r
  obtain ⟨m, hm, e1, e2⟩ := hP
  rw [hL]
  by_cases k1 : r.k = 1
  · obtain ⟨x1, x2⟩ := w1 k1
    rw [x1] at hw
    obtain ⟨_, y1, y2⟩ := bput_zero hw
    rw [x2, y2]
    unfold leastR
    rw [if_neg (by omega)]
    refine ⟨m, by rw [List.length_append]; omega, ?_, ?_⟩
    · rw [puts_all _ _ (right_len hz) y1 s hs, e1, List.drop_append_of_le_length hm]
    · rw [List.take_append_of_le_length hm]
      exact e2
  · have he := no_ents hr k1
    rw [he]
    have e0 : A ++ entPts s (enL []) = A := by simp [entPts, enL]
    rw [e0]
    rcases kind_of hr with k | k | k | k
    · exact absurd k k1
    · obtain ⟨x1, x2⟩ := w2 k
      rw [x1] at hw
      unfold leastR
      rw [x2, if_neg (by omega)]
      exact ⟨m, hm, by rw [(seal_zero hz hw).2]; exact e1, e2⟩
    · obtain ⟨x1, x2⟩ := w3 k
      rw [x1] at hw
      unfold leastR
      rw [x2, if_neg (by omega)]
      exact ⟨m, hm, by rw [(mrg_zero hz hw).2]; exact e1, e2⟩
    · obtain ⟨x1, x2⟩ := w4 k
      rw [x1] at hw
      unfold leastR
      rw [x2, if_pos k]
      obtain ⟨h4, hmem⟩ := shelfE_mem hz
      obtain ⟨_, m', hm', e3, e4⟩ := drop_row (n := r.n) (hmem _ (getD_mem (l := C) (k := s) (by omega)))
      unfold dropL
      rw [if_pos hw]
      rw [e1] at hm' e3 e4
      rw [List.length_drop] at hm'
      refine ⟨m + m', by omega, ?_, ?_⟩
      · rw [(drop_zero hz).2 s hs, e3, List.drop_drop]
      · intro p hp
        rw [List.take_add] at hp
        rcases List.mem_append.1 hp with hp | hp
        · have := e2 p hp
          omega
        · have := e4 p hp
          omega
 where
  kind_of {r : Rc} (h : recE r = 0) : r.k = 1 ∨ r.k = 2 ∨ r.k = 3 ∨ r.k = 4 := by
    unfold recE at h
    split at h
    · exact .inl (by assumption)
    · split at h
      · rename_i h1
        exact .inr h1
      · cases h

theorem end_all {s : Nat} (hs : s < 4) : ∀ (l : List Rc) (C : List Rw) (A : List Pt) (b : Int), (workAll C l).2 = 0 → EndOf s C A b → EndOf s (workAll C l).1 (A ++ ptsOf s l) (leastOf b l)
  | [], C, A, b, _, hP => by simpa [workAll, ptsOf, leastOf] using hP
  | r :: l, C, A, b, h, hP => by
    rw [workAll_cons] at h ⊢
    split at h
    · rename_i h0
      rw [if_pos h0]
      have := end_all hs l _ _ _ h (end_step hs h0 hP)
      have e : A ++ ptsOf s (r :: l) = (A ++ entPts s (enL r.e)) ++ ptsOf s l := by simp [ptsOf]
      rw [e]
      exact this
    · rename_i h0
      exact absurd h h0

/-- All of it, from a new shelf on. -/
theorem end_repl {s : Nat} (hs : s < 4) {l : List Rc} (h : replE l = 0) : EndOf s (replL l) (ptsOf s l) (leastOf 0 l) ∧ shelfE (replL l) = 0 ∧ l.length ≤ 60 ∧ ∀ r ∈ l, recE r = 0 := by
  unfold replE at h
  split at h
  · cases h
  · rename_i h60
    have e : replL l = (workAll newS l).1 := if_neg h60
    rw [e]
    refine ⟨?_, workAll_right l _ fresh_right h, by omega, all_right l newS h⟩
    have h0 : EndOf s newS [] 0 := by
      refine ⟨0, Nat.le_refl _, ?_, fun p hp => by simp at hp⟩
      match s, hs with
      | 0, _ => rfl
      | 1, _ => rfl
      | 2, _ => rfl
      | 3, _ => rfl
    have := end_all hs l newS [] 0 h h0
    simpa using this
 where
  all_right : ∀ (l : List Rc) (C : List Rw), (workAll C l).2 = 0 → ∀ r ∈ l, recE r = 0
  | [], _, _, r, hr => by simp at hr
  | x :: l, C, h, r, hr => by
    rw [workAll_cons] at h
    split at h
    · rename_i h0
      rcases List.mem_cons.1 hr with rfl | hr
      · exact (next_zero h0).2.1
      · exact all_right l _ h r hr
    · rename_i h0
      exact absurd h h0

end Go.Proofs.Ytabeihkfjlmepaa

/-
  'at' of the laws: a number brought within bounds; it touches no memory.
-/
namespace Go.Proofs.Ytabeihkfjlmepaa
open Go.RowKit

/-- 'at': a number brought within bounds. -/
theorem at_any (k n : Int) (w : World) (hn : 1 ≤ n) (hn2 : n ≤ 1152921504606846976) :
    Calls Try.prog 11 #[.int .i64 k, .int .i64 n] w fun e w' => e = .returned (.int .i64 (k % n)) ∧ w = w' := by
  go_enter Try.func11, Try.ntmps11
  go_wp2
  · have h : k.tmod n < 0 := by assumption
    go_ret
    have e := tmod_up' hn h
    have b1 := Int.emod_nonneg k (show n ≠ 0 by omega)
    have b2 := Int.emod_lt_of_pos k (show 0 < n by omega)
    exact ⟨ret_int (by rw [e]; unfold wrap64; omega), rfl⟩
  · have h : 0 ≤ k.tmod n := by assumption
    go_ret
    exact ⟨ret_int (tmod_up hn h), rfl⟩

end Go.Proofs.Ytabeihkfjlmepaa

/-
  StorePoints: the walk.
-/
namespace Go.Proofs.Ytabeihkfjlmepaa.storePoints
open Go.RowKit Go.Proofs.Ytabeihkfjlmepaa.storeSays
set_option linter.unusedVariables false

theorem infoPo : (Try.prog.info? 43).map (fun i => (i.zero, i.size, i.bytes)) = some (some (.agg #[.int .i64 0, .int .i64 0]), 2, 16) := by kernel_rfl

theorem ents_snoc {s : Int} {l : List Nt} {j : Nat} {x : Nt} (h : l[j]? = some x) : entPts s (enL (l.take (j + 1))) = entPts s (enL (l.take j)) ++ (if x.1 = s then [(x.2.1, x.2.2)] else []) := by
  rw [List.take_add_one, h]
  unfold entPts enL
  rw [List.map_append, List.filter_append, List.map_append]
  congr 1
  by_cases hx : x.1 = s
  · simp [enOf, hx]
  · simp [enOf, hx]

theorem ents_len (s : Int) (l : List Nt) : (entPts s (enL l)).length ≤ l.length := by
  unfold entPts enL
  rw [List.length_map]
  exact Nat.le_trans (List.length_filter_le _ _) (by rw [List.length_map]; exact Nat.le_refl _)

theorem pts_snoc {s : Int} {l : List Rc} {k : Nat} {r : Rc} (h : l[k]? = some r) : ptsOf s (l.take (k + 1)) = ptsOf s (l.take k) ++ entPts s (enL r.e) := by
  rw [List.take_add_one, h]
  simp [ptsOf]

theorem least_snoc {b : Int} {l : List Rc} {k : Nat} {r : Rc} (h : l[k]? = some r) : leastOf b (l.take (k + 1)) = leastR (leastOf b (l.take k)) r := by
  rw [List.take_add_one, h]
  simp [leastOf]

theorem tails {A N : List Pt} {m nA nn : Nat} (hm : m ≤ A.length) (hnA : nA = A.length) (e1 : N = A.drop m) (hnn : nn = N.length) (few : nA ≤ 10 * 60) :
    m ≤ nA ∧ (¬ (nA : Int) < (nn : Int)) ∧ (nA : Int) - (nn : Int) = (m : Int) ∧ wrap64 (m : Int) = (m : Int) ∧ IntKind.i64.wrap ((nA : Int) - (nn : Int)) = (m : Int) ∧ (A.drop m).length = nA - m ∧ nn = nA - m ∧ nn ≤ 4611686018427387904 ∧ nA - m ≤ 4611686018427387904 := by
  have h1 : (A.drop m).length = nA - m := by rw [List.length_drop, hnA]
  have h2 : nn = nA - m := by rw [hnn, e1, h1]
  refine ⟨by omega, by omega, by omega, by unfold wrap64; omega, by rw [IntKind.wrap_i64]; omega, h1, h2, by omega, by omega⟩

set_option maxHeartbeats 8000000 in
set_option maxRecDepth 100000 in
theorem walk (w : World) (l : List Lrc) (la : Option Addr) (lc ln : Nat) (SL : SlRec w la lc l) (hln : ln = l.length) (n : Int) (wn : (Lit.int .i64 n).wf = true) :
    Calls Try.prog 4 #[.slice la ln lc, .int .i64 n] w fun e w' => e = .returned (.bool true) ∧ Below w.heap.size w w' := by
  obtain ⟨s, hs, es⟩ : ∃ s : Nat, s < 4 ∧ n % 4 = s := ⟨(n % 4).toNat, by omega, by omega⟩
  have cT := fun W => at_any n 4 W (by omega) (by omega)
  rw [es] at cT
  obtain ⟨dn, hdn⟩ : ∃ d, Hid (d = (replL (l.map (·.r))).length) := ⟨_, hide rfl⟩
  have cR := fun W S => replay_any l la ln lc dn W S (hide hln) hdn
  have hmain := fun h : replE (l.map (·.r)) = 0 => end_repl hs h
  obtain ⟨R, hR⟩ : ∃ R, R = l.map (·.r) := ⟨_, rfl⟩
  rw [← hR] at hdn cR hmain
  have hxR : ∀ (k : Nat) (x : Lrc), l[k]? = some x → R[k]? = some x.r := by
    intro k x hx
    rw [hR, List.getElem?_map, hx]
    rfl
  have hRl : R.length = ln := by rw [hR, List.length_map, hln]
  have hlc : ln ≤ lc := by rw [hln]; exact SL.row.le
  have hlm : lc ≤ 9223372036854775807 := SL.row.max
  generalize hE : replE R = E at *
  generalize replL R = C at *
  replace hE := hide hE
  replace hR := hide hR
  replace hRl := hide hRl
  replace hln := hide hln
  replace es := hide es
  go_enter Try.func4, Try.ntmps4
  go_wp2_with fail
  go_at_call 11
  refine (cT _).mono ?_
  rintro e w0 ⟨rfl, rfl⟩
  go_wp2_with fail
  go_at_call 6
  refine ((cR _ SL).mono fun _ _ h => mk_laid h).mono ?_
  rintro e w1 ⟨a1, G1, rfl, BS, bel⟩
  clear cR cT
  go_upto_region 3 with fail
  generalize w1.heap.size = gS at *
  generalize World.alloc w1 _ = v1 at *
  go_wp2_with fail
  go_at_call 9
  refine (stored_any _).mono ?_
  rintro e w2 ⟨rfl, b2⟩
  replace BS := BS.call b2
  replace bel := belowCall bel b2
  clear b2
  by_cases hz : E = 0
  · subst hz
    obtain ⟨hend, hright, h60, hrecs⟩ := hmain rfl
    have h4 := right_len hright
    obtain rfl : dn = 4 := by rw [hdn.out, h4]
    have hA : allE C (s : Int) = 0 := by
      unfold allE inI
      rw [if_pos hright, if_neg (by simp; omega)]
    have hL : allL C (s : Int) = allPts (C.getD s rw0) := by
      unfold allL
      rw [if_pos hA, Int.toNat_natCast]
    obtain ⟨m, hm, e1, e2⟩ := hend
    have cA := fun W (h : IsS W a1 G1 C) => all_is (s : Int) h
    rw [h4, hA, hL] at cA
    obtain ⟨N, hN⟩ : ∃ N, N = allPts (C.getD s rw0) := ⟨_, rfl⟩
    rw [← hN] at cA e1
    obtain ⟨nn, hnn⟩ : ∃ nn, nn = N.length := ⟨_, rfl⟩
    rw [← hnn] at cA
    replace hnn := hide hnn
    replace hN := hide hN
    clear hmain hA hL
    have x0 := BS.blk.cell 0
    have xl := BS.blk.lt
    go_wp2_with fail
    go_at_call 12
    refine (cA _ BS.is).mono ?_
    rintro e w9 ⟨aN, GN, rfl, oN, b9⟩
    obtain ⟨aN', GN', eN, SN, _, _⟩ := SlP.ofOwn oN
    simp only [Value.slice.injEq, true_and] at eN
    obtain ⟨rfl, rfl⟩ := eN
    replace bel := belowCall bel b9
    have S9 := SL.keep bel (Nat.le_refl _)
    clear x0 xl cA BS oN b9 h4 hright hdn
    obtain ⟨i0, hi, hz0, hz1, hz2⟩ := info_parts infoPo
    have hln60 : ln ≤ 60 := by rw [← hRl.out]; exact h60
    go_wp2_with fail
    go_loopw [8, 9, 40] (fun s8 s9 s40 wr => ∃ (k nA GA : Nat) (aA : Option Addr) (A : List Pt) (b : Int), k ≤ ln ∧ s40 = .int .i64 k ∧ s8 = .slice aA nA GA ∧ s9 = .int .i64 b ∧ nA ≤ 10 * k ∧ Hid (nA = A.length) ∧ Hid (A = ptsOf s (R.take k)) ∧ Hid (b = leastOf 0 (R.take k)) ∧ wr.ownsRow w9.heap.size 43 2 (.slice aA nA GA) nA (cellsP A) ∧ Below w9.heap.size w9 wr) (fun _ _ i _ => ln - (intOf i).toNat)
    case atStart => exact ⟨0, 0, 0, none, [], 0, Nat.zero_le _, rfl, rfl, rfl, Nat.zero_le _, rfl, by simp [Hid, ptsOf], by simp [Hid, leastOf], World.ownsRow_nil _ _ _ _, Below.refl _ _⟩
    case round =>
      obtain ⟨k, nA, GA, aA, A, b, hk, rfl, rfl, rfl, hnA10, hnA, hA, hb, own, belr⟩ := hrel
      by_cases hlt : k < ln
      · have hkl : k < l.length := by rw [← hln.out]; exact hlt
        obtain ⟨x, hx⟩ : ∃ x, l[k]? = some x := ⟨_, List.getElem?_eq_getElem hkl⟩
        obtain ⟨lb, lo, rfl, hlb⟩ := S9.row.where Lrc.four (by decide) (by intro h; subst h; simp at hkl)
        have S' := S9.keep belr (Nat.le_refl _)
        have d0 := S'.row.cell Lrc.four k 0 x _ hx rfl
        have d1 := S'.row.cell Lrc.four k 1 x _ hx rfl
        have d2 := S'.row.cell Lrc.four k 2 x _ hx rfl
        have d3 := S'.row.cell Lrc.four k 3 x _ hx rfl
        simp only [Nat.add_zero] at d0
        have llb := Nat.lt_of_lt_of_le hlb belr.size
        have hent := S9.ent x (List.mem_of_getElem? hx)
        have hkR := hxR k x hx
        have hq10 := few_rec (hrecs _ (List.mem_of_getElem? hkR))
        have hb2 := least_snoc (b := 0) hkR
        rw [← hb.out] at hb2
        obtain ⟨⟨K, s', m', es'⟩, xa, xc⟩ := x
        simp only at d0 d1 d2 d3 hent hkR hq10 hb2
        obtain ⟨q, hq⟩ : ∃ q, q = es'.length := ⟨_, rfl⟩
        rw [← hq] at d3 hq10
        replace hq := hide hq
        replace hkR := hide hkR
        have BC := Blk.laid wr [.int .i64 K, .int .i64 s', .int .i64 m', .slice xa q xc] 27 _ rfl
        have bel4 := newB belr (.cells #[.int .i64 K, .int .i64 s', .int .i64 m', .slice xa q xc] 27)
        have own4 := own.alloc (.cells #[.int .i64 K, .int .i64 s', .int .i64 m', .slice xa q xc] 27)
        clear S' hkl hx own belr
        go_upto_region 13 with fail
        generalize wr.heap.size = gC at *
        generalize World.alloc wr _ = w4 at *
        have x0 := BC.cell 0
        have x1 := BC.cell 1
        have x2 := BC.cell 2
        have x3 := BC.cell 3
        have lC := BC.lt
        clear d0 d1 d2 d3 llb
        by_cases hK : K = 4
        · subst hK
          have hmx : max b m' = leastR b ⟨4, s', m', es'⟩ := (if_pos rfl).symm
          obtain ⟨b', hb''⟩ : ∃ b', b' = leastR b ⟨4, s', m', es'⟩ := ⟨_, rfl⟩
          rw [← hb''] at hmx hb2
          have hb' := hide hb2.symm
          clear hb'' hb2
          go_wp2_with fail
          go_loopw [8, 54] (fun s8 s54 wq => ∃ (j nB GB : Nat) (aB : Option Addr) (O : List Pt), j ≤ q ∧ s54 = .int .i64 j ∧ s8 = .slice aB nB GB ∧ nB ≤ nA + j ∧ Hid (nB = O.length) ∧ Hid (O = A ++ entPts s (enL (es'.take j))) ∧ wq.ownsRow w9.heap.size 43 2 (.slice aB nB GB) nB (cellsP O) ∧ Below w9.heap.size w9 wq) (fun _ i _ => q - (intOf i).toNat)
          case atStart => exact ⟨0, nA, GA, aA, A, Nat.zero_le _, rfl, rfl, Nat.le_refl _, hnA, by simp [Hid, entPts, enL], own4, bel4⟩
          case round =>
            clear own4 bel4 x0 x1 x2 x3 lC BC
            rename World => wq
            obtain ⟨j, nB, GB, aB, O, hj, rfl, rfl, hnB, eqB, eO, own, belq⟩ := hrel
            by_cases hjq : j < q
            · have hje : j < es'.length := by rw [← hq.out]; exact hjq
              obtain ⟨y, hy⟩ : ∃ y, es'[j]? = some y := ⟨_, List.getElem?_eq_getElem hje⟩
              obtain ⟨eb, eo, rfl, heb⟩ := hent.where ec_three (by decide) (by intro h; subst h; simp at hje)
              have T := hent.keep belq (Nat.le_refl _)
              have t0 := T.cell ec_three j 0 y _ hy rfl
              have t1 := T.cell ec_three j 1 y _ hy rfl
              have t2 := T.cell ec_three j 2 y _ hy rfl
              simp only [Nat.add_zero] at t0
              have leb := Nat.lt_of_lt_of_le heb belq.size
              have st := ents_snoc (s := (s : Int)) hy
              obtain ⟨ys, yt, yv⟩ := y
              simp only at t0 t1 t2 st
              have o2 := own.alloc (.cells #[.int .i64 ys, .int .i64 yt, .int .i64 yv] 41)
              have bel2 := newB belq (.cells #[.int .i64 ys, .int .i64 yt, .int .i64 yv] 41)
              have BY := Blk.laid wq [.int .i64 ys, .int .i64 yt, .int .i64 yv] 41 _ rfl
              have hes := es.out
              by_cases hys : ys = s
              · subst hys
                rw [if_pos rfl] at st
                have eO2 : Hid (O ++ [(yt, yv)] = A ++ entPts s (enL (es'.take (j + 1)))) := by
                  rw [st, eO.out, List.append_assoc]
                  exact hide rfl
                replace st := hide st
                clear hy T own hes hje
                go_upto_region 18 with fail
                generalize wq.heap.size = gY at *
                generalize World.alloc wq _ = w8 at *
                have v0 : w8.cell? ⟨gY, 0, none⟩ = some (.int .i64 s) := BY.cell 0
                have v1 : w8.cell? ⟨gY, 1, none⟩ = some (.int .i64 yt) := BY.cell 1
                have v2 : w8.cell? ⟨gY, 2, none⟩ = some (.int .i64 yv) := BY.cell 2
                have lY := BY.lt
                have hbz := bel2.size
                clear t0 t1 t2 leb
                go_wp2_with (at_builtin; refine wpList_append_new w8 rfl (.tmp 62) (.tmp 68) 37 rfl w9.heap.size 43 i0 _ 2 16 Try.underlying37 hi hz0 hz1 hz2 rfl (by decide) (.slice aB nB GB) nB _ (by rfl) o2 1 #[.int .i64 yt, .int .i64 yv] 43 (by rfl) (by rfl) (by simp [Value.oneCell']) (by decide) (by unfold maxLen; omega) (by omega) hbz ?_)
                intro v9 w7 own9 grow9 went9
                have bel9 := belowGrown bel2 o2 grow9 (Nat.le_refl _) hbz
                rw [show cellsP O ++ (#[Value.int .i64 yt, .int .i64 yv] : Array Value).toList = cellsP (O ++ [(yt, yv)]) by rw [cellsP_append]; rfl] at own9
                obtain ⟨a9, G9, rfl, _, _, _⟩ := SlP.ofOwn own9
                have eq9 : Hid (nB + 1 = (O ++ [(yt, yv)]).length) := by rw [List.length_append, ← eqB.out]; exact hide rfl
                go_wp2_with fail
                go_roundw
                case rel => exact ⟨j + 1, nB + 1, G9, a9, _, by omega, by go_num, rfl, by omega, eq9, eO2, own9, bel9⟩
                case measure => simp [intOf]; omega
              · rw [if_neg hys, List.append_nil] at st
                have eO2 : Hid (O = A ++ entPts s (enL (es'.take (j + 1)))) := by rw [st]; exact eO
                replace st := hide st
                clear hy T own hes hje
                go_upto_region 18 with fail
                generalize wq.heap.size = gY at *
                generalize World.alloc wq _ = w8 at *
                have v0 : w8.cell? ⟨gY, 0, none⟩ = some (.int .i64 ys) := BY.cell 0
                have lY := BY.lt
                clear t0 t1 t2 leb
                go_wp2_with fail
                go_roundw
                case rel => exact ⟨j + 1, nB, GB, aB, O, by omega, by go_num, rfl, by omega, eqB, eO2, o2, bel2⟩
                case measure => simp [intOf]; omega
            · obtain rfl : j = q := by omega
              have hA' : Hid (O = ptsOf s (R.take (k + 1))) := by
                rw [pts_snoc hkR.out, ← hA.out, eO.out, List.take_of_length_le (by rw [← hq.out]; exact Nat.le_refl _)]
                exact hide rfl
              go_wp2_with fail
              go_roundw
              case rel => exact ⟨k + 1, nB, GB, aB, O, b', by omega, by go_num, rfl, rfl, by omega, eqB, hA', hb', own, belq⟩
              case measure => simp [intOf]; omega
        · obtain ⟨b', hb''⟩ : ∃ b', b' = leastR b ⟨K, s', m', es'⟩ := ⟨_, rfl⟩
          have hbb : b = b' := by rw [hb'']; exact (if_neg hK).symm
          rw [← hb''] at hb2
          have hb' := hide hb2.symm
          clear hb'' hb2 hb
          subst hbb
          have hKd : (K == 4) = false := beq_eq_false_iff_ne.2 hK
          go_wp2_with fail
          go_loopw [8, 54] (fun s8 s54 wq => ∃ (j nB GB : Nat) (aB : Option Addr) (O : List Pt), j ≤ q ∧ s54 = .int .i64 j ∧ s8 = .slice aB nB GB ∧ nB ≤ nA + j ∧ Hid (nB = O.length) ∧ Hid (O = A ++ entPts s (enL (es'.take j))) ∧ wq.ownsRow w9.heap.size 43 2 (.slice aB nB GB) nB (cellsP O) ∧ Below w9.heap.size w9 wq) (fun _ i _ => q - (intOf i).toNat)
          case atStart => exact ⟨0, nA, GA, aA, A, Nat.zero_le _, rfl, rfl, Nat.le_refl _, hnA, by simp [Hid, entPts, enL], own4, bel4⟩
          case round =>
            clear own4 bel4 x0 x1 x2 x3 lC BC
            rename World => wq
            obtain ⟨j, nB, GB, aB, O, hj, rfl, rfl, hnB, eqB, eO, own, belq⟩ := hrel
            by_cases hjq : j < q
            · have hje : j < es'.length := by rw [← hq.out]; exact hjq
              obtain ⟨y, hy⟩ : ∃ y, es'[j]? = some y := ⟨_, List.getElem?_eq_getElem hje⟩
              obtain ⟨eb, eo, rfl, heb⟩ := hent.where ec_three (by decide) (by intro h; subst h; simp at hje)
              have T := hent.keep belq (Nat.le_refl _)
              have t0 := T.cell ec_three j 0 y _ hy rfl
              have t1 := T.cell ec_three j 1 y _ hy rfl
              have t2 := T.cell ec_three j 2 y _ hy rfl
              simp only [Nat.add_zero] at t0
              have leb := Nat.lt_of_lt_of_le heb belq.size
              have st := ents_snoc (s := (s : Int)) hy
              obtain ⟨ys, yt, yv⟩ := y
              simp only at t0 t1 t2 st
              have o2 := own.alloc (.cells #[.int .i64 ys, .int .i64 yt, .int .i64 yv] 41)
              have bel2 := newB belq (.cells #[.int .i64 ys, .int .i64 yt, .int .i64 yv] 41)
              have BY := Blk.laid wq [.int .i64 ys, .int .i64 yt, .int .i64 yv] 41 _ rfl
              have hes := es.out
              by_cases hys : ys = s
              · subst hys
                rw [if_pos rfl] at st
                have eO2 : Hid (O ++ [(yt, yv)] = A ++ entPts s (enL (es'.take (j + 1)))) := by
                  rw [st, eO.out, List.append_assoc]
                  exact hide rfl
                replace st := hide st
                clear hy T own hes hje
                go_upto_region 18 with fail
                generalize wq.heap.size = gY at *
                generalize World.alloc wq _ = w8 at *
                have v0 : w8.cell? ⟨gY, 0, none⟩ = some (.int .i64 s) := BY.cell 0
                have v1 : w8.cell? ⟨gY, 1, none⟩ = some (.int .i64 yt) := BY.cell 1
                have v2 : w8.cell? ⟨gY, 2, none⟩ = some (.int .i64 yv) := BY.cell 2
                have lY := BY.lt
                have hbz := bel2.size
                clear t0 t1 t2 leb
                go_wp2_with (at_builtin; refine wpList_append_new w8 rfl (.tmp 62) (.tmp 68) 37 rfl w9.heap.size 43 i0 _ 2 16 Try.underlying37 hi hz0 hz1 hz2 rfl (by decide) (.slice aB nB GB) nB _ (by rfl) o2 1 #[.int .i64 yt, .int .i64 yv] 43 (by rfl) (by rfl) (by simp [Value.oneCell']) (by decide) (by unfold maxLen; omega) (by omega) hbz ?_)
                intro v9 w7 own9 grow9 went9
                have bel9 := belowGrown bel2 o2 grow9 (Nat.le_refl _) hbz
                rw [show cellsP O ++ (#[Value.int .i64 yt, .int .i64 yv] : Array Value).toList = cellsP (O ++ [(yt, yv)]) by rw [cellsP_append]; rfl] at own9
                obtain ⟨a9, G9, rfl, _, _, _⟩ := SlP.ofOwn own9
                have eq9 : Hid (nB + 1 = (O ++ [(yt, yv)]).length) := by rw [List.length_append, ← eqB.out]; exact hide rfl
                go_wp2_with fail
                go_roundw
                case rel => exact ⟨j + 1, nB + 1, G9, a9, _, by omega, by go_num, rfl, by omega, eq9, eO2, own9, bel9⟩
                case measure => simp [intOf]; omega
              · rw [if_neg hys, List.append_nil] at st
                have eO2 : Hid (O = A ++ entPts s (enL (es'.take (j + 1)))) := by rw [st]; exact eO
                replace st := hide st
                clear hy T own hes hje
                go_upto_region 18 with fail
                generalize wq.heap.size = gY at *
                generalize World.alloc wq _ = w8 at *
                have v0 : w8.cell? ⟨gY, 0, none⟩ = some (.int .i64 ys) := BY.cell 0
                have lY := BY.lt
                clear t0 t1 t2 leb
                go_wp2_with fail
                go_roundw
                case rel => exact ⟨j + 1, nB, GB, aB, O, by omega, by go_num, rfl, by omega, eqB, eO2, o2, bel2⟩
                case measure => simp [intOf]; omega
            · obtain rfl : j = q := by omega
              have hA' : Hid (O = ptsOf s (R.take (k + 1))) := by
                rw [pts_snoc hkR.out, ← hA.out, eO.out, List.take_of_length_le (by rw [← hq.out]; exact Nat.le_refl _)]
                exact hide rfl
              go_wp2_with fail
              go_roundw
              case rel => exact ⟨k + 1, nB, GB, aB, O, b, by omega, by go_num, rfl, rfl, by omega, eqB, hA', hb', own, belq⟩
              case measure => simp [intOf]; omega
      · obtain rfl : k = ln := by omega
        have hAR : A = ptsOf s R := by rw [hA.out, List.take_of_length_le (by rw [hRl.out]; exact Nat.le_refl _)]
        have hbR : b = leastOf 0 R := by rw [hb.out, List.take_of_length_le (by rw [hRl.out]; exact Nat.le_refl _)]
        rw [← hAR] at hm e1 e2
        rw [← hbR] at e2
        obtain ⟨aA', GA', eA, SA, _, _⟩ := SlP.ofOwn own
        simp only [Value.slice.injEq, true_and] at eA
        obtain ⟨rfl, rfl⟩ := eA
        have SN' := SN.keep belr (Nat.le_refl _)
        have belw := belowCall bel belr
        obtain ⟨hmA, q1, -, hs2, hs3, hdl, hNm, hN6, hD6⟩ := tails hm hnA.out e1 hnn.out (Nat.le_trans hnA10 (Nat.mul_le_mul_left 10 hln60))
        have SP := SlP.part SA m nA hmA (by rw [← hnA.out]; exact Nat.le_refl _)
        rw [List.take_of_length_le (by rw [← hnA.out]; exact Nat.le_refl _)] at SP
        have hmG : m ≤ GA := Nat.le_trans hm SA.le
        have hnG : nA ≤ GA := by rw [hnA.out]; exact SA.le
        have hGm : GA ≤ 9223372036854775807 := SA.max
        have hm63 : m ≤ 9223372036854775807 := Nat.le_trans hmG hGm
        have cE := equalPt aN _ GN _ N (A.drop m) wr SN' SP (by rw [← hnn.out]; exact hN6) (by rw [hdl]; exact hD6)
        rw [decide_eq_true e1, hdl, ← hnn.out] at cE
        replace e2 := hide e2
        replace hAR := hide hAR
        replace hbR := hide hbR
        replace e1 := hide e1
        replace hNm := hide hNm
        replace hdl := hide hdl
        clear own hA hb
        by_cases hG : GA = m
        · have hG' : (GA = m) = True := eq_true hG
          rw [if_pos hG] at cE
          clear hG
          replace e2 := e2.out
          go_wp2_with fail
          go_at_call 13
          refine cE.mono ?_
          rintro e wz ⟨rfl, qz, rfl⟩
          replace SA := SA.drewN qz
          replace belw := belowDrewN belw qz
          clear cE SP SN'
          generalize wr.drewN qz = wz at *
          go_wp2_with fail
          go_loopw [97] (fun i wq => ∃ (j : Nat), j ≤ m ∧ i = .int .i64 j ∧ Below wz.heap.size wz wq) (fun i _ => m - (intOf i).toNat)
          case atStart => exact ⟨0, Nat.zero_le _, rfl, Below.refl _ _⟩
          case round =>
            clear hs2 hs3 hN6 hD6 q1 hnG hmA
            rename World => wq
            obtain ⟨j, hj, rfl, belq⟩ := hrel
            by_cases hjm : j < m
            · have hjA : j < A.length := Nat.lt_of_lt_of_le hjm hm
              obtain ⟨eb, eo, rfl, heb⟩ := SA.where (by intro h; subst h; simp at hjA)
              obtain ⟨px, py, t0, t1, hp, _⟩ := (SA.keep belq (Nat.le_refl _)).pt j hjA
              have leb := Nat.lt_of_lt_of_le heb belq.size
              have hlt := e2 (px, py) (List.mem_of_getElem? (i := j) (by rw [List.getElem?_take, if_pos hjm]; exact hp))
              have hge : ¬ b ≤ px := Int.not_le.2 hlt
              have hgd : decide (b ≤ px) = false := decide_eq_false hge
              have BY := Blk.laid wq [.int .i64 px, .int .i64 py] 43 _ rfl
              have bel2 := newB belq (.cells #[.int .i64 px, .int .i64 py] 43)
              clear hp hlt hjA
              go_upto_region 27 with fail
              generalize wq.heap.size = gY at *
              generalize World.alloc wq _ = w8 at *
              have v0 := BY.cell 0
              have lY := BY.lt
              clear t0 t1 leb
              go_wp2_with fail
              go_roundw
              case rel => exact ⟨j + 1, Nat.succ_le_of_lt hjm, by go_num, bel2⟩
              case measure =>
                have := Nat.sub_lt_sub_left hjm (Nat.lt_succ_self j)
                simpa [intOf] using this
            · obtain rfl : j = m := Nat.le_antisymm hj (Nat.le_of_not_lt hjm)
              go_wp2_with fail
              go_ret
              exact ⟨rfl, belowCall belw belq⟩
        · have hG' : (GA = m) = False := eq_false hG
          rw [if_neg hG] at cE
          clear hG
          replace e2 := e2.out
          go_wp2_with fail
          go_at_call 13
          refine cE.mono ?_
          rintro e wz ⟨rfl, qz, rfl⟩
          replace SA := SA.drewN qz
          replace belw := belowDrewN belw qz
          clear cE SP SN'
          generalize wr.drewN qz = wz at *
          go_wp2_with fail
          go_loopw [97] (fun i wq => ∃ (j : Nat), j ≤ m ∧ i = .int .i64 j ∧ Below wz.heap.size wz wq) (fun i _ => m - (intOf i).toNat)
          case atStart => exact ⟨0, Nat.zero_le _, rfl, Below.refl _ _⟩
          case round =>
            clear hs2 hs3 hN6 hD6 q1 hnG hmA
            rename World => wq
            obtain ⟨j, hj, rfl, belq⟩ := hrel
            by_cases hjm : j < m
            · have hjA : j < A.length := Nat.lt_of_lt_of_le hjm hm
              obtain ⟨eb, eo, rfl, heb⟩ := SA.where (by intro h; subst h; simp at hjA)
              obtain ⟨px, py, t0, t1, hp, _⟩ := (SA.keep belq (Nat.le_refl _)).pt j hjA
              have leb := Nat.lt_of_lt_of_le heb belq.size
              have hlt := e2 (px, py) (List.mem_of_getElem? (i := j) (by rw [List.getElem?_take, if_pos hjm]; exact hp))
              have hge : ¬ b ≤ px := Int.not_le.2 hlt
              have hgd : decide (b ≤ px) = false := decide_eq_false hge
              have BY := Blk.laid wq [.int .i64 px, .int .i64 py] 43 _ rfl
              have bel2 := newB belq (.cells #[.int .i64 px, .int .i64 py] 43)
              clear hp hlt hjA
              go_upto_region 27 with fail
              generalize wq.heap.size = gY at *
              generalize World.alloc wq _ = w8 at *
              have v0 := BY.cell 0
              have lY := BY.lt
              clear t0 t1 leb
              go_wp2_with fail
              go_roundw
              case rel => exact ⟨j + 1, Nat.succ_le_of_lt hjm, by go_num, bel2⟩
              case measure =>
                have := Nat.sub_lt_sub_left hjm (Nat.lt_succ_self j)
                simpa [intOf] using this
            · obtain rfl : j = m := Nat.le_antisymm hj (Nat.le_of_not_lt hjm)
              go_wp2_with fail
              go_ret
              exact ⟨rfl, belowCall belw belq⟩
  · have hzd : (E == 0) = false := beq_eq_false_iff_ne.2 hz
    have hzd' : decide (E = 0) = false := decide_eq_false hz
    go_wp2_with fail
    go_at_call 9
    refine (stored_any _).mono ?_
    rintro e w3 ⟨rfl, b3⟩
    go_wp2_with fail
    go_ret
    exact ⟨rfl, belowCall bel b3⟩

end Go.Proofs.Ytabeihkfjlmepaa.storePoints
