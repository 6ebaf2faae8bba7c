/-
  note.Print: the text of a record, or what is wrong with it.
-/
import Derived.Lib.Split
import Derived.Deep.RegionHeld3
import Derived.Deep.Cut
import Derived.Deep.CutRange
import Derived.Test.YtcjdpilmhlfmfaaGreatDoorP08
import Derived.Test.YtcjdpilmhlfmfaaGreatDoorP07
namespace Go.Proofs.YtcjdpilmhlfmfaaGreatDoor
open Go.RowKit

theorem recE_few {r : Rc} (h : recE r = 0) (h1 : r.k = 1) : r.s = 0 ∧ r.n = 0 ∧ r.e.length ≤ 10 ∧ r.e.all ntOk = true := by
  unfold recE at h
  rw [if_pos h1] at h
  split at h
  · cases h
  · rename_i h2
    split at h
    · cases h
    · split at h
      · rename_i h3 h4
        exact ⟨Decidable.of_not_not (fun e => h2 (.inl e)), Decidable.of_not_not (fun e => h2 (.inr e)), by omega, h4⟩
      · cases h

theorem recE_plain {r : Rc} (h : recE r = 0) (h1 : r.k ≠ 1) : (r.k = 2 ∨ r.k = 3 ∨ r.k = 4) ∧ r.e = [] ∧ (r.k = 4 → r.s = 0) ∧ 0 ≤ r.s ∧ r.s < 4 ∧ 0 ≤ r.n ∧ r.n ≤ 100001 := by
  unfold recE at h
  rw [if_neg h1] at h
  split at h
  · rename_i h2
    split at h
    · cases h
    · rename_i h3
      split at h
      · rename_i h4
        exact ⟨h2, Decidable.of_not_not (fun e => h3 (.inl e)), fun e => Decidable.of_not_not (fun e' => h3 (.inr ⟨e, e'⟩)), h4⟩
      · cases h
  · cases h

theorem nums_in {l : List Nt} (h : l.all ntOk = true) : ∀ m ∈ ntNums l, -9223372036854775808 ≤ m ∧ m ≤ 9223372036854775807 := by
  intro m hm
  unfold ntNums at hm
  obtain ⟨x, hx, hm⟩ := List.mem_flatMap.1 hm
  have := of_decide_eq_true (List.all_eq_true.1 h x hx)
  simp only [List.mem_cons, List.not_mem_nil, or_false] at hm
  rcases hm with rfl | rfl | rfl <;> omega

theorem ints_own {w : World} {base n : Nat} {a : Option Addr} {G : Nat} {cs : List Value} {T : TypeId} (o : w.ownsRow base T 1 (.slice a n G) n cs) : Sl w a G cs := by
  obtain ⟨h1, ⟨h2, h3⟩ | ⟨g, cap, cur, e1, hb, hh, hn, hm, hs, ht⟩⟩ := o
  · simp only [Value.slice.injEq] at h2
    obtain ⟨rfl, rfl, rfl⟩ := h2
    obtain rfl := List.length_eq_zero_iff.1 (by omega : cs.length = 0)
    exact ⟨.inl rfl, by simp, by decide, fun _ => rfl⟩
  · simp only [Value.slice.injEq, true_and] at e1
    obtain ⟨rfl, rfl⟩ := e1
    refine ⟨.inr ⟨g, 0, rfl, lt_of_block hh, fun i v hv => ?_⟩, by omega, hm, fun h => by cases h⟩
    rw [← ht, List.getElem?_take] at hv
    split at hv
    · simp only [World.cell?, hh, Nat.zero_add]
      simpa using hv
    · cases hv

theorem ints_laid (w : World) (l : List Int) (T : TypeId) : Sl (w.alloc (.cells (l.map (Value.int .i64)).toArray T)) (some ⟨w.heap.size, 0, none⟩) l.length (l.map (Value.int .i64)) ∨ 9223372036854775807 < l.length := by
  by_cases h : l.length ≤ 9223372036854775807
  · refine .inl ⟨.inr ⟨_, 0, rfl, by simp, fun i v hv => ?_⟩, by simp, h, fun h => by cases h⟩
    have B := Blk.laid w (l.map (Value.int .i64)) T _ rfl
    rw [Nat.zero_add]
    exact (B.cell i).trans hv
  · exact .inr (by omega)

theorem write_nums (wd : ByteArray) (ns : List Int) (W : World) (T : TypeId) (hg : Gl W) (hb : ∀ m ∈ ns, -9223372036854775808 ≤ m ∧ m ≤ 9223372036854775807) (few : ns.length ≤ 1000) (hw : wd.size ≤ 1000) :
    Calls Tryz.prog 232 #[.string wd, .slice (some ⟨W.heap.size, 0, none⟩) ns.length ns.length] (W.alloc (.cells (ns.map (Value.int .i64)).toArray T)) fun e w' => e = .returned (.string ⟨(wd.data.toList ++ numsT ns).toArray⟩) ∧ Below W.heap.size W w' := by
  refine (write_any wd ns _ _ _ _ (hg.alloc _) ((ints_laid W ns T).resolve_right (by omega)) rfl hb few hw).mono ?_
  rintro e w' ⟨rfl, b⟩
  exact ⟨rfl, belowCall (newB (Below.refl _ _) _) b⟩

set_option maxHeartbeats 2000000 in
set_option maxRecDepth 100000 in
theorem print_is (r : Rc) (a : Option Addr) (cap n : Nat) (w : World) (hg : Gl w) (S : SlW ec w a cap r.e) (hn : n = r.e.length) :
    Calls Tryz.prog 207 #[.agg #[.int .i64 r.k, .int .i64 r.s, .int .i64 r.n, .slice a n cap]] w fun e w' => e = .returned (.tuple #[.string ⟨(recT r).toArray⟩, .int .i64 (recE r)]) ∧ Below w.heap.size w w' := by
  have c1 := fun W h => check_is r a cap n W h hn
  have hE : recE r = recE r := rfl
  have T0 : recE r ≠ 0 → recT r = [] := fun h => if_neg h
  have S1 := S.alloc (.cells #[.int .i64 r.k, .int .i64 r.s, .int .i64 r.n, .slice a n cap] 66)
  have B0 := Blk.laid w [.int .i64 r.k, .int .i64 r.s, .int .i64 r.n, .slice a n cap] 66 _ rfl
  have bel : Below w.heap.size w (w.alloc (.cells #[.int .i64 r.k, .int .i64 r.s, .int .i64 r.n, .slice a n cap] 66)) := (Below.refl _ _).alloc (Nat.le_refl _) _
  have g1 := hg.alloc (.cells #[.int .i64 r.k, .int .i64 r.s, .int .i64 r.n, .slice a n cap] 66)
  by_cases h0 : recE r = 0
  · rw [h0] at c1
    rw [h0]
    by_cases h1 : r.k = 1
    · obtain ⟨e1, e2, e3, e4⟩ := recE_few h0 h1
      have eT : recT r = wBatch ++ numsT (ntNums r.e) := by unfold recT; rw [if_pos h0, if_pos h1]
      rw [eT]
      have cn := fun W h => numbers_any r.e a cap n W h hn (by omega)
      have cw := fun a' G W h1 h2 => write_any ⟨#[98, 97, 116, 99, 104]⟩ (ntNums r.e) a' G (n * 3) W h1 h2 (by rw [ntNums_length, hn]) (nums_in e4) (by omega) (by decide)
      obtain ⟨k, s, m, l⟩ := r
      simp only at *
      subst h1
      subst e1
      subst e2
      clear h0 eT e3 e4 T0 hE
      generalize ntNums l = NL at *
      obtain ⟨n3, hn3⟩ : ∃ n3, n3 = n * 3 := ⟨_, rfl⟩
      rw [← hn3] at cn cw
      clear hn3
      replace hn := hide hn
      go_enter Tryz.func207, Tryz.ntmps207
      go_wp2_with fail
      generalize w.alloc _ = w1 at *
      go_at_call 115
      refine (c1 _ S1).mono ?_
      rintro e w2 ⟨rfl, b2⟩
      have B2 := B0.keep b2 B0.lt
      have q0 := B2.cell 0
      have q3 := B2.cell 3
      have l2 := B2.lt
      have g2 := g1.call b2
      have S2 := S1.call b2
      have bel2 := belowCall bel b2
      go_wp2_with fail
      go_at_call 233
      refine (cn _ S2).mono ?_
      rintro e w3 ⟨a3, G3, rfl, o3, b3⟩
      have s3 := ints_own o3
      have g3 := g2.call b3
      have bel3 := belowCall bel2 b3
      go_wp2_with fail
      go_at_call 232
      refine (cw _ _ _ g3 s3).mono ?_
      rintro e w4 ⟨rfl, b4⟩
      go_wp2_with fail
      go_ret2
      exact ⟨rfl, belowCall bel3 b4⟩
    · obtain ⟨hk, e1, e2, e3, e4, e5, e6⟩ := recE_plain h0 h1
      have eT : recT r = (if r.k = 2 then wSeal ++ numsT [r.s, r.n] else if r.k = 3 then wMerge ++ numsT [r.s, r.n] else wDrop ++ numsT [r.n]) := by unfold recT; rw [if_pos h0, if_neg h1]
      rw [eT]
      clear eT T0 hE h0
      obtain ⟨k, s, m, l⟩ := r
      simp only at *
      subst e1
      replace hn := hide hn
      rcases hk with rfl | rfl | rfl
      · clear e2
        rw [if_pos rfl]
        have cw : ∀ W1 : World, Gl W1 → Calls Tryz.prog 232 #[.string ⟨#[115, 101, 97, 108]⟩, .slice (some ⟨W1.heap.size, 0, none⟩) 2 2] (W1.alloc (.cells #[.int .i64 s, .int .i64 m] 3)) fun e w' => e = .returned (.string ⟨(([115, 101, 97, 108] : List UInt8) ++ numsT [s, m]).toArray⟩) ∧ Below W1.heap.size W1 w' := fun W1 h1 => write_nums ⟨#[115, 101, 97, 108]⟩ [s, m] W1 3 h1 (by simp; omega) (by simp) (by decide)
        go_enter Tryz.func207, Tryz.ntmps207
        go_wp2_with fail
        generalize w.alloc _ = w1 at *
        go_at_call 115
        refine (c1 _ S1).mono ?_
        rintro e w2 ⟨rfl, b2⟩
        have B2 := B0.keep b2 B0.lt
        have q0 := B2.cell 0
        have q1 := B2.cell 1
        have q2 := B2.cell 2
        have q3 := B2.cell 3
        have l2 := B2.lt
        have g2 := g1.call b2
        have bel2 := belowCall bel b2
        go_wp2_with fail
        go_at_call 232
        refine (cw w2 g2).mono ?_
        rintro e w3 ⟨rfl, b3⟩
        go_wp2_with fail
        go_ret2
        exact ⟨rfl, belowCall bel2 b3⟩
      · clear e2
        rw [if_neg (by decide), if_pos rfl]
        have cw : ∀ W1 : World, Gl W1 → Calls Tryz.prog 232 #[.string ⟨#[109, 101, 114, 103, 101]⟩, .slice (some ⟨W1.heap.size, 0, none⟩) 2 2] (W1.alloc (.cells #[.int .i64 s, .int .i64 m] 3)) fun e w' => e = .returned (.string ⟨(([109, 101, 114, 103, 101] : List UInt8) ++ numsT [s, m]).toArray⟩) ∧ Below W1.heap.size W1 w' := fun W1 h1 => write_nums ⟨#[109, 101, 114, 103, 101]⟩ [s, m] W1 3 h1 (by simp; omega) (by simp) (by decide)
        go_enter Tryz.func207, Tryz.ntmps207
        go_wp2_with fail
        generalize w.alloc _ = w1 at *
        go_at_call 115
        refine (c1 _ S1).mono ?_
        rintro e w2 ⟨rfl, b2⟩
        have B2 := B0.keep b2 B0.lt
        have q0 := B2.cell 0
        have q1 := B2.cell 1
        have q2 := B2.cell 2
        have q3 := B2.cell 3
        have l2 := B2.lt
        have g2 := g1.call b2
        have bel2 := belowCall bel b2
        go_wp2_with fail
        go_at_call 232
        refine (cw w2 g2).mono ?_
        rintro e w3 ⟨rfl, b3⟩
        go_wp2_with fail
        go_ret2
        exact ⟨rfl, belowCall bel2 b3⟩
      · obtain rfl : s = 0 := e2 rfl
        clear e2
        rw [if_neg (by decide), if_neg (by decide)]
        have cw : ∀ W1 : World, Gl W1 → Calls Tryz.prog 232 #[.string ⟨#[100, 114, 111, 112]⟩, .slice (some ⟨W1.heap.size, 0, none⟩) 1 1] (W1.alloc (.cells #[.int .i64 m] 3)) fun e w' => e = .returned (.string ⟨(([100, 114, 111, 112] : List UInt8) ++ numsT [m]).toArray⟩) ∧ Below W1.heap.size W1 w' := fun W1 h1 => write_nums ⟨#[100, 114, 111, 112]⟩ [m] W1 3 h1 (by simp; omega) (by simp) (by decide)
        go_enter Tryz.func207, Tryz.ntmps207
        go_wp2_with fail
        generalize w.alloc _ = w1 at *
        go_at_call 115
        refine (c1 _ S1).mono ?_
        rintro e w2 ⟨rfl, b2⟩
        have B2 := B0.keep b2 B0.lt
        have q0 := B2.cell 0
        have q1 := B2.cell 1
        have q2 := B2.cell 2
        have q3 := B2.cell 3
        have l2 := B2.lt
        have g2 := g1.call b2
        have bel2 := belowCall bel b2
        go_wp2_with fail
        go_at_call 232
        refine (cw w2 g2).mono ?_
        rintro e w3 ⟨rfl, b3⟩
        go_wp2_with fail
        go_ret2
        exact ⟨rfl, belowCall bel2 b3⟩
  · rw [T0 h0]
    have h0' : ¬ recE r = 0 := h0
    obtain ⟨E, hE'⟩ : ∃ E, E = recE r := ⟨_, rfl⟩
    rw [← hE'] at c1 h0' ⊢
    obtain ⟨k, s, m, l⟩ := r
    simp only at *
    have hd : decide (E = 0) = false := decide_eq_false h0'
    clear hE T0 h0 hE'
    replace hn := hide hn
    go_enter Tryz.func207, Tryz.ntmps207
    go_wp2_with fail
    generalize w.alloc _ = w1 at *
    go_at_call 115
    refine (c1 _ S1).mono ?_
    rintro e w2 ⟨rfl, b2⟩
    go_wp2_with fail
    go_ret2
    exact ⟨rfl, belowCall bel b2⟩

end Go.Proofs.YtcjdpilmhlfmfaaGreatDoor

/-
  note.read: the record that a text tells.
-/
namespace Go.Proofs.YtcjdpilmhlfmfaaGreatDoor
open Go.RowKit

theorem put4r {w : World} {g : Nat} {c0 c1 c2 c3 : Value} {t : TypeId} (h : Blk w g [c0, c1, c2, c3] t) (u0 u1 u2 u3 : Value) :
    Blk ((((w.setCell ⟨g, 0, none⟩ u0).setCell ⟨g, 1, none⟩ u1).setCell ⟨g, 2, none⟩ u2).setCell ⟨g, 3, none⟩ u3) g [u0, u1, u2, u3] t :=
  (((h.set 0 u0).set 1 u1).set 2 u2).set 3 u3

theorem below4r {B : Nat} {w W : World} (h : Below B w W) {g : Nat} (hg : B ≤ g) (u0 u1 u2 u3 : Value) : Below B w ((((W.setCell ⟨g, 0, none⟩ u0).setCell ⟨g, 1, none⟩ u1).setCell ⟨g, 2, none⟩ u2).setCell ⟨g, 3, none⟩ u3) :=
  (((h.setCell (p := ⟨g, 0, none⟩) hg u0).setCell (p := ⟨g, 1, none⟩) hg u1).setCell (p := ⟨g, 2, none⟩) hg u2).setCell (p := ⟨g, 3, none⟩) hg u3

theorem own4r {w : World} {base n g : Nat} {e t : TypeId} {size : Nat} {v : Value} {xs cs : List Value} (h : w.ownsRow base e size v n xs) (B : Blk w g cs t) (ht : e ≠ t) (u0 u1 u2 u3 : Value) : ((((w.setCell ⟨g, 0, none⟩ u0).setCell ⟨g, 1, none⟩ u1).setCell ⟨g, 2, none⟩ u2).setCell ⟨g, 3, none⟩ u3).ownsRow base e size v n xs := by
  have hne : v.ownBlock ≠ some g := by
    rcases h.2 with ⟨rfl, _⟩ | ⟨g1, c1, cur1, rfl, _, h1, _⟩
    · intro e; cases e
    · intro e
      have e1 : g1 = g := by simpa [Value.ownBlock] using e
      subst e1
      have h2 := h1.symm.trans B
      simp only [Option.some.injEq, Obj.cells.injEq] at h2
      exact ht h2.2.1
  exact ownsRow_setCell_other (ownsRow_setCell_other (ownsRow_setCell_other (ownsRow_setCell_other h (a := ⟨g, 0, none⟩) hne u0) (a := ⟨g, 1, none⟩) hne u1) (a := ⟨g, 2, none⟩) hne u2) (a := ⟨g, 3, none⟩) hne u3

theorem strs_laid (w : World) (l : List ByteArray) (T : TypeId) (h : l.length ≤ 1000000) : Sl (w.alloc (.cells (l.map Value.string).toArray T)) (some ⟨w.heap.size, 0, none⟩) l.length (l.map Value.string) := by
  have B := Blk.laid w (l.map Value.string) T _ rfl
  refine ⟨.inr ⟨_, 0, rfl, B.lt, fun i v hv => ?_⟩, by simp, by omega, fun h => by cases h⟩
  rw [Nat.zero_add]
  exact (B.cell i).trans hv

theorem strs_tail {w : World} {g c : Nat} {x : ByteArray} {r : List ByteArray} (S : Sl w (some ⟨g, 0, none⟩) c ((x :: r).map Value.string)) : Sl w (some ⟨g, 1, none⟩) (c - 1) (r.map Value.string) := by
  obtain ⟨b, off, e, hb, hc⟩ := S.row.at (by simp)
  simp only [Option.some.injEq, Addr.mk.injEq, and_true] at e
  obtain ⟨rfl, rfl⟩ := e
  have h1 := S.le
  have h2 := S.max
  simp only [List.length_map, List.length_cons] at h1
  refine ⟨.inr ⟨g, 1, rfl, hb, fun i v hv => ?_⟩, by rw [List.length_map]; omega, by omega, fun h => by cases h⟩
  have := hc (i + 1) v (by simpa using hv)
  rw [Nat.zero_add] at this
  rw [Nat.add_comm 1 i]
  exact this

set_option maxHeartbeats 4000000 in
set_option maxRecDepth 100000 in
theorem read_any (s : ByteArray) (w : World) (hg : Gl w) (hs : s.size ≤ 60000) :
    Calls Tryz.prog 136 #[.string s] w fun e w' => ((∃ r a' G, textR s = some r ∧ e = .returned (.tuple #[.agg #[.int .i64 r.k, .int .i64 r.s, .int .i64 r.n, .slice a' r.e.length G], .bool true]) ∧ w'.ownsRow w.heap.size 68 3 (.slice a' r.e.length G) r.e.length (r.e.flatMap ec)) ∨ (textR s = none ∧ e = .returned (.tuple #[.agg #[.int .i64 0, .int .i64 0, .int .i64 0, .slice none 0 0], .bool false]))) ∧ Below w.heap.size w w' := by
  have hlen : (wordsB s).length = Lib.countB s blank + 1 := Lib.splitB_all blank (by decide) 0 _ s rfl
  have hsm : ∀ b ∈ wordsB s, b.size ≤ 60000 := fun b hb => Nat.le_trans (split_small blank 0 _ s b hb) hs
  have hcl : Lib.countB s blank ≤ 60000 := Nat.le_trans (Lib.countB_le blank (by decide) s.size s (Nat.le_refl _)) hs
  obtain ⟨m, hmax⟩ := (hg.alloc (.cells #[.int .i64 0, .int .i64 0, .int .i64 0, .slice none 0 0] 66)).max
  have cS := Tryz.strings_Split s blank m (w.alloc (.cells #[.int .i64 0, .int .i64 0, .int .i64 0, .slice none 0 0] 66)) (by omega) hmax (by decide)
  rw [show Lib.splitB blank 0 (Lib.countB s blank) s = wordsB s from rfl, ← hlen] at cS
  have hT : textR s = readR ((wordsB s).map bytes) := rfl
  generalize textR s = TR at *
  generalize wordsB s = WS at *
  cases WS with
  | nil => simp at hlen
  | cons x r =>
    obtain ⟨c, hc⟩ : ∃ c, c = r.length := ⟨_, rfl⟩
    rw [List.length_cons, ← hc] at cS
    rw [List.length_cons] at hlen
    have B0 := Blk.laid w [.int .i64 0, .int .i64 0, .int .i64 0, .slice none 0 0] 66 _ rfl
    have bel : Below w.heap.size w (w.alloc (.cells #[.int .i64 0, .int .i64 0, .int .i64 0, .slice none 0 0] 66)) := (Below.refl _ _).alloc (Nat.le_refl _) _
    have g1 := hg.alloc (.cells #[.int .i64 0, .int .i64 0, .int .i64 0, .slice none 0 0] 66)
    generalize hw1 : w.alloc (.cells #[.int .i64 0, .int .i64 0, .int .i64 0, .slice none 0 0] 66) = w1 at *
    have S1 := strs_laid w1 (x :: r) 9 (by rw [List.length_cons]; omega)
    rw [List.length_cons, ← hc] at S1
    have bel2 := newB bel (.cells ((x :: r).map Value.string).toArray 9)
    have g2 := g1.alloc (.cells ((x :: r).map Value.string).toArray 9)
    have B2 := B0.keep (newB (Below.refl w1.heap.size w1) (.cells ((x :: r).map Value.string).toArray 9)) B0.lt
    have x0 : (w1.alloc (.cells ((x :: r).map Value.string).toArray 9)).cell? ⟨w1.heap.size, 0, none⟩ = some (.string x) := (Blk.laid w1 ((x :: r).map Value.string) 9 _ rfl).cell 0
    have l1 : w1.heap.size < (w1.alloc (.cells ((x :: r).map Value.string).toArray 9)).heap.size := by simp
    generalize hw2 : w1.alloc (.cells ((x :: r).map Value.string).toArray 9) = w2 at *
    have cN := fun a' cap' (h : Sl w2 a' cap' (r.map Value.string)) => readNumbers_any r a' cap' c w2 g2 h hc (by omega) (fun b hb => Nat.le_trans (hsm b (List.mem_cons_of_mem _ hb)) (by decide))
    have hc60 : c ≤ 60000 := by omega
    replace hc := hide hc
    replace hT := hide hT
    clear hlen hsm hcl hmax
    go_enter Tryz.func136, Tryz.ntmps136
    go_wp2_with fail
    go_at_call 170
    refine cS.mono ?_
    rintro e w2' ⟨rfl, hw2'⟩
    clear hw2 hw1
    obtain rfl := hw2'
    have p0 : w2'.cell? ⟨w.heap.size, 0, none⟩ = some (.int .i64 0) := B2.cell 0
    have lR := B2.lt
    by_cases hr : c = 0
    · subst hr
      obtain rfl := List.length_eq_zero_iff.1 hc.out.symm
      go_wp2_with fail
      go_at_call 171
      refine (cN (some ⟨w1.heap.size, 0, none⟩) 0 ⟨.inl rfl, by simp, by decide, fun h => by cases h⟩).mono ?_
      rintro e w3 ⟨(⟨vs, a3, G3, hvs, rfl, o3⟩ | ⟨hvs, rfl⟩), b3⟩
      · have B3 := B2.keep b3 B2.lt
        have r0 := B3.cell 0
        have r1 := B3.cell 1
        have r2 := B3.cell 2
        have r3 := B3.cell 3
        have f0 := B3.free 0
        have f1 := B3.free 1
        have f2 := B3.free 2
        have f3 := B3.free 3
        have lR3 := B3.lt
        have x3 := (b3.cell (p := ⟨w1.heap.size, 0, none⟩) l1).trans x0
        have lx3 : w1.heap.size < w3.heap.size := Nat.lt_of_lt_of_le l1 b3.size
        have bel3 := belowCall bel2 b3
        have hvl : vs.length = 0 := by rw [readNums_length _ _ hvs, List.length_map]; exact hc.out.symm
        have hTR : TR = (if bytes x = wBatch ∧ vs.length % 3 = 0 then some ⟨1, 0, 0, chunkL vs⟩ else if bytes x = wSeal ∧ vs.length = 2 then some ⟨2, vs.getD 0 0, vs.getD 1 0, []⟩ else if bytes x = wMerge ∧ vs.length = 2 then some ⟨3, vs.getD 0 0, vs.getD 1 0, []⟩ else if bytes x = wDrop ∧ vs.length = 1 then some ⟨4, 0, vs.getD 0 0, []⟩ else none) := by
          rw [hT.out]
          simp only [readR, List.map_cons, hvs, Option.bind_some]
        replace hvs := hide hvs
        have SV := ints_own o3
        by_cases kB : bytes x = wBatch
        · by_cases m3 : 0 % 3 = 0
          · rw [if_pos ⟨kB, by omega⟩] at hTR
            have bB : (x.toList == [98, 97, 116, 99, 104]) = true := by rw [toList_bytes, kB]; rfl
            have bS : (x.toList == [115, 101, 97, 108]) = false := by rw [toList_bytes, kB]; rfl
            have bM : (x.toList == [109, 101, 114, 103, 101]) = false := by rw [toList_bytes, kB]; rfl
            have bD : (x.toList == [100, 114, 111, 112]) = false := by rw [toList_bytes, kB]; rfl
            replace hTR := hide hTR
            obtain ⟨mm, hmm⟩ : ∃ mm, 0 = mm * 3 := ⟨0 / 3, by omega⟩
            have cE := fun W (h : Sl W a3 G3 (vs.map (Value.int .i64))) => entries_any vs mm 0 G3 a3 W h hvl.symm hmm (by omega)
            have hcl : (chunkL vs).length = mm := chunk_length mm vs (by omega)
            replace hmm := hide hmm
            clear hvl hT
            go_wp2_with fail
            go_at_call 172
            refine (cE _ SV).mono ?_
            rintro e w4 ⟨v4, rfl, o4, b4⟩
            obtain ⟨a4, G4, rfl, -, -, -⟩ := SlW.ofOwn ec_three (by decide) o4
            have B4 := B3.keep b4 B3.lt
            have s0 := B4.cell 0
            have s1 := B4.cell 1
            have s2 := B4.cell 2
            have s3 := B4.cell 3
            have u0 := B4.free 0
            have u1 := B4.free 1
            have u2 := B4.free 2
            have u3 := B4.free 3
            have lR4 := B4.lt
            have bel4' := belowCall bel3 b4
            go_wp2_with fail
            have B5 := put4r B4 (.int .i64 1) (.int .i64 0) (.int .i64 0) (.slice a4 mm G4)
            have bel5 := below4r bel4' (Nat.le_refl _) (.int .i64 1) (.int .i64 0) (.int .i64 0) (.slice a4 mm G4)
            have o5 := own4r o4 B4 (by decide) (.int .i64 1) (.int .i64 0) (.int .i64 0) (.slice a4 mm G4)
            have i0 := B5.cell 0
            have i1 := B5.cell 1
            have i2 := B5.cell 2
            have i3 := B5.cell 3
            have le3 : w.heap.size ≤ w3.heap.size := bel3.size
            exact bodyPost_ret (v := .tuple #[.agg #[.int .i64 1, .int .i64 0, .int .i64 0, .slice a4 mm G4], .bool true]) (by simp [results, Tryz.results136, go_sem, i0, i1, i2, i3]) rfl ⟨.inl ⟨⟨1, 0, 0, chunkL vs⟩, a4, G4, hTR.out, by rw [hcl], by rw [hcl]; exact owndown o5 le3⟩, bel5⟩
          · rw [if_neg (fun h => m3 (by have := h.2; omega)), if_neg (fun h => by rw [kB] at h; exact absurd h.1 (by decide)), if_neg (fun h => by rw [kB] at h; exact absurd h.1 (by decide)), if_neg (fun h => by rw [kB] at h; exact absurd h.1 (by decide))] at hTR
            exact absurd rfl m3
        · rw [if_neg (fun h => kB h.1)] at hTR
          by_cases kS : bytes x = wSeal
          · by_cases hc2 : 0 = 2
            · rw [if_pos ⟨kS, by omega⟩] at hTR
              cases hc2
            · rw [if_neg (fun h => hc2 (by have := h.2; omega)), if_neg (fun h => by rw [kS] at h; exact absurd h.1 (by decide)), if_neg (fun h => by rw [kS] at h; exact absurd h.1 (by decide))] at hTR
              have bB : (x.toList == [98, 97, 116, 99, 104]) = false := by rw [toList_bytes, kS]; rfl
              have bS : (x.toList == [115, 101, 97, 108]) = true := by rw [toList_bytes, kS]; rfl
              have bM : (x.toList == [109, 101, 114, 103, 101]) = false := by rw [toList_bytes, kS]; rfl
              have bD : (x.toList == [100, 114, 111, 112]) = false := by rw [toList_bytes, kS]; rfl
              replace hTR := hide hTR
              clear hvl hT
              go_wp2_with fail
              have B4 := put4r B3 (.int .i64 0) (.int .i64 0) (.int .i64 0) (.slice none 0 0)
              have bel4 := below4r bel3 (Nat.le_refl _) (.int .i64 0) (.int .i64 0) (.int .i64 0) (.slice none 0 0)
              have i0 := B4.cell 0
              have i1 := B4.cell 1
              have i2 := B4.cell 2
              have i3 := B4.cell 3
              exact bodyPost_ret (v := .tuple #[.agg #[.int .i64 0, .int .i64 0, .int .i64 0, .slice none 0 0], .bool false]) (by simp [results, Tryz.results136, go_sem, i0, i1, i2, i3]) rfl ⟨.inr ⟨hTR.out, rfl⟩, bel4⟩
          · rw [if_neg (fun h => kS h.1)] at hTR
            by_cases kM : bytes x = wMerge
            · by_cases hc2 : 0 = 2
              · rw [if_pos ⟨kM, by omega⟩] at hTR
                cases hc2
              · rw [if_neg (fun h => hc2 (by have := h.2; omega)), if_neg (fun h => by rw [kM] at h; exact absurd h.1 (by decide))] at hTR
                have bB : (x.toList == [98, 97, 116, 99, 104]) = false := by rw [toList_bytes, kM]; rfl
                have bS : (x.toList == [115, 101, 97, 108]) = false := by rw [toList_bytes, kM]; rfl
                have bM : (x.toList == [109, 101, 114, 103, 101]) = true := by rw [toList_bytes, kM]; rfl
                have bD : (x.toList == [100, 114, 111, 112]) = false := by rw [toList_bytes, kM]; rfl
                replace hTR := hide hTR
                clear hvl hT
                go_wp2_with fail
                have B4 := put4r B3 (.int .i64 0) (.int .i64 0) (.int .i64 0) (.slice none 0 0)
                have bel4 := below4r bel3 (Nat.le_refl _) (.int .i64 0) (.int .i64 0) (.int .i64 0) (.slice none 0 0)
                have i0 := B4.cell 0
                have i1 := B4.cell 1
                have i2 := B4.cell 2
                have i3 := B4.cell 3
                exact bodyPost_ret (v := .tuple #[.agg #[.int .i64 0, .int .i64 0, .int .i64 0, .slice none 0 0], .bool false]) (by simp [results, Tryz.results136, go_sem, i0, i1, i2, i3]) rfl ⟨.inr ⟨hTR.out, rfl⟩, bel4⟩
            · rw [if_neg (fun h => kM h.1)] at hTR
              by_cases kD : bytes x = wDrop
              · by_cases hc1 : 0 = 1
                · rw [if_pos ⟨kD, by omega⟩] at hTR
                  cases hc1
                · rw [if_neg (fun h => hc1 (by have := h.2; omega))] at hTR
                  have bB : (x.toList == [98, 97, 116, 99, 104]) = false := by rw [toList_bytes, kD]; rfl
                  have bS : (x.toList == [115, 101, 97, 108]) = false := by rw [toList_bytes, kD]; rfl
                  have bM : (x.toList == [109, 101, 114, 103, 101]) = false := by rw [toList_bytes, kD]; rfl
                  have bD : (x.toList == [100, 114, 111, 112]) = true := by rw [toList_bytes, kD]; rfl
                  replace hTR := hide hTR
                  clear hvl hT
                  go_wp2_with fail
                  have B4 := put4r B3 (.int .i64 0) (.int .i64 0) (.int .i64 0) (.slice none 0 0)
                  have bel4 := below4r bel3 (Nat.le_refl _) (.int .i64 0) (.int .i64 0) (.int .i64 0) (.slice none 0 0)
                  have i0 := B4.cell 0
                  have i1 := B4.cell 1
                  have i2 := B4.cell 2
                  have i3 := B4.cell 3
                  exact bodyPost_ret (v := .tuple #[.agg #[.int .i64 0, .int .i64 0, .int .i64 0, .slice none 0 0], .bool false]) (by simp [results, Tryz.results136, go_sem, i0, i1, i2, i3]) rfl ⟨.inr ⟨hTR.out, rfl⟩, bel4⟩
              · rw [if_neg (fun h => kD h.1)] at hTR
                have bB : (x.toList == [98, 97, 116, 99, 104]) = false := by rw [toList_bytes]; exact beq_eq_false_iff_ne.2 kB
                have bS : (x.toList == [115, 101, 97, 108]) = false := by rw [toList_bytes]; exact beq_eq_false_iff_ne.2 kS
                have bM : (x.toList == [109, 101, 114, 103, 101]) = false := by rw [toList_bytes]; exact beq_eq_false_iff_ne.2 kM
                have bD : (x.toList == [100, 114, 111, 112]) = false := by rw [toList_bytes]; exact beq_eq_false_iff_ne.2 kD
                replace hTR := hide hTR
                clear hvl hT
                go_wp2_with fail
                have B4 := put4r B3 (.int .i64 0) (.int .i64 0) (.int .i64 0) (.slice none 0 0)
                have bel4 := below4r bel3 (Nat.le_refl _) (.int .i64 0) (.int .i64 0) (.int .i64 0) (.slice none 0 0)
                have i0 := B4.cell 0
                have i1 := B4.cell 1
                have i2 := B4.cell 2
                have i3 := B4.cell 3
                exact bodyPost_ret (v := .tuple #[.agg #[.int .i64 0, .int .i64 0, .int .i64 0, .slice none 0 0], .bool false]) (by simp [results, Tryz.results136, go_sem, i0, i1, i2, i3]) rfl ⟨.inr ⟨hTR.out, rfl⟩, bel4⟩
      · have B3 := B2.keep b3 B2.lt
        have r0 := B3.cell 0
        have r1 := B3.cell 1
        have r2 := B3.cell 2
        have r3 := B3.cell 3
        have f0 := B3.free 0
        have f1 := B3.free 1
        have f2 := B3.free 2
        have f3 := B3.free 3
        have lR3 := B3.lt
        have bel3 := belowCall bel2 b3
        have hTR : TR = none := by
          rw [hT.out]
          simp only [readR, List.map_cons, hvs, Option.bind_none]
        replace hTR := hide hTR
        go_wp2_with fail
        have B4 := put4r B3 (.int .i64 0) (.int .i64 0) (.int .i64 0) (.slice none 0 0)
        have bel4 := below4r bel3 (Nat.le_refl _) (.int .i64 0) (.int .i64 0) (.int .i64 0) (.slice none 0 0)
        have i0 := B4.cell 0
        have i1 := B4.cell 1
        have i2 := B4.cell 2
        have i3 := B4.cell 3
        exact bodyPost_ret (v := .tuple #[.agg #[.int .i64 0, .int .i64 0, .int .i64 0, .slice none 0 0], .bool false]) (by simp [results, Tryz.results136, go_sem, i0, i1, i2, i3]) rfl ⟨.inr ⟨hTR.out, rfl⟩, bel4⟩
    · have hr1 : (1 : Int) ≤ (c : Int) + 1 := by omega
      have hr2 : ¬ c + 1 = 1 := by omega
      have hr3 : ¬ c = 0 := hr
      go_wp2_with fail
      go_at_call 171
      refine (cN (some ⟨w1.heap.size, 1, none⟩) c (strs_tail S1)).mono ?_
      rintro e w3 ⟨(⟨vs, a3, G3, hvs, rfl, o3⟩ | ⟨hvs, rfl⟩), b3⟩
      · have B3 := B2.keep b3 B2.lt
        have r0 := B3.cell 0
        have r1 := B3.cell 1
        have r2 := B3.cell 2
        have r3 := B3.cell 3
        have f0 := B3.free 0
        have f1 := B3.free 1
        have f2 := B3.free 2
        have f3 := B3.free 3
        have lR3 := B3.lt
        have x3 := (b3.cell (p := ⟨w1.heap.size, 0, none⟩) l1).trans x0
        have lx3 : w1.heap.size < w3.heap.size := Nat.lt_of_lt_of_le l1 b3.size
        have bel3 := belowCall bel2 b3
        have hvl : vs.length = c := by rw [readNums_length _ _ hvs, List.length_map]; exact hc.out.symm
        have hTR : TR = (if bytes x = wBatch ∧ vs.length % 3 = 0 then some ⟨1, 0, 0, chunkL vs⟩ else if bytes x = wSeal ∧ vs.length = 2 then some ⟨2, vs.getD 0 0, vs.getD 1 0, []⟩ else if bytes x = wMerge ∧ vs.length = 2 then some ⟨3, vs.getD 0 0, vs.getD 1 0, []⟩ else if bytes x = wDrop ∧ vs.length = 1 then some ⟨4, 0, vs.getD 0 0, []⟩ else none) := by
          rw [hT.out]
          simp only [readR, List.map_cons, hvs, Option.bind_some]
        replace hvs := hide hvs
        have SV := ints_own o3
        by_cases kB : bytes x = wBatch
        · by_cases m3 : c % 3 = 0
          · rw [if_pos ⟨kB, by omega⟩] at hTR
            have bB : (x.toList == [98, 97, 116, 99, 104]) = true := by rw [toList_bytes, kB]; rfl
            have bS : (x.toList == [115, 101, 97, 108]) = false := by rw [toList_bytes, kB]; rfl
            have bM : (x.toList == [109, 101, 114, 103, 101]) = false := by rw [toList_bytes, kB]; rfl
            have bD : (x.toList == [100, 114, 111, 112]) = false := by rw [toList_bytes, kB]; rfl
            replace hTR := hide hTR
            obtain ⟨mm, hmm⟩ : ∃ mm, c = mm * 3 := ⟨c / 3, by omega⟩
            have cE := fun W (h : Sl W a3 G3 (vs.map (Value.int .i64))) => entries_any vs mm c G3 a3 W h hvl.symm hmm (by omega)
            have hcl : (chunkL vs).length = mm := chunk_length mm vs (by omega)
            replace hmm := hide hmm
            clear hvl hT
            have t3 : (c : Int).tmod 3 = 0 := by rw [Int.tmod_eq_emod_of_nonneg (by omega)]; omega
            go_wp2_with fail
            go_at_call 172
            refine (cE _ SV).mono ?_
            rintro e w4 ⟨v4, rfl, o4, b4⟩
            obtain ⟨a4, G4, rfl, -, -, -⟩ := SlW.ofOwn ec_three (by decide) o4
            have B4 := B3.keep b4 B3.lt
            have s0 := B4.cell 0
            have s1 := B4.cell 1
            have s2 := B4.cell 2
            have s3 := B4.cell 3
            have u0 := B4.free 0
            have u1 := B4.free 1
            have u2 := B4.free 2
            have u3 := B4.free 3
            have lR4 := B4.lt
            have bel4' := belowCall bel3 b4
            go_wp2_with fail
            have B5 := put4r B4 (.int .i64 1) (.int .i64 0) (.int .i64 0) (.slice a4 mm G4)
            have bel5 := below4r bel4' (Nat.le_refl _) (.int .i64 1) (.int .i64 0) (.int .i64 0) (.slice a4 mm G4)
            have o5 := own4r o4 B4 (by decide) (.int .i64 1) (.int .i64 0) (.int .i64 0) (.slice a4 mm G4)
            have i0 := B5.cell 0
            have i1 := B5.cell 1
            have i2 := B5.cell 2
            have i3 := B5.cell 3
            have le3 : w.heap.size ≤ w3.heap.size := bel3.size
            exact bodyPost_ret (v := .tuple #[.agg #[.int .i64 1, .int .i64 0, .int .i64 0, .slice a4 mm G4], .bool true]) (by simp [results, Tryz.results136, go_sem, i0, i1, i2, i3]) rfl ⟨.inl ⟨⟨1, 0, 0, chunkL vs⟩, a4, G4, hTR.out, by rw [hcl], by rw [hcl]; exact owndown o5 le3⟩, bel5⟩
          · rw [if_neg (fun h => m3 (by have := h.2; omega)), if_neg (fun h => by rw [kB] at h; exact absurd h.1 (by decide)), if_neg (fun h => by rw [kB] at h; exact absurd h.1 (by decide)), if_neg (fun h => by rw [kB] at h; exact absurd h.1 (by decide))] at hTR
            have bB : (x.toList == [98, 97, 116, 99, 104]) = true := by rw [toList_bytes, kB]; rfl
            have bS : (x.toList == [115, 101, 97, 108]) = false := by rw [toList_bytes, kB]; rfl
            have bM : (x.toList == [109, 101, 114, 103, 101]) = false := by rw [toList_bytes, kB]; rfl
            have bD : (x.toList == [100, 114, 111, 112]) = false := by rw [toList_bytes, kB]; rfl
            replace hTR := hide hTR
            clear hvl hT
            obtain ⟨r3, hr3⟩ : ∃ r3, r3 = (c : Int) % 3 := ⟨_, rfl⟩
            have d3 : decide (r3 = 0) = false := decide_eq_false (by omega)
            have n3 : ¬ r3 = 0 := by omega
            have t3 : (c : Int).tmod 3 = r3 := by rw [Int.tmod_eq_emod_of_nonneg (by omega)]; exact hr3.symm
            clear hr3
            go_wp2_with fail
            have B4 := put4r B3 (.int .i64 0) (.int .i64 0) (.int .i64 0) (.slice none 0 0)
            have bel4 := below4r bel3 (Nat.le_refl _) (.int .i64 0) (.int .i64 0) (.int .i64 0) (.slice none 0 0)
            have i0 := B4.cell 0
            have i1 := B4.cell 1
            have i2 := B4.cell 2
            have i3 := B4.cell 3
            exact bodyPost_ret (v := .tuple #[.agg #[.int .i64 0, .int .i64 0, .int .i64 0, .slice none 0 0], .bool false]) (by simp [results, Tryz.results136, go_sem, i0, i1, i2, i3]) rfl ⟨.inr ⟨hTR.out, rfl⟩, bel4⟩
        · rw [if_neg (fun h => kB h.1)] at hTR
          by_cases kS : bytes x = wSeal
          · by_cases hc2 : c = 2
            · rw [if_pos ⟨kS, by omega⟩] at hTR
              have bB : (x.toList == [98, 97, 116, 99, 104]) = false := by rw [toList_bytes, kS]; rfl
              have bS : (x.toList == [115, 101, 97, 108]) = true := by rw [toList_bytes, kS]; rfl
              have bM : (x.toList == [109, 101, 114, 103, 101]) = false := by rw [toList_bytes, kS]; rfl
              have bD : (x.toList == [100, 114, 111, 112]) = false := by rw [toList_bytes, kS]; rfl
              replace hTR := hide hTR
              obtain ⟨v0, v1, rfl⟩ : ∃ v0 v1, vs = [v0, v1] := by
                match vs, hvl.trans hc2 with
                | [v0, v1], _ => exact ⟨v0, v1, rfl⟩
              subst hc2
              obtain ⟨gv, ov, rfl, hgv, hcv⟩ := SV.row.at (by simp)
              have y0 : w3.cell? ⟨gv, ov, none⟩ = some (.int .i64 v0) := hcv 0 _ rfl
              have y1 : w3.cell? ⟨gv, ov + 1, none⟩ = some (.int .i64 v1) := hcv 1 _ rfl
              have hne : ¬ gv = w.heap.size := by
                rcases o3.2 with ⟨h, _⟩ | ⟨g, cp, cur, h, hb, _⟩
                · cases h
                · simp only [Value.slice.injEq, Option.some.injEq, Addr.mk.injEq] at h
                  obtain ⟨⟨rfl, -, -⟩, -⟩ := h
                  omega
              have hne' : ¬ w.heap.size = gv := fun h => hne h.symm
              clear hvl hT hcv
              go_wp2_with fail
              go_region_held3 (fun w' => w'.cell? ⟨gv, ov, none⟩ = some (.int .i64 v0) ∧ w'.cell? ⟨gv, ov + 1, none⟩ = some (.int .i64 v1)) (go_keep) (fail)
              all_goals go_wp2_with fail
              all_goals (
                have B4 : Blk (World.drew ((((w3.setCell ⟨w.heap.size, 0, none⟩ (.int .i64 2)).setCell ⟨w.heap.size, 1, none⟩ (.int .i64 v0)).setCell ⟨w.heap.size, 2, none⟩ (.int .i64 v1)).setCell ⟨w.heap.size, 3, none⟩ (.slice none 0 0))) w.heap.size [.int .i64 2, .int .i64 v0, .int .i64 v1, .slice none 0 0] 66 := put4r B3 (.int .i64 2) (.int .i64 v0) (.int .i64 v1) (.slice none 0 0)
                have bel4 := belowDrew (below4r bel3 (Nat.le_refl _) (.int .i64 2) (.int .i64 v0) (.int .i64 v1) (.slice none 0 0))
                generalize World.drew _ = w5 at *
                have i0 : w5.cell? ⟨w.heap.size, 0, none⟩ = some (.int .i64 2) := B4.cell 0
                have i1 : w5.cell? ⟨w.heap.size, 1, none⟩ = some (.int .i64 v0) := B4.cell 1
                have i2 : w5.cell? ⟨w.heap.size, 2, none⟩ = some (.int .i64 v1) := B4.cell 2
                have i3 : w5.cell? ⟨w.heap.size, 3, none⟩ = some (.slice none 0 0) := B4.cell 3
                exact bodyPost_ret (v := .tuple #[.agg #[.int .i64 2, .int .i64 v0, .int .i64 v1, .slice none 0 0], .bool true]) (by simp [results, Tryz.results136, go_sem, i0, i1, i2, i3]) rfl ⟨.inl ⟨⟨2, v0, v1, []⟩, none, 0, hTR.out, rfl, World.ownsRow_nil _ _ _ _⟩, bel4⟩)
            · rw [if_neg (fun h => hc2 (by have := h.2; omega)), if_neg (fun h => by rw [kS] at h; exact absurd h.1 (by decide)), if_neg (fun h => by rw [kS] at h; exact absurd h.1 (by decide))] at hTR
              have bB : (x.toList == [98, 97, 116, 99, 104]) = false := by rw [toList_bytes, kS]; rfl
              have bS : (x.toList == [115, 101, 97, 108]) = true := by rw [toList_bytes, kS]; rfl
              have bM : (x.toList == [109, 101, 114, 103, 101]) = false := by rw [toList_bytes, kS]; rfl
              have bD : (x.toList == [100, 114, 111, 112]) = false := by rw [toList_bytes, kS]; rfl
              replace hTR := hide hTR
              clear hvl hT
              have d2 : ¬ (c : Int) = 2 := by omega
              go_wp2_with fail
              have B4 := put4r B3 (.int .i64 0) (.int .i64 0) (.int .i64 0) (.slice none 0 0)
              have bel4 := below4r bel3 (Nat.le_refl _) (.int .i64 0) (.int .i64 0) (.int .i64 0) (.slice none 0 0)
              have i0 := B4.cell 0
              have i1 := B4.cell 1
              have i2 := B4.cell 2
              have i3 := B4.cell 3
              exact bodyPost_ret (v := .tuple #[.agg #[.int .i64 0, .int .i64 0, .int .i64 0, .slice none 0 0], .bool false]) (by simp [results, Tryz.results136, go_sem, i0, i1, i2, i3]) rfl ⟨.inr ⟨hTR.out, rfl⟩, bel4⟩
          · rw [if_neg (fun h => kS h.1)] at hTR
            by_cases kM : bytes x = wMerge
            · by_cases hc2 : c = 2
              · rw [if_pos ⟨kM, by omega⟩] at hTR
                have bB : (x.toList == [98, 97, 116, 99, 104]) = false := by rw [toList_bytes, kM]; rfl
                have bS : (x.toList == [115, 101, 97, 108]) = false := by rw [toList_bytes, kM]; rfl
                have bM : (x.toList == [109, 101, 114, 103, 101]) = true := by rw [toList_bytes, kM]; rfl
                have bD : (x.toList == [100, 114, 111, 112]) = false := by rw [toList_bytes, kM]; rfl
                replace hTR := hide hTR
                obtain ⟨v0, v1, rfl⟩ : ∃ v0 v1, vs = [v0, v1] := by
                  match vs, hvl.trans hc2 with
                  | [v0, v1], _ => exact ⟨v0, v1, rfl⟩
                subst hc2
                obtain ⟨gv, ov, rfl, hgv, hcv⟩ := SV.row.at (by simp)
                have y0 : w3.cell? ⟨gv, ov, none⟩ = some (.int .i64 v0) := hcv 0 _ rfl
                have y1 : w3.cell? ⟨gv, ov + 1, none⟩ = some (.int .i64 v1) := hcv 1 _ rfl
                have hne : ¬ gv = w.heap.size := by
                  rcases o3.2 with ⟨h, _⟩ | ⟨g, cp, cur, h, hb, _⟩
                  · cases h
                  · simp only [Value.slice.injEq, Option.some.injEq, Addr.mk.injEq] at h
                    obtain ⟨⟨rfl, -, -⟩, -⟩ := h
                    omega
                have hne' : ¬ w.heap.size = gv := fun h => hne h.symm
                clear hvl hT hcv
                go_wp2_with fail
                go_region_held3 (fun w' => w'.cell? ⟨gv, ov, none⟩ = some (.int .i64 v0) ∧ w'.cell? ⟨gv, ov + 1, none⟩ = some (.int .i64 v1)) (go_keep) (fail)
                all_goals go_wp2_with fail
                all_goals (
                  have B4 : Blk (World.drew ((((w3.setCell ⟨w.heap.size, 0, none⟩ (.int .i64 3)).setCell ⟨w.heap.size, 1, none⟩ (.int .i64 v0)).setCell ⟨w.heap.size, 2, none⟩ (.int .i64 v1)).setCell ⟨w.heap.size, 3, none⟩ (.slice none 0 0))) w.heap.size [.int .i64 3, .int .i64 v0, .int .i64 v1, .slice none 0 0] 66 := put4r B3 (.int .i64 3) (.int .i64 v0) (.int .i64 v1) (.slice none 0 0)
                  have bel4 := belowDrew (below4r bel3 (Nat.le_refl _) (.int .i64 3) (.int .i64 v0) (.int .i64 v1) (.slice none 0 0))
                  generalize World.drew _ = w5 at *
                  have i0 : w5.cell? ⟨w.heap.size, 0, none⟩ = some (.int .i64 3) := B4.cell 0
                  have i1 : w5.cell? ⟨w.heap.size, 1, none⟩ = some (.int .i64 v0) := B4.cell 1
                  have i2 : w5.cell? ⟨w.heap.size, 2, none⟩ = some (.int .i64 v1) := B4.cell 2
                  have i3 : w5.cell? ⟨w.heap.size, 3, none⟩ = some (.slice none 0 0) := B4.cell 3
                  exact bodyPost_ret (v := .tuple #[.agg #[.int .i64 3, .int .i64 v0, .int .i64 v1, .slice none 0 0], .bool true]) (by simp [results, Tryz.results136, go_sem, i0, i1, i2, i3]) rfl ⟨.inl ⟨⟨3, v0, v1, []⟩, none, 0, hTR.out, rfl, World.ownsRow_nil _ _ _ _⟩, bel4⟩)
              · rw [if_neg (fun h => hc2 (by have := h.2; omega)), if_neg (fun h => by rw [kM] at h; exact absurd h.1 (by decide))] at hTR
                have bB : (x.toList == [98, 97, 116, 99, 104]) = false := by rw [toList_bytes, kM]; rfl
                have bS : (x.toList == [115, 101, 97, 108]) = false := by rw [toList_bytes, kM]; rfl
                have bM : (x.toList == [109, 101, 114, 103, 101]) = true := by rw [toList_bytes, kM]; rfl
                have bD : (x.toList == [100, 114, 111, 112]) = false := by rw [toList_bytes, kM]; rfl
                replace hTR := hide hTR
                clear hvl hT
                have d2 : ¬ (c : Int) = 2 := by omega
                go_wp2_with fail
                have B4 := put4r B3 (.int .i64 0) (.int .i64 0) (.int .i64 0) (.slice none 0 0)
                have bel4 := below4r bel3 (Nat.le_refl _) (.int .i64 0) (.int .i64 0) (.int .i64 0) (.slice none 0 0)
                have i0 := B4.cell 0
                have i1 := B4.cell 1
                have i2 := B4.cell 2
                have i3 := B4.cell 3
                exact bodyPost_ret (v := .tuple #[.agg #[.int .i64 0, .int .i64 0, .int .i64 0, .slice none 0 0], .bool false]) (by simp [results, Tryz.results136, go_sem, i0, i1, i2, i3]) rfl ⟨.inr ⟨hTR.out, rfl⟩, bel4⟩
            · rw [if_neg (fun h => kM h.1)] at hTR
              by_cases kD : bytes x = wDrop
              · by_cases hc1 : c = 1
                · rw [if_pos ⟨kD, by omega⟩] at hTR
                  have bB : (x.toList == [98, 97, 116, 99, 104]) = false := by rw [toList_bytes, kD]; rfl
                  have bS : (x.toList == [115, 101, 97, 108]) = false := by rw [toList_bytes, kD]; rfl
                  have bM : (x.toList == [109, 101, 114, 103, 101]) = false := by rw [toList_bytes, kD]; rfl
                  have bD : (x.toList == [100, 114, 111, 112]) = true := by rw [toList_bytes, kD]; rfl
                  replace hTR := hide hTR
                  obtain ⟨v0, rfl⟩ : ∃ v0, vs = [v0] := by
                    match vs, hvl.trans hc1 with
                    | [v0], _ => exact ⟨v0, rfl⟩
                  subst hc1
                  obtain ⟨gv, ov, rfl, hgv, hcv⟩ := SV.row.at (by simp)
                  have y0 : w3.cell? ⟨gv, ov, none⟩ = some (.int .i64 v0) := hcv 0 _ rfl
                  have hne : ¬ gv = w.heap.size := by
                    rcases o3.2 with ⟨h, _⟩ | ⟨g, cp, cur, h, hb, _⟩
                    · cases h
                    · simp only [Value.slice.injEq, Option.some.injEq, Addr.mk.injEq] at h
                      obtain ⟨⟨rfl, -, -⟩, -⟩ := h
                      omega
                  have hne' : ¬ w.heap.size = gv := fun h => hne h.symm
                  clear hvl hT hcv
                  go_wp2_with fail
                  have B4 := put4r B3 (.int .i64 4) (.int .i64 0) (.int .i64 v0) (.slice none 0 0)
                  have bel4 := below4r bel3 (Nat.le_refl _) (.int .i64 4) (.int .i64 0) (.int .i64 v0) (.slice none 0 0)
                  have i0 := B4.cell 0
                  have i1 := B4.cell 1
                  have i2 := B4.cell 2
                  have i3 := B4.cell 3
                  exact bodyPost_ret (v := .tuple #[.agg #[.int .i64 4, .int .i64 0, .int .i64 v0, .slice none 0 0], .bool true]) (by simp [results, Tryz.results136, go_sem, i0, i1, i2, i3]) rfl ⟨.inl ⟨⟨4, 0, v0, []⟩, none, 0, hTR.out, rfl, World.ownsRow_nil _ _ _ _⟩, bel4⟩
                · rw [if_neg (fun h => hc1 (by have := h.2; omega))] at hTR
                  have bB : (x.toList == [98, 97, 116, 99, 104]) = false := by rw [toList_bytes, kD]; rfl
                  have bS : (x.toList == [115, 101, 97, 108]) = false := by rw [toList_bytes, kD]; rfl
                  have bM : (x.toList == [109, 101, 114, 103, 101]) = false := by rw [toList_bytes, kD]; rfl
                  have bD : (x.toList == [100, 114, 111, 112]) = true := by rw [toList_bytes, kD]; rfl
                  replace hTR := hide hTR
                  clear hvl hT
                  have d1 : ¬ (c : Int) = 1 := by omega
                  go_wp2_with fail
                  have B4 := put4r B3 (.int .i64 0) (.int .i64 0) (.int .i64 0) (.slice none 0 0)
                  have bel4 := below4r bel3 (Nat.le_refl _) (.int .i64 0) (.int .i64 0) (.int .i64 0) (.slice none 0 0)
                  have i0 := B4.cell 0
                  have i1 := B4.cell 1
                  have i2 := B4.cell 2
                  have i3 := B4.cell 3
                  exact bodyPost_ret (v := .tuple #[.agg #[.int .i64 0, .int .i64 0, .int .i64 0, .slice none 0 0], .bool false]) (by simp [results, Tryz.results136, go_sem, i0, i1, i2, i3]) rfl ⟨.inr ⟨hTR.out, rfl⟩, bel4⟩
              · rw [if_neg (fun h => kD h.1)] at hTR
                have bB : (x.toList == [98, 97, 116, 99, 104]) = false := by rw [toList_bytes]; exact beq_eq_false_iff_ne.2 kB
                have bS : (x.toList == [115, 101, 97, 108]) = false := by rw [toList_bytes]; exact beq_eq_false_iff_ne.2 kS
                have bM : (x.toList == [109, 101, 114, 103, 101]) = false := by rw [toList_bytes]; exact beq_eq_false_iff_ne.2 kM
                have bD : (x.toList == [100, 114, 111, 112]) = false := by rw [toList_bytes]; exact beq_eq_false_iff_ne.2 kD
                replace hTR := hide hTR
                clear hvl hT
                go_wp2_with fail
                have B4 := put4r B3 (.int .i64 0) (.int .i64 0) (.int .i64 0) (.slice none 0 0)
                have bel4 := below4r bel3 (Nat.le_refl _) (.int .i64 0) (.int .i64 0) (.int .i64 0) (.slice none 0 0)
                have i0 := B4.cell 0
                have i1 := B4.cell 1
                have i2 := B4.cell 2
                have i3 := B4.cell 3
                exact bodyPost_ret (v := .tuple #[.agg #[.int .i64 0, .int .i64 0, .int .i64 0, .slice none 0 0], .bool false]) (by simp [results, Tryz.results136, go_sem, i0, i1, i2, i3]) rfl ⟨.inr ⟨hTR.out, rfl⟩, bel4⟩
      · have B3 := B2.keep b3 B2.lt
        have r0 := B3.cell 0
        have r1 := B3.cell 1
        have r2 := B3.cell 2
        have r3 := B3.cell 3
        have f0 := B3.free 0
        have f1 := B3.free 1
        have f2 := B3.free 2
        have f3 := B3.free 3
        have lR3 := B3.lt
        have bel3 := belowCall bel2 b3
        have hTR : TR = none := by
          rw [hT.out]
          simp only [readR, List.map_cons, hvs, Option.bind_none]
        replace hTR := hide hTR
        go_wp2_with fail
        have B4 := put4r B3 (.int .i64 0) (.int .i64 0) (.int .i64 0) (.slice none 0 0)
        have bel4 := below4r bel3 (Nat.le_refl _) (.int .i64 0) (.int .i64 0) (.int .i64 0) (.slice none 0 0)
        have i0 := B4.cell 0
        have i1 := B4.cell 1
        have i2 := B4.cell 2
        have i3 := B4.cell 3
        exact bodyPost_ret (v := .tuple #[.agg #[.int .i64 0, .int .i64 0, .int .i64 0, .slice none 0 0], .bool false]) (by simp [results, Tryz.results136, go_sem, i0, i1, i2, i3]) rfl ⟨.inr ⟨hTR.out, rfl⟩, bel4⟩

end Go.Proofs.YtcjdpilmhlfmfaaGreatDoor

/-
  note.Parse: the record of a text, or what is wrong with it.
-/
namespace Go.Proofs.YtcjdpilmhlfmfaaGreatDoor
open Go.RowKit

/-- What Parse tells of a text: what is wrong, and the record. -/
def parseE (s : ByteArray) : Int := if 60000 < s.size then 2 else match textR s with
  | none => 1
  | some r => recE r

def rec0 : Rc := ⟨0, 0, 0, []⟩

def parseR (s : ByteArray) : Rc := if 60000 < s.size then rec0 else match textR s with
  | none => rec0
  | some r => if recE r = 0 then r else rec0

set_option maxHeartbeats 1000000 in
set_option maxRecDepth 100000 in
theorem parse_is (s : ByteArray) (w : World) (hg : Gl w) (hs : s.size ≤ 9223372036854775807) :
    Calls Tryz.prog 100 #[.string s] w fun e w' => ∃ a' G, e = .returned (.tuple #[.agg #[.int .i64 (parseR s).k, .int .i64 (parseR s).s, .int .i64 (parseR s).n, .slice a' (parseR s).e.length G], .int .i64 (parseE s)]) ∧ w'.ownsRow w.heap.size 68 3 (.slice a' (parseR s).e.length G) (parseR s).e.length ((parseR s).e.flatMap ec) ∧ Below w.heap.size w w' := by
  have BX := Blk.laid w [.int .i64 0, .int .i64 0, .int .i64 0, .slice none 0 0] 66 _ rfl
  have belX : Below w.heap.size w (w.alloc (.cells #[.int .i64 0, .int .i64 0, .int .i64 0, .slice none 0 0] 66)) := (Below.refl _ _).alloc (Nat.le_refl _) _
  have g1 := hg.alloc (.cells #[.int .i64 0, .int .i64 0, .int .i64 0, .slice none 0 0] 66)
  by_cases hb : 60000 < s.size
  · rw [show parseR s = rec0 from if_pos hb, show parseE s = 2 from if_pos hb]
    have hb' : (60000 : Int) < s.size := by omega
    show Calls Tryz.prog 100 #[.string s] w fun e w' => ∃ a' G, e = .returned (.tuple #[.agg #[.int .i64 0, .int .i64 0, .int .i64 0, .slice a' 0 G], .int .i64 2]) ∧ w'.ownsRow w.heap.size 68 3 (.slice a' 0 G) 0 [] ∧ Below w.heap.size w w'
    go_enter Tryz.func100, Tryz.ntmps100
    go_wp2_with fail
    generalize w.alloc _ = w1 at *
    have r0 := BX.cell 0
    have r1 := BX.cell 1
    have r2 := BX.cell 2
    have r3 := BX.cell 3
    have f0 := BX.free 0
    have f1 := BX.free 1
    have f2 := BX.free 2
    have f3 := BX.free 3
    have lX := BX.lt
    go_wp2_with fail
    have i0 : w1.cell? ⟨w.heap.size, 0, none⟩ = some (.int .i64 0) := r0
    have i1 : w1.cell? ⟨w.heap.size, 1, none⟩ = some (.int .i64 0) := r1
    have i2 : w1.cell? ⟨w.heap.size, 2, none⟩ = some (.int .i64 0) := r2
    have i3 : w1.cell? ⟨w.heap.size, 3, none⟩ = some (.slice none 0 0) := r3
    exact bodyPost_ret (v := .tuple #[.agg #[.int .i64 0, .int .i64 0, .int .i64 0, .slice none 0 0], .int .i64 2]) (by simp [results, Tryz.results100, go_sem, i0, i1, i2, i3]) rfl ⟨none, 0, rfl, World.ownsRow_nil _ _ _ _, belX⟩
  · have hb' : ¬ (60000 : Int) < s.size := by omega
    have cR := fun W h => read_any s W h (by omega)
    have eE : parseE s = match textR s with
      | none => 1
      | some r => recE r := if_neg hb
    have eR : parseR s = match textR s with
      | none => rec0
      | some r => if recE r = 0 then r else rec0 := if_neg hb
    rw [eE, eR]
    clear eE eR
    cases hT : textR s with
    | none =>
      simp only
      show Calls Tryz.prog 100 #[.string s] w fun e w' => ∃ a' G, e = .returned (.tuple #[.agg #[.int .i64 0, .int .i64 0, .int .i64 0, .slice a' 0 G], .int .i64 1]) ∧ w'.ownsRow w.heap.size 68 3 (.slice a' 0 G) 0 [] ∧ Below w.heap.size w w'
      have cR1 : ∀ W, Gl W → Calls Tryz.prog 136 #[.string s] W fun e w' => e = .returned (.tuple #[.agg #[.int .i64 0, .int .i64 0, .int .i64 0, .slice none 0 0], .bool false]) ∧ Below W.heap.size W w' := by
        intro W h
        refine (cR W h).mono ?_
        rintro e w' ⟨(⟨r, a', G, h1, _, _⟩ | ⟨_, h2⟩), b⟩
        · rw [hT] at h1
          cases h1
        · exact ⟨h2, b⟩
      clear cR hT
      go_enter Tryz.func100, Tryz.ntmps100
      go_wp2_with fail
      generalize w.alloc _ = w1 at *
      go_at_call 136
      refine (cR1 _ g1).mono ?_
      rintro e w2 ⟨rfl, b2⟩
      replace BX := BX.keep (newB (belowCall (Below.refl w1.heap.size w1) b2) (.cells #[.int .i64 0, .int .i64 0, .int .i64 0, .slice none 0 0] 66)) BX.lt
      replace belX := newB (belowCall belX b2) (.cells #[.int .i64 0, .int .i64 0, .int .i64 0, .slice none 0 0] 66)
      go_upto_region 4 with fail
      generalize w2.alloc _ = w3 at *
      have r0 := BX.cell 0
      have r1 := BX.cell 1
      have r2 := BX.cell 2
      have r3 := BX.cell 3
      have f0 := BX.free 0
      have f1 := BX.free 1
      have f2 := BX.free 2
      have f3 := BX.free 3
      have lX := BX.lt
      go_wp2_with fail
      have B9 := put4r BX (.int .i64 0) (.int .i64 0) (.int .i64 0) (.slice none 0 0)
      have bel9 := below4r belX (Nat.le_refl _) (.int .i64 0) (.int .i64 0) (.int .i64 0) (.slice none 0 0)
      generalize World.setCell _ _ _ = w9 at *
      have i0 : w9.cell? ⟨w.heap.size, 0, none⟩ = some (.int .i64 0) := B9.cell 0
      have i1 : w9.cell? ⟨w.heap.size, 1, none⟩ = some (.int .i64 0) := B9.cell 1
      have i2 : w9.cell? ⟨w.heap.size, 2, none⟩ = some (.int .i64 0) := B9.cell 2
      have i3 : w9.cell? ⟨w.heap.size, 3, none⟩ = some (.slice none 0 0) := B9.cell 3
      exact bodyPost_ret (v := .tuple #[.agg #[.int .i64 0, .int .i64 0, .int .i64 0, .slice none 0 0], .int .i64 1]) (by simp [results, Tryz.results100, go_sem, i0, i1, i2, i3]) rfl ⟨none, 0, rfl, World.ownsRow_nil _ _ _ _, bel9⟩
    | some r =>
      simp only
      have cR1 : ∀ W, Gl W → Calls Tryz.prog 136 #[.string s] W fun e w' => ∃ a' G, e = .returned (.tuple #[.agg #[.int .i64 r.k, .int .i64 r.s, .int .i64 r.n, .slice a' r.e.length G], .bool true]) ∧ w'.ownsRow W.heap.size 68 3 (.slice a' r.e.length G) r.e.length (r.e.flatMap ec) ∧ Below W.heap.size W w' := by
        intro W h
        refine (cR W h).mono ?_
        rintro e w' ⟨(⟨r', a', G, h1, h2, h3⟩ | ⟨h1, _⟩), b⟩
        · rw [hT] at h1
          obtain rfl := Option.some.inj h1
          exact ⟨a', G, h2, h3, b⟩
        · rw [hT] at h1
          cases h1
      clear cR hT
      obtain ⟨n, hn⟩ : ∃ n, n = r.e.length := ⟨_, rfl⟩
      have cC := fun a' G W h => check_is r a' G n W h hn
      by_cases h0 : recE r = 0
      · rw [if_pos h0, h0]
        simp only [h0] at cC
        rw [← hn] at cR1 ⊢
        obtain ⟨k, sr, m, l⟩ := r
        simp only at *
        replace hn := hide hn
        replace h0 := hide h0
        go_enter Tryz.func100, Tryz.ntmps100
        go_wp2_with fail
        generalize w.alloc _ = w1 at *
        go_at_call 136
        refine (cR1 _ g1).mono ?_
        rintro e w2 ⟨a2, G2, rfl, o2, b2⟩
        have BQ := Blk.laid w2 [.int .i64 k, .int .i64 sr, .int .i64 m, .slice a2 n G2] 66 _ rfl
        have bq := newB (Below.refl w2.heap.size w2) (.cells #[.int .i64 k, .int .i64 sr, .int .i64 m, .slice a2 n G2] 66)
        have lt1 := BX.lt
        have le1 : w.heap.size ≤ w1.heap.size := belX.size
        replace BX := (BX.keep b2 BX.lt).keep bq (BX.keep b2 BX.lt).lt
        replace belX := belowCall (belowCall belX b2) bq
        have o3 := ownCall o2 bq
        have ltX : w.heap.size < w2.heap.size := Nat.lt_of_lt_of_le lt1 b2.size
        go_upto_region 4 with fail
        generalize hgQ : w2.heap.size = gQ at *
        generalize w2.alloc _ = w3 at *
        have q0 : w3.cell? ⟨gQ, 0, none⟩ = some (.int .i64 k) := BQ.cell 0
        have q1 : w3.cell? ⟨gQ, 1, none⟩ = some (.int .i64 sr) := BQ.cell 1
        have q2 : w3.cell? ⟨gQ, 2, none⟩ = some (.int .i64 m) := BQ.cell 2
        have q3 : w3.cell? ⟨gQ, 3, none⟩ = some (.slice a2 n G2) := BQ.cell 3
        have lQ := BQ.lt
        have S3 : SlW ec w3 a2 G2 l := by
          obtain ⟨a4, G4, e4, s4, _, _⟩ := SlW.ofOwn ec_three (by decide) o3
          simp only [Value.slice.injEq, true_and] at e4
          obtain ⟨rfl, rfl⟩ := e4
          exact s4
        go_wp2_with fail
        go_at_call 115
        refine (cC _ _ _ S3).mono ?_
        rintro e w4 ⟨rfl, b4⟩
        have BQ4 := BQ.keep b4 BQ.lt
        have t0 := BQ4.cell 0
        have t1 := BQ4.cell 1
        have t2 := BQ4.cell 2
        have t3 := BQ4.cell 3
        have lQ4 := BQ4.lt
        replace BX := BX.keep b4 BX.lt
        replace belX := belowCall belX b4
        have o4 := ownCall o3 b4
        have ner : ¬ w.heap.size = gQ := by omega
        have ner' : ¬ gQ = w.heap.size := by omega
        have r0 := BX.cell 0
        have r1 := BX.cell 1
        have r2 := BX.cell 2
        have r3 := BX.cell 3
        have f0 := BX.free 0
        have f1 := BX.free 1
        have f2 := BX.free 2
        have f3 := BX.free 3
        have lX := BX.lt
        go_wp2_with fail
        have B9 := put4r BX (.int .i64 k) (.int .i64 sr) (.int .i64 m) (.slice a2 n G2)
        have bel9 := below4r belX (Nat.le_refl _) (.int .i64 k) (.int .i64 sr) (.int .i64 m) (.slice a2 n G2)
        have o9 := owndown (own4r o4 BX (by decide) (.int .i64 k) (.int .i64 sr) (.int .i64 m) (.slice a2 n G2)) le1
        generalize World.setCell _ _ _ = w9 at *
        have i0 : w9.cell? ⟨w.heap.size, 0, none⟩ = some (.int .i64 k) := B9.cell 0
        have i1 : w9.cell? ⟨w.heap.size, 1, none⟩ = some (.int .i64 sr) := B9.cell 1
        have i2 : w9.cell? ⟨w.heap.size, 2, none⟩ = some (.int .i64 m) := B9.cell 2
        have i3 : w9.cell? ⟨w.heap.size, 3, none⟩ = some (.slice a2 n G2) := B9.cell 3
        exact bodyPost_ret (v := .tuple #[.agg #[.int .i64 k, .int .i64 sr, .int .i64 m, .slice a2 n G2], .int .i64 0]) (by simp [results, Tryz.results100, go_sem, i0, i1, i2, i3]) rfl ⟨a2, G2, rfl, o9, bel9⟩
      · rw [if_neg h0]
        obtain ⟨E, hE⟩ : ∃ E, E = recE r := ⟨_, rfl⟩
        rw [← hE] at cC h0 ⊢
        show Calls Tryz.prog 100 #[.string s] w fun e w' => ∃ a' G, e = .returned (.tuple #[.agg #[.int .i64 0, .int .i64 0, .int .i64 0, .slice a' 0 G], .int .i64 E]) ∧ w'.ownsRow w.heap.size 68 3 (.slice a' 0 G) 0 [] ∧ Below w.heap.size w w'
        rw [← hn] at cR1
        obtain ⟨k, sr, m, l⟩ := r
        simp only at *
        replace hn := hide hn
        replace hE := hide hE
        have hd : decide (E = 0) = false := decide_eq_false h0
        go_enter Tryz.func100, Tryz.ntmps100
        go_wp2_with fail
        generalize w.alloc _ = w1 at *
        go_at_call 136
        refine (cR1 _ g1).mono ?_
        rintro e w2 ⟨a2, G2, rfl, o2, b2⟩
        have BQ := Blk.laid w2 [.int .i64 k, .int .i64 sr, .int .i64 m, .slice a2 n G2] 66 _ rfl
        have bq := newB (Below.refl w2.heap.size w2) (.cells #[.int .i64 k, .int .i64 sr, .int .i64 m, .slice a2 n G2] 66)
        have lt1 := BX.lt
        have le1 : w.heap.size ≤ w1.heap.size := belX.size
        replace BX := (BX.keep b2 BX.lt).keep bq (BX.keep b2 BX.lt).lt
        replace belX := belowCall (belowCall belX b2) bq
        have o3 := ownCall o2 bq
        have ltX : w.heap.size < w2.heap.size := Nat.lt_of_lt_of_le lt1 b2.size
        go_upto_region 4 with fail
        generalize hgQ : w2.heap.size = gQ at *
        generalize w2.alloc _ = w3 at *
        have q0 : w3.cell? ⟨gQ, 0, none⟩ = some (.int .i64 k) := BQ.cell 0
        have q1 : w3.cell? ⟨gQ, 1, none⟩ = some (.int .i64 sr) := BQ.cell 1
        have q2 : w3.cell? ⟨gQ, 2, none⟩ = some (.int .i64 m) := BQ.cell 2
        have q3 : w3.cell? ⟨gQ, 3, none⟩ = some (.slice a2 n G2) := BQ.cell 3
        have lQ := BQ.lt
        have S3 : SlW ec w3 a2 G2 l := by
          obtain ⟨a4, G4, e4, s4, _, _⟩ := SlW.ofOwn ec_three (by decide) o3
          simp only [Value.slice.injEq, true_and] at e4
          obtain ⟨rfl, rfl⟩ := e4
          exact s4
        go_wp2_with fail
        go_at_call 115
        refine (cC _ _ _ S3).mono ?_
        rintro e w4 ⟨rfl, b4⟩
        have BQ4 := BQ.keep b4 BQ.lt
        have t0 := BQ4.cell 0
        have t1 := BQ4.cell 1
        have t2 := BQ4.cell 2
        have t3 := BQ4.cell 3
        have lQ4 := BQ4.lt
        replace BX := BX.keep b4 BX.lt
        replace belX := belowCall belX b4
        have o4 := ownCall o3 b4
        have ner : ¬ w.heap.size = gQ := by omega
        have ner' : ¬ gQ = w.heap.size := by omega
        have r0 := BX.cell 0
        have r1 := BX.cell 1
        have r2 := BX.cell 2
        have r3 := BX.cell 3
        have f0 := BX.free 0
        have f1 := BX.free 1
        have f2 := BX.free 2
        have f3 := BX.free 3
        have lX := BX.lt
        go_wp2_with fail
        have B9 := put4r BX (.int .i64 0) (.int .i64 0) (.int .i64 0) (.slice none 0 0)
        have bel9 := below4r belX (Nat.le_refl _) (.int .i64 0) (.int .i64 0) (.int .i64 0) (.slice none 0 0)
        generalize World.setCell _ _ _ = w9 at *
        have i0 : w9.cell? ⟨w.heap.size, 0, none⟩ = some (.int .i64 0) := B9.cell 0
        have i1 : w9.cell? ⟨w.heap.size, 1, none⟩ = some (.int .i64 0) := B9.cell 1
        have i2 : w9.cell? ⟨w.heap.size, 2, none⟩ = some (.int .i64 0) := B9.cell 2
        have i3 : w9.cell? ⟨w.heap.size, 3, none⟩ = some (.slice none 0 0) := B9.cell 3
        exact bodyPost_ret (v := .tuple #[.agg #[.int .i64 0, .int .i64 0, .int .i64 0, .slice none 0 0], .int .i64 E]) (by simp [results, Tryz.results100, go_sem, i0, i1, i2, i3]) rfl ⟨none, 0, rfl, World.ownsRow_nil _ _ _ _, bel9⟩

end Go.Proofs.YtcjdpilmhlfmfaaGreatDoor
