/-
  note.Print: the text of a record, or what is wrong with it.
-/
import Derived.Test.YthoclnjfbigdiaaDoorNWrite
import Derived.Test.YthoclnjfbigdiaaDoorNCheck2
import Derived.Test.YthoclnjfbigdiaaDoorNNums
namespace Go.Proofs.YthoclnjfbigdiaaDoor
open Go.RowKit

theorem recE_few {r : Rc} (h : recE r = 0) (h1 : r.k = 1) : r.s = 0 ∧ r.n = 0 ∧ r.e.length ≤ 10 ∧ r.e.all ntOk = true := by
  unfold recE at h
  rw [if_pos h1] at h
  split at h
  · cases h
  · rename_i h2
    split at h
    · cases h
    · split at h
      · rename_i h3 h4
        exact ⟨Decidable.of_not_not (fun e => h2 (.inl e)), Decidable.of_not_not (fun e => h2 (.inr e)), by omega, h4⟩
      · cases h

theorem recE_plain {r : Rc} (h : recE r = 0) (h1 : r.k ≠ 1) : (r.k = 2 ∨ r.k = 3 ∨ r.k = 4) ∧ r.e = [] ∧ (r.k = 4 → r.s = 0) ∧ 0 ≤ r.s ∧ r.s < 4 ∧ 0 ≤ r.n ∧ r.n ≤ 100001 := by
  unfold recE at h
  rw [if_neg h1] at h
  split at h
  · rename_i h2
    split at h
    · cases h
    · rename_i h3
      split at h
      · rename_i h4
        exact ⟨h2, Decidable.of_not_not (fun e => h3 (.inl e)), fun e => Decidable.of_not_not (fun e' => h3 (.inr ⟨e, e'⟩)), h4⟩
      · cases h
  · cases h

theorem nums_in {l : List Nt} (h : l.all ntOk = true) : ∀ m ∈ ntNums l, -9223372036854775808 ≤ m ∧ m ≤ 9223372036854775807 := by
  intro m hm
  unfold ntNums at hm
  obtain ⟨x, hx, hm⟩ := List.mem_flatMap.1 hm
  have := of_decide_eq_true (List.all_eq_true.1 h x hx)
  simp only [List.mem_cons, List.not_mem_nil, or_false] at hm
  rcases hm with rfl | rfl | rfl <;> omega

theorem ints_own {w : World} {base n : Nat} {a : Option Addr} {G : Nat} {cs : List Value} {T : TypeId} (o : w.ownsRow base T 1 (.slice a n G) n cs) : Sl w a G cs := by
  obtain ⟨h1, ⟨h2, h3⟩ | ⟨g, cap, cur, e1, hb, hh, hn, hm, hs, ht⟩⟩ := o
  · simp only [Value.slice.injEq] at h2
    obtain ⟨rfl, rfl, rfl⟩ := h2
    obtain rfl := List.length_eq_zero_iff.1 (by omega : cs.length = 0)
    exact ⟨.inl rfl, by simp, by decide, fun _ => rfl⟩
  · simp only [Value.slice.injEq, true_and] at e1
    obtain ⟨rfl, rfl⟩ := e1
    refine ⟨.inr ⟨g, 0, rfl, lt_of_block hh, fun i v hv => ?_⟩, by omega, hm, fun h => by cases h⟩
    rw [← ht, List.getElem?_take] at hv
    split at hv
    · simp only [World.cell?, hh, Nat.zero_add]
      simpa using hv
    · cases hv

theorem ints_laid (w : World) (l : List Int) (T : TypeId) : Sl (w.alloc (.cells (l.map (Value.int .i64)).toArray T)) (some ⟨w.heap.size, 0, none⟩) l.length (l.map (Value.int .i64)) ∨ 9223372036854775807 < l.length := by
  by_cases h : l.length ≤ 9223372036854775807
  · refine .inl ⟨.inr ⟨_, 0, rfl, by simp, fun i v hv => ?_⟩, by simp, h, fun h => by cases h⟩
    have B := Blk.laid w (l.map (Value.int .i64)) T _ rfl
    rw [Nat.zero_add]
    exact (B.cell i).trans hv
  · exact .inr (by omega)

theorem write_nums (wd : ByteArray) (ns : List Int) (W : World) (T : TypeId) (hg : Gl W) (hb : ∀ m ∈ ns, -9223372036854775808 ≤ m ∧ m ≤ 9223372036854775807) (few : ns.length ≤ 1000) (hw : wd.size ≤ 1000) :
    Calls Tryd.prog 24 #[.string wd, .slice (some ⟨W.heap.size, 0, none⟩) ns.length ns.length] (W.alloc (.cells (ns.map (Value.int .i64)).toArray T)) fun e w' => e = .returned (.string ⟨(wd.data.toList ++ numsT ns).toArray⟩) ∧ Below W.heap.size W w' := by
  refine (write_any wd ns _ _ _ _ (hg.alloc _) ((ints_laid W ns T).resolve_right (by omega)) rfl hb few hw).mono ?_
  rintro e w' ⟨rfl, b⟩
  exact ⟨rfl, belowCall (newB (Below.refl _ _) _) b⟩

set_option maxHeartbeats 2000000 in
set_option maxRecDepth 100000 in
theorem print_is (r : Rc) (a : Option Addr) (cap n : Nat) (w : World) (hg : Gl w) (S : SlW ec w a cap r.e) (hn : n = r.e.length) :
    Calls Tryd.prog 6 #[.agg #[.int .i64 r.k, .int .i64 r.s, .int .i64 r.n, .slice a n cap]] w fun e w' => e = .returned (.tuple #[.string ⟨(recT r).toArray⟩, .int .i64 (recE r)]) ∧ Below w.heap.size w w' := by
  have c1 := fun W h => check_is r a cap n W h hn
  have hE : recE r = recE r := rfl
  have T0 : recE r ≠ 0 → recT r = [] := fun h => if_neg h
  have S1 := S.alloc (.cells #[.int .i64 r.k, .int .i64 r.s, .int .i64 r.n, .slice a n cap] 24)
  have B0 := Blk.laid w [.int .i64 r.k, .int .i64 r.s, .int .i64 r.n, .slice a n cap] 24 _ rfl
  have bel : Below w.heap.size w (w.alloc (.cells #[.int .i64 r.k, .int .i64 r.s, .int .i64 r.n, .slice a n cap] 24)) := (Below.refl _ _).alloc (Nat.le_refl _) _
  have g1 := hg.alloc (.cells #[.int .i64 r.k, .int .i64 r.s, .int .i64 r.n, .slice a n cap] 24)
  by_cases h0 : recE r = 0
  · rw [h0] at c1
    rw [h0]
    by_cases h1 : r.k = 1
    · obtain ⟨e1, e2, e3, e4⟩ := recE_few h0 h1
      have eT : recT r = wBatch ++ numsT (ntNums r.e) := by unfold recT; rw [if_pos h0, if_pos h1]
      rw [eT]
      have cn := fun W h => numbers_any r.e a cap n W h hn (by omega)
      have cw := fun a' G W h1 h2 => write_any ⟨#[98, 97, 116, 99, 104]⟩ (ntNums r.e) a' G (n * 3) W h1 h2 (by rw [ntNums_length, hn]) (nums_in e4) (by omega) (by decide)
      obtain ⟨k, s, m, l⟩ := r
      simp only at *
      subst h1
      subst e1
      subst e2
      clear h0 eT e3 e4 T0 hE
      generalize ntNums l = NL at *
      obtain ⟨n3, hn3⟩ : ∃ n3, n3 = n * 3 := ⟨_, rfl⟩
      rw [← hn3] at cn cw
      clear hn3
      replace hn := hide hn
      go_enter Tryd.func6, Tryd.ntmps6
      go_wp2_with fail
      generalize w.alloc _ = w1 at *
      go_at_call 10
      refine (c1 _ S1).mono ?_
      rintro e w2 ⟨rfl, b2⟩
      have B2 := B0.keep b2 B0.lt
      have q0 := B2.cell 0
      have q3 := B2.cell 3
      have l2 := B2.lt
      have g2 := g1.call b2
      have S2 := S1.call b2
      have bel2 := belowCall bel b2
      go_wp2_with fail
      go_at_call 25
      refine (cn _ S2).mono ?_
      rintro e w3 ⟨a3, G3, rfl, o3, b3⟩
      have s3 := ints_own o3
      have g3 := g2.call b3
      have bel3 := belowCall bel2 b3
      go_wp2_with fail
      go_at_call 24
      refine (cw _ _ _ g3 s3).mono ?_
      rintro e w4 ⟨rfl, b4⟩
      go_wp2_with fail
      go_ret2
      exact ⟨rfl, belowCall bel3 b4⟩
    · obtain ⟨hk, e1, e2, e3, e4, e5, e6⟩ := recE_plain h0 h1
      have eT : recT r = (if r.k = 2 then wSeal ++ numsT [r.s, r.n] else if r.k = 3 then wMerge ++ numsT [r.s, r.n] else wDrop ++ numsT [r.n]) := by unfold recT; rw [if_pos h0, if_neg h1]
      rw [eT]
      clear eT T0 hE h0
      obtain ⟨k, s, m, l⟩ := r
      simp only at *
      subst e1
      replace hn := hide hn
      rcases hk with rfl | rfl | rfl
      · clear e2
        rw [if_pos rfl]
        have cw : ∀ W1 : World, Gl W1 → Calls Tryd.prog 24 #[.string ⟨#[115, 101, 97, 108]⟩, .slice (some ⟨W1.heap.size, 0, none⟩) 2 2] (W1.alloc (.cells #[.int .i64 s, .int .i64 m] 3)) fun e w' => e = .returned (.string ⟨(([115, 101, 97, 108] : List UInt8) ++ numsT [s, m]).toArray⟩) ∧ Below W1.heap.size W1 w' := fun W1 h1 => write_nums ⟨#[115, 101, 97, 108]⟩ [s, m] W1 3 h1 (by simp; omega) (by simp) (by decide)
        go_enter Tryd.func6, Tryd.ntmps6
        go_wp2_with fail
        generalize w.alloc _ = w1 at *
        go_at_call 10
        refine (c1 _ S1).mono ?_
        rintro e w2 ⟨rfl, b2⟩
        have B2 := B0.keep b2 B0.lt
        have q0 := B2.cell 0
        have q1 := B2.cell 1
        have q2 := B2.cell 2
        have q3 := B2.cell 3
        have l2 := B2.lt
        have g2 := g1.call b2
        have bel2 := belowCall bel b2
        go_wp2_with fail
        go_at_call 24
        refine (cw w2 g2).mono ?_
        rintro e w3 ⟨rfl, b3⟩
        go_wp2_with fail
        go_ret2
        exact ⟨rfl, belowCall bel2 b3⟩
      · clear e2
        rw [if_neg (by decide), if_pos rfl]
        have cw : ∀ W1 : World, Gl W1 → Calls Tryd.prog 24 #[.string ⟨#[109, 101, 114, 103, 101]⟩, .slice (some ⟨W1.heap.size, 0, none⟩) 2 2] (W1.alloc (.cells #[.int .i64 s, .int .i64 m] 3)) fun e w' => e = .returned (.string ⟨(([109, 101, 114, 103, 101] : List UInt8) ++ numsT [s, m]).toArray⟩) ∧ Below W1.heap.size W1 w' := fun W1 h1 => write_nums ⟨#[109, 101, 114, 103, 101]⟩ [s, m] W1 3 h1 (by simp; omega) (by simp) (by decide)
        go_enter Tryd.func6, Tryd.ntmps6
        go_wp2_with fail
        generalize w.alloc _ = w1 at *
        go_at_call 10
        refine (c1 _ S1).mono ?_
        rintro e w2 ⟨rfl, b2⟩
        have B2 := B0.keep b2 B0.lt
        have q0 := B2.cell 0
        have q1 := B2.cell 1
        have q2 := B2.cell 2
        have q3 := B2.cell 3
        have l2 := B2.lt
        have g2 := g1.call b2
        have bel2 := belowCall bel b2
        go_wp2_with fail
        go_at_call 24
        refine (cw w2 g2).mono ?_
        rintro e w3 ⟨rfl, b3⟩
        go_wp2_with fail
        go_ret2
        exact ⟨rfl, belowCall bel2 b3⟩
      · obtain rfl : s = 0 := e2 rfl
        clear e2
        rw [if_neg (by decide), if_neg (by decide)]
        have cw : ∀ W1 : World, Gl W1 → Calls Tryd.prog 24 #[.string ⟨#[100, 114, 111, 112]⟩, .slice (some ⟨W1.heap.size, 0, none⟩) 1 1] (W1.alloc (.cells #[.int .i64 m] 3)) fun e w' => e = .returned (.string ⟨(([100, 114, 111, 112] : List UInt8) ++ numsT [m]).toArray⟩) ∧ Below W1.heap.size W1 w' := fun W1 h1 => write_nums ⟨#[100, 114, 111, 112]⟩ [m] W1 3 h1 (by simp; omega) (by simp) (by decide)
        go_enter Tryd.func6, Tryd.ntmps6
        go_wp2_with fail
        generalize w.alloc _ = w1 at *
        go_at_call 10
        refine (c1 _ S1).mono ?_
        rintro e w2 ⟨rfl, b2⟩
        have B2 := B0.keep b2 B0.lt
        have q0 := B2.cell 0
        have q1 := B2.cell 1
        have q2 := B2.cell 2
        have q3 := B2.cell 3
        have l2 := B2.lt
        have g2 := g1.call b2
        have bel2 := belowCall bel b2
        go_wp2_with fail
        go_at_call 24
        refine (cw w2 g2).mono ?_
        rintro e w3 ⟨rfl, b3⟩
        go_wp2_with fail
        go_ret2
        exact ⟨rfl, belowCall bel2 b3⟩
  · rw [T0 h0]
    have h0' : ¬ recE r = 0 := h0
    obtain ⟨E, hE'⟩ : ∃ E, E = recE r := ⟨_, rfl⟩
    rw [← hE'] at c1 h0' ⊢
    obtain ⟨k, s, m, l⟩ := r
    simp only at *
    have hd : decide (E = 0) = false := decide_eq_false h0'
    clear hE T0 h0 hE'
    replace hn := hide hn
    go_enter Tryd.func6, Tryd.ntmps6
    go_wp2_with fail
    generalize w.alloc _ = w1 at *
    go_at_call 10
    refine (c1 _ S1).mono ?_
    rintro e w2 ⟨rfl, b2⟩
    go_wp2_with fail
    go_ret2
    exact ⟨rfl, belowCall bel b2⟩

end Go.Proofs.YthoclnjfbigdiaaDoor
