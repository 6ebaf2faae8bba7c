/-
  Appending to a slice that the call itself made, with what is known of where the new one lies: so that several such slices stay apart.
-/
import Derived.ArgAppend
import Derived.Lib.MinMax
import Derived.Test.YtcjdpilmhlfmfaaGreatDoorP01
import Derived.Test.YtcjdpilmhlfmfaaGreatDoorP02
import Derived.Test.YtcjdpilmhlfmfaaGreatDoorHZig
namespace Go.Proofs.YtcjdpilmhlfmfaaGreatDoor
open Go.RowKit

/-- Two slices that lie in two blocks. -/
def Apart (u v : Value) : Prop := ∀ g, u.ownBlock = some g → v.ownBlock ≠ some g

/-- Where the new slice of an append lies: where the old one did, or in new memory. -/
def Went (w : World) (v v' : Value) : Prop := v'.ownBlock = v.ownBlock ∨ ∀ g, v'.ownBlock = some g → w.heap.size ≤ g

theorem wpList_append_went {P : Program} (w : World) {ops : Array Oper} {rest : List Oper} {o : Oper} {a : Act} {Q : Exit → Act → World → Prop} (hgd : o.guard = none) (s x : Operand) (t : TypeId)
    (ho : o.op = .call { callee := .builtin .append, args := #[s, x], argTypes := #[t, t] })
    (base : Nat) (e : TypeId) (i : TypeInfo) (z : Value) (size bytes : Nat) (ht : P.underlying t = some (.slice e)) (hi : P.info? e = some i) (hz : i.zero = some z)
    (hsize : i.size = size) (hby : i.bytes = bytes) (hzs : z.cells.size = size) (hsz : 0 < size)
    (v : Value) (n : Nat) (xs : List Value) (hs : a.eval s = v) (hown : w.ownsRow base e size v n xs)
    (ad : Addr) (m c : Nat) (news : List Value) (hx : a.eval x = .slice (some ad) m c) (hl : news.length = m * size) (hnews : ∀ j u, news[j]? = some u → w.cell? (ad.add j) = some u) (h1 : ∀ u ∈ news, u.oneCell' = true)
    (hm : 0 < m) (h63 : n + m ≤ maxLen) (hbytes : (n + m) * bytes ≤ 140737488355328) (hbase : base ≤ w.heap.size)
    (h : ∀ v' w', w'.ownsRow base e size v' (n + m) (xs ++ news) → w.grownBy w' v.ownBlock → Went w v v' → wpList P ops Q rest (a.put o.dst v') w') : wpList P ops Q (o :: rest) a w := by
  have hxl := hown.1
  have up : ∀ (v' : Value) (w' : World), w'.ownsRow w.heap.size e size v' (n + m) (xs ++ news) → w'.ownsRow base e size v' (n + m) (xs ++ news) ∧ ∀ g, v'.ownBlock = some g → w.heap.size ≤ g := by
    intro v' w' ho'
    refine ⟨⟨ho'.1, ?_⟩, fun g hg => (ho'.lt g hg).1⟩
    rcases ho'.2 with h0 | ⟨g, cap, cur, q1, q2, q3⟩
    · exact .inl h0
    · exact .inr ⟨g, cap, cur, q1, by omega, q3⟩
  have gr : ∀ (w' : World), w.grownBy w' none → ∀ row, w.grownBy w' row := fun w' hg row => ⟨hg.os, hg.tape, hg.output, hg.size, fun k hk _ => hg.block k hk (by simp)⟩
  rcases hown.2 with ⟨rfl, rfl⟩ | ⟨g, cap, cur, rfl, hbg, hh, hnc, hcm, hcs, htk⟩
  · refine wpList_append_grows w hgd s x t ho e i z size bytes ht hi hz hsize hby hzs hsz none 0 0 xs hs (fun _ => ⟨rfl, rfl⟩) hxl (fun b hb => by cases hb) ad m c news hx hl hnews h1 (by omega) h63 hbytes ?_
    intro v' w' ho' hg'
    obtain ⟨p1, p2⟩ := up v' w' ho'
    exact h v' w' p1 (gr w' hg' _) (.inr p2)
  · by_cases hr : n + m ≤ cap
    · refine wpList_append_fits w hgd s x t ho base e i size ht hi hsize g n cap xs hs hown ad m c news hx hl hnews h1 hr ?_
      intro w' ho' hg'
      exact h _ w' ho' hg' (.inl rfl)
    · refine wpList_append_grows w hgd s x t ho e i z size bytes ht hi hz hsize hby hzs hsz (some ⟨g, 0, none⟩) n cap xs hs (fun h => by cases h) hxl ?_ ad m c news hx hl hnews h1 (by omega) h63 hbytes ?_
      · intro b hb j u hu
        obtain rfl := Option.some.inj hb
        exact hown.cells (g := g) rfl j u hu
      · intro v' w' ho' hg'
        obtain ⟨p1, p2⟩ := up v' w' ho'
        exact h v' w' p1 (gr w' hg' _) (.inr p2)

theorem ownApart {w w' : World} {base : Nat} {e : TypeId} {size n : Nat} {u v : Value} {xs : List Value} (h : w.ownsRow base e size u n xs) (hg : w.grownBy w' v.ownBlock) (ha : Apart u v) : w'.ownsRow base e size u n xs := by
  refine h.kept hg ?_
  cases hu : u.ownBlock with
  | none => exact .inl rfl
  | some g => exact .inr (fun e => ha g hu e.symm)

/-- What is owned stays so behind a call that writes nothing old. -/
theorem ownCall {w w' : World} {base : Nat} {e : TypeId} {size n : Nat} {u : Value} {xs : List Value} (h : w.ownsRow base e size u n xs) (hb : Below w.heap.size w w') : w'.ownsRow base e size u n xs :=
  h.kept (row := none) ⟨hb.os, hb.tape, hb.output, hb.size, fun k hk _ => hb.block k hk⟩ (by
    cases hu : u.ownBlock with
    | none => exact .inl rfl
    | some g => exact .inr (by simp))

theorem ownSl {w : World} {base : Nat} {e : TypeId} {n : Nat} {v : Value} {xs : List Value} (h : w.ownsRow base e 1 v n xs) : ∃ ao cap, v = .slice ao n cap ∧ Sl w ao cap xs ∧ xs.length = n := by
  rcases h.2 with ⟨rfl, rfl⟩ | ⟨g, cap, cur, rfl, hbg, hh, hnc, hcm, hcs, htk⟩
  · have hx : xs = [] := List.eq_nil_of_length_eq_zero (by simpa using h.1)
    subst hx
    exact ⟨none, 0, rfl, Sl.ofNil w, rfl⟩
  · have := slOfOwn h
    exact ⟨_, _, rfl, this.1, this.2⟩

theorem Blk.grown {w w' : World} {g : Nat} {cs : List Value} {t : TypeId} {row : Option Nat} (h : Blk w g cs t) (hg : w.grownBy w' row) (hne : ∀ k, row = some k → k ≠ g) : Blk w' g cs t :=
  (hg.block g h.lt (fun e => hne g e.symm rfl)).trans h

theorem Blk.alloc {w : World} {g : Nat} {cs : List Value} {t : TypeId} (h : Blk w g cs t) (o : Obj) : Blk (w.alloc o) g cs t :=
  h.keep ((Below.refl w.heap.size w).alloc (Nat.le_refl _) o) h.lt

/-- An append of values that were just laid behind one another. -/
theorem wpList_append_new {P : Program} (w0 : World) {ops : Array Oper} {rest : List Oper} {o : Oper} {a : Act} {Q : Exit → Act → World → Prop} (hgd : o.guard = none) (s x : Operand) (t : TypeId)
    (ho : o.op = .call { callee := .builtin .append, args := #[s, x], argTypes := #[t, t] })
    (base : Nat) (e : TypeId) (i : TypeInfo) (z : Value) (size bytes : Nat) (ht : P.underlying t = some (.slice e)) (hi : P.info? e = some i) (hz : i.zero = some z)
    (hsize : i.size = size) (hby : i.bytes = bytes) (hzs : z.cells.size = size) (hsz : 0 < size)
    (v : Value) (n : Nat) (xs : List Value) (hs : a.eval s = v) (hown : w0.ownsRow base e size v n xs)
    (m : Nat) (news : Array Value) (te : TypeId) (hx : a.eval x = .slice (some ⟨w0.heap.size, 0, none⟩) m m) (hl : news.size = m * size) (h1 : ∀ u ∈ news.toList, u.oneCell' = true)
    (hm : 0 < m) (h63 : n + m ≤ maxLen) (hbytes : (n + m) * bytes ≤ 140737488355328) (hbase : base ≤ w0.heap.size)
    (h : ∀ v' w', w'.ownsRow base e size v' (n + m) (xs ++ news.toList) → w0.grownBy w' v.ownBlock → Went w0 v v' → wpList P ops Q rest (a.put o.dst v') w') : wpList P ops Q (o :: rest) a (w0.alloc (.cells news te)) := by
  have hnews : ∀ j u, news.toList[j]? = some u → (w0.alloc (.cells news te)).cell? ((⟨w0.heap.size, 0, none⟩ : Addr).add j) = some u := by
    intro j u hu
    rw [Addr.add_lit, Nat.zero_add, World.cell?_alloc_at (hn := rfl)]
    simpa using hu
  refine wpList_append_went (w0.alloc (.cells news te)) hgd s x t ho base e i z size bytes ht hi hz hsize hby hzs hsz v n xs hs (hown.alloc _) ⟨w0.heap.size, 0, none⟩ m m news.toList hx (by simpa using hl) hnews h1 hm h63 hbytes (by simp; omega) ?_
  intro v' w' ho' hg hw
  have hbel := (Below.refl w0.heap.size w0).alloc (Nat.le_refl _) (Obj.cells news te)
  refine h v' w' ho' ⟨hg.os.trans hbel.os, hg.tape.trans hbel.tape, hg.output.trans hbel.output, Nat.le_trans hbel.size hg.size, fun k hk hne => ?_⟩ ?_
  · rw [hg.block k (by simp; omega) hne]
    exact hbel.block k hk
  · rcases hw with hw | hw
    · exact .inl hw
    · exact .inr (fun g hg' => by have := hw g hg'; simp at this; omega)

/-- What grows its own memory alone leaves the world ahead. -/
theorem belowGrown {B base : Nat} {w w0 w' : World} {e : TypeId} {size n : Nat} {v : Value} {xs : List Value} (h : Below B w w0) (hown : w0.ownsRow base e size v n xs) (hg : w0.grownBy w' v.ownBlock) (hB : B ≤ base) (hb : B ≤ w0.heap.size) : Below B w w' :=
  h.grown hg hb (fun k hk => Nat.le_trans hB (hown.lt k hk).1)

end Go.Proofs.YtcjdpilmhlfmfaaGreatDoor

/-
  The place that a line has come to: its methods 'to' and 'by' write its own block alone; putBoth and takeBoth, two numbers at once.
-/
namespace Go.Proofs.YtcjdpilmhlfmfaaGreatDoor
open Go.RowKit

theorem grownRefl (w : World) (row : Option Nat) : w.grownBy w row := ⟨rfl, rfl, rfl, Nat.le_refl _, fun _ _ _ => rfl⟩
theorem grownDrew {a w : World} {row : Option Nat} (h : a.grownBy w row) : a.grownBy w.drew row := ⟨h.os, h.tape, h.output, h.size, h.block⟩
theorem grownAlloc {a w : World} {row : Option Nat} (h : a.grownBy w row) (o : Obj) : a.grownBy (w.alloc o) row := by
  have b := (Below.refl w.heap.size w).alloc (Nat.le_refl _) o
  exact ⟨b.os.trans h.os, b.tape.trans h.tape, b.output.trans h.output, Nat.le_trans h.size b.size, fun k hk hne => (b.block k (Nat.lt_of_lt_of_le hk h.size)).trans (h.block k hk hne)⟩
theorem grownSet {a w : World} {g : Nat} (h : a.grownBy w (some g)) (i : Nat) (u : Value) : a.grownBy (w.setCell ⟨g, i, none⟩ u) (some g) := by
  have b : Below 0 w (w.setCell ⟨g, i, none⟩ u) := (Below.refl 0 w).setCell (Nat.zero_le _) u
  exact ⟨b.os.trans h.os, b.tape.trans h.tape, b.output.trans h.output, Nat.le_trans h.size b.size, fun k hk hne => (heap_setCell_other w _ k u (fun e => hne (by rw [e]))).trans (h.block k hk hne)⟩

def spot (t v s : Int) : List Value := [.int .i64 t, .int .i64 v, .int .i64 s]

theorem Blk.drew {w : World} {g : Nat} {cs : List Value} {t : TypeId} (h : Blk w g cs t) : Blk w.drew g cs t := h

set_option maxHeartbeats 1000000 in
set_option maxRecDepth 100000 in
theorem to_any (g : Nat) (t v s x y : Int) (w : World) (hB : Blk w g (spot t v s) 220) (ht : 0 ≤ t ∧ t ≤ 100000) (hv : -1000000 ≤ v ∧ v ≤ 1000000) (hs : 0 ≤ s ∧ s ≤ 100000) (hx : 0 ≤ x ∧ x ≤ 100000) (hy : -1000000 ≤ y ∧ y ≤ 1000000) :
    Calls Tryz.prog 214 #[.pointer (some ⟨g, 0, none⟩), .agg #[.int .i64 x, .int .i64 y]] w fun e w' =>
      e = .returned (.tuple #[.int .i64 (x - t - s), .int .i64 (y - v)]) ∧ Blk w' g (spot x y (x - t)) 220 ∧ w.grownBy w' (some g) := by
  obtain ⟨ht0, ht1⟩ := ht
  obtain ⟨hv0, hv1⟩ := hv
  obtain ⟨hs0, hs1⟩ := hs
  obtain ⟨hx0, hx1⟩ := hx
  obtain ⟨hy0, hy1⟩ := hy
  have hlt := hB.lt
  have c0 : w.cell? ⟨g, 0, none⟩ = some (.int .i64 t) := hB.cell 0
  have c1 : w.cell? ⟨g, 1, none⟩ = some (.int .i64 v) := hB.cell 1
  have c2 : w.cell? ⟨g, 2, none⟩ = some (.int .i64 s) := hB.cell 2
  have f0 := hB.free 0
  have f1 := hB.free 1
  have f2 := hB.free 2
  go_enter Tryz.func214, Tryz.ntmps214
  go_wp2_with fail
  go_region
  all_goals go_wp2_with fail
  all_goals go_region
  all_goals go_wp2_with fail
  all_goals go_ret2
  exact ⟨rfl, ((((hB.set 0 _).set 1 _).set 2 _).alloc _).drew.drew, grownDrew (grownDrew (grownAlloc (grownSet (grownSet (grownSet (grownRefl _ _) 0 _) 1 _) 2 _) _))⟩

set_option maxHeartbeats 1000000 in
set_option maxRecDepth 100000 in
theorem by_any (g : Nat) (t v s x y : Int) (w : World) (hB : Blk w g (spot t v s) 220) (ht : 0 ≤ t ∧ t ≤ 100000) (hv : -1000000 ≤ v ∧ v ≤ 1000000) (hs : -100000 ≤ s ∧ s ≤ 100000) (hx : -4000000 ≤ x ∧ x ≤ 4000000) (hy : -4000000 ≤ y ∧ y ≤ 4000000) :
    Calls Tryz.prog 187 #[.pointer (some ⟨g, 0, none⟩), .int .i64 x, .int .i64 y] w fun e w' =>
      e = .returned (.agg #[.int .i64 (t + (s + x)), .int .i64 (v + y)]) ∧ Blk w' g (spot (t + (s + x)) (v + y) (s + x)) 220 ∧ w.grownBy w' (some g) := by
  obtain ⟨ht0, ht1⟩ := ht
  obtain ⟨hv0, hv1⟩ := hv
  obtain ⟨hs0, hs1⟩ := hs
  obtain ⟨hx0, hx1⟩ := hx
  obtain ⟨hy0, hy1⟩ := hy
  have hlt := hB.lt
  have c0 : w.cell? ⟨g, 0, none⟩ = some (.int .i64 t) := hB.cell 0
  have c1 : w.cell? ⟨g, 1, none⟩ = some (.int .i64 v) := hB.cell 1
  have c2 : w.cell? ⟨g, 2, none⟩ = some (.int .i64 s) := hB.cell 2
  have f0 := hB.free 0
  have f1 := hB.free 1
  have f2 := hB.free 2
  go_enter Tryz.func187, Tryz.ntmps187
  go_wp2_with fail
  go_region
  all_goals go_wp2_with fail
  exact bodyPost_ret (v := .agg #[.int .i64 (t + (s + x)), .int .i64 (v + y)]) (by simp [results, Tryz.results187, go_sem]) rfl ⟨rfl, ((((hB.set 2 _).set 0 _).set 1 _).alloc _).drew, grownDrew (grownAlloc (grownSet (grownSet (grownSet (grownRefl _ _) 2 _) 0 _) 1 _) _)⟩

theorem results_tmp4 {fn : Func} {t u v x : Tmp} (h : fn.results = #[.tmp t, .tmp u, .tmp v, .tmp x]) (tmps : Array Value) (P : Program) (w : World) :
    (results fn tmps).run P w = .ok (.tuple #[tmps.getD t undef, tmps.getD u undef, tmps.getD v undef, tmps.getD x undef]) w := by
  simp [results, h]

theorem putBoth_ok (ao : Option Addr) (cap : Nat) (l : List Bool) (x y : Int) (w : World) (hr : Sl w ao cap (l.map Value.bool)) (hl : l.length ≤ 100000) (h1 : zigOk x = true) (h2 : zigOk y = true) :
    Calls Tryz.prog 215 #[.slice ao l.length cap, .int .i64 x, .int .i64 y] w fun e w' =>
      ∃ a' G, e = .returned (.tuple #[.slice a' (l ++ (code 8 (foldN x) ++ code 8 (foldN y))).length G, .int .i64 0]) ∧ Sl w' a' G ((l ++ (code 8 (foldN x) ++ code 8 (foldN y))).map Value.bool) ∧ Below w.heap.size w w' ∧ Kin w.heap.size ao a' := by
  have p1 := fun W h => zput_ok ao cap l x W h (by omega) h1
  have hlen : (l ++ code 8 (foldN x)).length ≤ 100032 := by have := code_len_le 8 (foldN x); rw [List.length_append]; omega
  rw [← List.append_assoc]
  generalize l ++ code 8 (foldN x) = X at *
  have p2 := fun a G W h => zput_ok a G X y W h (by omega) h2
  generalize X ++ code 8 (foldN y) = Y at *
  go_enter Tryz.func215, Tryz.ntmps215
  go_wp2_with fail
  go_at_call 236
  refine (p1 _ hr).mono ?_
  rintro e w1 ⟨a1, G1, rfl, s1, b1, k1⟩
  go_wp2_with fail
  go_at_call 236
  refine (p2 _ _ _ s1).mono ?_
  rintro e w2 ⟨a2, G2, rfl, s2, b2, k2⟩
  go_wp2_with fail
  go_ret2
  exact ⟨_, _, rfl, s2, belowCall b1 b2, k1.trans k2 b1.size⟩

def bothN (b : List Bool) : Int × Int × List Bool × Int :=
  if zigF b ≠ 0 then (0, 0, [], zigF b) else if zigF (zigR b) ≠ 0 then (0, 0, [], zigF (zigR b)) else (zigN b, zigN (zigR b), zigR (zigR b), 0)

theorem takeBoth_any (ao : Option Addr) (cap : Nat) (b : List Bool) (w : World) (hr : Sl w ao cap (b.map Value.bool)) (hl : b.length ≤ 140737488355328) :
    Calls Tryz.prog 186 #[.slice ao b.length cap] w fun e w' =>
      ∃ a' G, e = .returned (.tuple #[.int .i64 (bothN b).1, .int .i64 (bothN b).2.1, .slice a' (bothN b).2.2.1.length G, .int .i64 (bothN b).2.2.2]) ∧ Sl w' a' G ((bothN b).2.2.1.map Value.bool) ∧ Below w.heap.size w w' ∧ Kin w.heap.size ao a' := by
  have p1 := ztake_kin ao cap b w hr hl
  have hlen := zigR_length b
  have p2 := fun a G W h => ztake_kin a G (zigR b) W h (by omega)
  unfold bothN
  by_cases h1 : zigF b = 0
  · rw [if_neg (fun h => h h1)]
    rw [h1] at p1
    by_cases h2 : zigF (zigR b) = 0
    · rw [if_neg (fun h => h h2)]
      rw [h2] at p2
      clear h1 h2 hlen
      generalize zigN b = n1 at *
      generalize zigR b = B1 at *
      generalize zigN B1 = n2 at *
      generalize zigR B1 = B2 at *
      go_enter Tryz.func186, Tryz.ntmps186
      go_wp2_with fail
      go_at_call 216
      refine p1.mono ?_
      rintro e w1 ⟨a1, G1, rfl, s1, b1, k1⟩
      go_wp2_with fail
      go_at_call 216
      refine (p2 _ _ _ s1).mono ?_
      rintro e w2 ⟨a2, G2, rfl, s2, b2, k2⟩
      go_wp2_with fail
      refine bodyPost_ret (results_tmp4 rfl _ _ _) rfl ?_
      exact ⟨_, _, rfl, s2, belowCall b1 b2, k1.trans k2 b1.size⟩
    · rw [if_pos h2]
      clear h1 hlen
      generalize zigN b = n1 at *
      generalize zigR b = B1 at *
      generalize zigN B1 = n2 at *
      generalize zigR B1 = B2 at *
      generalize zigF B1 = F2 at *
      go_enter Tryz.func186, Tryz.ntmps186
      go_wp2_with fail
      go_at_call 216
      refine p1.mono ?_
      rintro e w1 ⟨a1, G1, rfl, s1, b1, k1⟩
      go_wp2_with fail
      go_at_call 216
      refine (p2 _ _ _ s1).mono ?_
      rintro e w2 ⟨a2, G2, rfl, s2, b2, k2⟩
      go_wp2_with fail
      refine bodyPost_ret (results_tmp4 rfl _ _ _) rfl ?_
      exact ⟨none, 0, rfl, Sl.ofNil _, belowCall b1 b2, Kin.nil _ _⟩
  · rw [if_pos h1]
    clear p2 hlen
    generalize zigN b = n1 at *
    generalize zigR b = B1 at *
    generalize zigF b = F1 at *
    go_enter Tryz.func186, Tryz.ntmps186
    go_wp2_with fail
    go_at_call 216
    refine p1.mono ?_
    rintro e w1 ⟨a1, G1, rfl, s1, b1, k1⟩
    go_wp2_with fail
    refine bodyPost_ret (results_tmp4 rfl _ _ _) rfl ?_
    exact ⟨none, 0, rfl, Sl.ofNil _, b1, Kin.nil _ _⟩

end Go.Proofs.YtcjdpilmhlfmfaaGreatDoor

/-
  line.Pack: what it returns, for every list of points; nothing that was there is written.
-/
namespace Go.Proofs.YtcjdpilmhlfmfaaGreatDoor
open Go.RowKit

theorem checkE_zero {l : List Pt} (h : checkE l = 0) : l.length ≤ 40 ∧ chk (-1) l = 0 := by
  unfold checkE at h
  split at h
  · cases h
  · exact ⟨by omega, h⟩

set_option maxHeartbeats 1000000 in
set_option maxRecDepth 100000 in
theorem pack_ok (ao : Option Addr) (cap : Nat) (l : List Pt) (w : World) (hr : SlP w ao cap l) (h : checkE l = 0) :
    Calls Tryz.prog 184 #[.slice ao l.length cap] w fun e w' =>
      ∃ a' G, e = .returned (.tuple #[.slice a' (pk 0 0 0 l).length G, .int .i64 0]) ∧ Sl w' a' G ((pk 0 0 0 l).map Value.bool) ∧ Below w.heap.size w w' := by
  have hc := check_any ao cap l w hr
  rw [h] at hc
  obtain ⟨h40, hchk⟩ := checkE_zero h
  obtain ⟨P, hP⟩ : ∃ P, P = pk 0 0 0 l := ⟨_, rfl⟩
  rw [← hP]
  obtain ⟨n, hn⟩ : ∃ n, n = l.length := ⟨_, rfl⟩
  rw [← hn] at h40 hc ⊢
  have HL := hide hn
  have HP : Hid (P = [] ++ pk 0 0 0 (l.drop 0)) := by rw [List.drop_zero]; exact hP
  have HC : Hid (chk (-1) (l.drop 0) = 0) := by rw [List.drop_zero]; exact hchk
  clear hn hP hchk h
  go_enter Tryz.func184, Tryz.ntmps184
  go_wp2_with fail
  go_at_call 24
  refine hc.mono ?_
  rintro e w1 ⟨rfl, b1⟩
  clear hc
  obtain ⟨g, hg⟩ : ∃ g, g = w1.heap.size := ⟨_, rfl⟩
  have hgw : w.heap.size ≤ g := by rw [hg]; exact b1.size
  go_wp2_with fail
  rw [← hg]
  have B0 := Blk.laid w1 (spot 0 0 0) 220 g hg
  have bel0 : Below w.heap.size w (w1.alloc (.cells (spot 0 0 0).toArray 220)) := b1.alloc b1.size _
  unfold spot at B0 bel0
  generalize w1.alloc _ = w2 at *
  clear b1 hg
  go_loopw [5, 19] (fun o i wr => ∃ (k G : Nat) (t v s last : Int) (a' : Option Addr) (O : List Bool), k ≤ n ∧ i = .int .i64 k ∧ o = .slice a' O.length G ∧ (0 ≤ t ∧ t ≤ 100000) ∧ t ≤ last + 1 ∧ (-1000000 ≤ v ∧ v ≤ 1000000) ∧ (0 ≤ s ∧ s ≤ 100000) ∧ O.length ≤ 64 * k ∧ Hid (P = O ++ pk t v s (l.drop k)) ∧ Hid (chk last (l.drop k) = 0) ∧ Blk wr g (spot t v s) 220 ∧ Sl wr a' G (O.map Value.bool) ∧ Off g a' ∧ Below w.heap.size w wr) (fun _ i _ => n - (intOf i).toNat)
  case atStart => exact ⟨0, 0, 0, 0, 0, -1, none, [], by omega, rfl, rfl, by omega, by omega, by omega, by omega, by simp, HP, HC, B0, Sl.ofNil _, Off.nil _, bel0⟩
  case round =>
    clear HP HC B0 bel0
    obtain ⟨k, G, t, v, s, last, a', O, hk, rfl, rfl, ht, hl, hv, hs, hO, HP, HC, B, S, off, bel⟩ := hrel
    by_cases hlt : k < n
    · have hs1 := hr.keep bel (Nat.le_refl _)
      obtain ⟨b, o, rfl, hbw⟩ := hs1.where (by intro h; rw [HL.out, h] at hlt; simp at hlt)
      obtain ⟨x, y, e0, e1, hx, hd⟩ := hs1.pt k (by rw [← HL.out]; exact hlt)
      have HP' := HP.out
      have HC' := HC.out
      rw [hd] at HP' HC'
      obtain ⟨z1, z2, hx', hy', hs'⟩ := zig_fits HC' ht hl hv hs
      obtain ⟨_, _, HC2⟩ := chk_cons HC'
      have HC3 := hide HC2
      rw [pk, ← List.append_assoc] at HP'
      simp only at HP' z1 z2 hx' hy' hs'
      have TO := fun W hB => to_any g t v s x y W hB ht hv hs hx' hy'
      have PB := fun W h => putBoth_ok a' G O (x - t - s) (y - v) W h (by omega) z1 z2
      have hO' : (O ++ (code 8 (foldN (x - t - s)) ++ code 8 (foldN (y - v)))).length ≤ 64 * (k + 1) := by
        have h1 := code_len_le 8 (foldN (x - t - s))
        have h2 := code_len_le 8 (foldN (y - v))
        rw [List.length_append, List.length_append]; omega
      have HP3 := hide HP'
      clear HP HC HP' HC' HC2 hd hx z1 z2
      generalize O ++ (code 8 (foldN (x - t - s)) ++ code 8 (foldN (y - v))) = O' at *
      go_wp2_with fail
      go_at_call 214
      refine (TO _ (B.alloc _)).mono ?_
      rintro e w3 ⟨rfl, B3, g3⟩
      have bel3 : Below w.heap.size w w3 := (bel.alloc bel.size _).grown g3 (by simp; exact Nat.le_succ_of_le bel.size) (fun j hj => by cases hj; exact hgw)
      have S3 := (S.alloc _).off g3 off
      clear g3
      go_wp2_with fail
      go_at_call 215
      refine (PB _ S3).mono ?_
      rintro e w4 ⟨a4, G4, rfl, S4, b4, k4⟩
      go_wp2_with fail
      go_roundw
      case rel => exact ⟨k + 1, G4, x, y, x - t, x, a4, O', by omega, by go_num, rfl, hx', by omega, hy', hs', hO', HP3, HC3, B3.keep b4 B3.lt, S4, off.kin k4 B3.lt, belowCall bel3 b4⟩
      case measure => simp [intOf]; omega
    · obtain rfl : k = n := by omega
      have HP' := HP.out
      rw [HL.out, List.drop_length, pk, List.append_nil] at HP'
      subst HP'
      go_wp2_with fail
      go_ret2
      exact ⟨_, _, rfl, S, bel⟩

theorem pack_no (ao : Option Addr) (cap : Nat) (l : List Pt) (w : World) (hr : SlP w ao cap l) (h : ¬ checkE l = 0) :
    Calls Tryz.prog 184 #[.slice ao l.length cap] w fun e w' => e = .returned (.tuple #[.slice none 0 0, .int .i64 (checkE l)]) ∧ Below w.heap.size w w' := by
  have hc := check_any ao cap l w hr
  generalize checkE l = E at *
  go_enter Tryz.func184, Tryz.ntmps184
  go_wp2_with fail
  go_at_call 24
  refine hc.mono ?_
  rintro e w1 ⟨rfl, b1⟩
  go_wp2_with fail
  go_ret2
  exact ⟨rfl, b1⟩

/-- Pack, whatever it is handed. -/
theorem pack_any (ao : Option Addr) (cap : Nat) (l : List Pt) (w : World) (hr : SlP w ao cap l) :
    Calls Tryz.prog 184 #[.slice ao l.length cap] w fun e w' =>
      ∃ a' G, e = .returned (.tuple #[.slice a' (packL l).length G, .int .i64 (checkE l)]) ∧ Sl w' a' G ((packL l).map Value.bool) ∧ Below w.heap.size w w' := by
  by_cases h : checkE l = 0
  · have e : packL l = pk 0 0 0 l := if_pos h
    rw [e, h]
    exact pack_ok ao cap l w hr h
  · have e : packL l = [] := if_neg h
    rw [e]
    refine (pack_no ao cap l w hr h).mono ?_
    rintro e w' ⟨rfl, b⟩
    exact ⟨none, 0, rfl, Sl.ofNil _, b⟩

theorem packL_length (l : List Pt) : (packL l).length ≤ 2560 := by
  unfold packL
  split
  · rename_i h
    have := pk_length 0 0 0 l
    have := (checkE_zero h).1
    omega
  · simp

end Go.Proofs.YtcjdpilmhlfmfaaGreatDoor

/-
  What is packed is unpacked, and the other way; the first points are the beginning of all; steady points take 8 bits: facts of lists, no program is named.
-/
namespace Go.Proofs.YtcjdpilmhlfmfaaGreatDoor
open Go.RowKit

theorem zig_of {v : Int} (r : List Bool) (h : zigOk v = true) : zigN (code 8 (foldN v) ++ r) = v ∧ zigR (code 8 (foldN v) ++ r) = r ∧ zigF (code 8 (foldN v) ++ r) = 0 := by
  unfold zigN zigR zigF
  rw [zig_taken v r h]
  exact ⟨rfl, rfl, rfl⟩

/-- One step of unp, on bits that were packed. -/
theorem unp_pk (n : Nat) {t v s last : Int} {p : Pt} {r : List Pt} (h : chk last (p :: r) = 0) (ht : 0 ≤ t ∧ t ≤ 100000) (hl : t ≤ last + 1) (hv : -1000000 ≤ v ∧ v ≤ 1000000) (hs : 0 ≤ s ∧ s ≤ 100000) :
    unp (n + 1) t v s last (pk t v s (p :: r)) = (if (unp n p.1 p.2 (p.1 - t) p.1 (pk p.1 p.2 (p.1 - t) r)).2 = 0 then p :: (unp n p.1 p.2 (p.1 - t) p.1 (pk p.1 p.2 (p.1 - t) r)).1 else [], (unp n p.1 p.2 (p.1 - t) p.1 (pk p.1 p.2 (p.1 - t) r)).2) := by
  obtain ⟨z1, z2, _, _, _⟩ := zig_fits h ht hl hv hs
  obtain ⟨h1, h2, _⟩ := chk_cons h
  rw [unp, pk, List.append_assoc]
  obtain ⟨a1, a2, a3⟩ := zig_of (code 8 (foldN (p.2 - v)) ++ pk p.1 p.2 (p.1 - t) r) z1
  obtain ⟨b1, b2, b3⟩ := zig_of (pk p.1 p.2 (p.1 - t) r) z2
  rw [a3, if_neg (fun h => h rfl), a2, b3, if_neg (fun h => h rfl), a1, b1, b2]
  have e1 : t + (s + (p.1 - t - s)) = p.1 := by omega
  have e2 : v + (p.2 - v) = p.2 := by omega
  have e3 : s + (p.1 - t - s) = p.1 - t := by omega
  rw [e1, e2, e3, if_neg (by rw [show (p.1, p.2) = p from rfl, h1]; decide), if_neg (by omega)]

theorem unp_all : ∀ (r : List Pt) (t v s last : Int), chk last r = 0 → (0 ≤ t ∧ t ≤ 100000) → t ≤ last + 1 → (-1000000 ≤ v ∧ v ≤ 1000000) → (0 ≤ s ∧ s ≤ 100000) → unp r.length t v s last (pk t v s r) = (r, 0)
  | [], t, v, s, last, _, _, _, _, _ => by simp [unp, pk]
  | p :: r, t, v, s, last, h, ht, hl, hv, hs => by
    rw [List.length_cons, unp_pk r.length h ht hl hv hs]
    obtain ⟨_, _, hx, hy, hz⟩ := zig_fits h ht hl hv hs
    rw [unp_all r p.1 p.2 (p.1 - t) p.1 (chk_cons h).2.2 hx (by omega) hy hz]
    rfl

theorem code_pos (n : Nat) : 4 ≤ (code 8 n).length := by
  rw [code]
  simp [grp]

theorem pack_unpack {l : List Pt} (h : checkE l = 0) : unpL (packL l) l.length = l ∧ unpE (packL l) l.length = 0 := by
  obtain ⟨h40, hc⟩ := checkE_zero h
  have hi : unpIn (l.length : Int) = true := decide_eq_true (by omega)
  have e : packL l = pk 0 0 0 l := if_pos h
  have := unp_all l 0 0 0 (-1) hc (by omega) (by omega) (by omega) (by omega)
  unfold unpL unpE
  rw [if_pos hi, if_pos hi, e, Int.toNat_natCast, this]
  exact ⟨rfl, rfl⟩

theorem unp_back : ∀ (n : Nat) (t v s last : Int) (b : List Bool), (unp n t v s last b).2 = 0 → (unp n t v s last b).1.length = n ∧ chk last (unp n t v s last b).1 = 0 ∧ pk t v s (unp n t v s last b).1 = b
  | 0, t, v, s, last, b, h => by
    rw [unp] at h ⊢
    by_cases h0 : b.length = 0
    · obtain rfl := List.eq_nil_of_length_eq_zero h0
      exact ⟨rfl, rfl, rfl⟩
    · simp only at h
      rw [if_neg h0] at h
      cases h
  | n + 1, t, v, s, last, b, h => by
    rw [unp] at h ⊢
    by_cases h1 : zigF b = 0
    · rw [if_neg (fun h => h h1)] at h ⊢
      by_cases h2 : zigF (zigR b) = 0
      · rw [if_neg (fun h => h h2)] at h ⊢
        by_cases h3 : ptOk (t + (s + zigN b), v + zigN (zigR b)) = false
        · rw [if_pos h3] at h; cases h
        rw [if_neg h3] at h ⊢
        by_cases h4 : t + (s + zigN b) ≤ last
        · rw [if_pos h4] at h; cases h
        rw [if_neg h4] at h ⊢
        simp only at h ⊢
        obtain ⟨i1, i2, i3⟩ := unp_back n (t + (s + zigN b)) (v + zigN (zigR b)) (s + zigN b) (t + (s + zigN b)) (zigR (zigR b)) h
        rw [if_pos h]
        refine ⟨by rw [List.length_cons, i1], ?_, ?_⟩
        · rw [chk, if_neg h3, if_neg h4]; exact i2
        · rw [pk]
          simp only
          have e1 : t + (s + zigN b) - t - s = zigN b := by omega
          have e2 : v + zigN (zigR b) - v = zigN (zigR b) := by omega
          have e3 : t + (s + zigN b) - t = s + zigN b := by omega
          rw [e1, e2, e3, i3, List.append_assoc, (zig_put _ h2).2, (zig_put _ h1).2]
      · rw [if_pos h2] at h; exact absurd h h2
    · rw [if_pos h1] at h; exact absurd h h1

theorem unpack_pack {b : List Bool} {n : Int} (h : unpE b n = 0) : checkE (unpL b n) = 0 ∧ packL (unpL b n) = b ∧ ((unpL b n).length : Int) = n := by
  unfold unpE at h
  unfold unpL
  cases hi : unpIn n with
  | false => rw [hi] at h; cases h
  | true =>
    have hn := (of_decide_eq_true hi : 0 ≤ n ∧ n ≤ 40)
    rw [hi, if_pos rfl] at h
    rw [if_pos rfl]
    obtain ⟨i1, i2, i3⟩ := unp_back n.toNat 0 0 0 (-1) b h
    have hc : checkE (unp n.toNat 0 0 0 (-1) b).1 = 0 := by
      unfold checkE
      rw [if_neg (by omega)]
      exact i2
    refine ⟨hc, ?_, by rw [i1]; omega⟩
    unfold packL
    rw [if_pos hc]
    exact i3

/-- The place behind some points. -/
def placeOf : Int → Int → Int → List Pt → Int × Int × Int
  | t, v, s, [] => (t, v, s)
  | t, _, _, p :: r => placeOf p.1 p.2 (p.1 - t) r

theorem pk_append : ∀ (a c : List Pt) (t v s : Int), pk t v s (a ++ c) = pk t v s a ++ pk (placeOf t v s a).1 (placeOf t v s a).2.1 (placeOf t v s a).2.2 c
  | [], c, t, v, s => rfl
  | p :: r, c, t, v, s => by
    rw [List.cons_append, pk, pk, placeOf, pk_append r c p.1 p.2 (p.1 - t), List.append_assoc, List.append_assoc, List.append_assoc]

theorem pk_length_ge : ∀ (t v s : Int) (l : List Pt), 8 * l.length ≤ (pk t v s l).length
  | _, _, _, [] => by simp [pk]
  | t, v, s, p :: r => by
    have h1 := code_pos (foldN (p.1 - t - s))
    have h2 := code_pos (foldN (p.2 - v))
    have h3 := pk_length_ge p.1 p.2 (p.1 - t) r
    simp only [pk, List.length_append, List.length_cons]
    omega

theorem check_take {l : List Pt} (h : checkE l = 0) (k : Nat) : checkE (l.take k) = 0 := by
  obtain ⟨h40, hc⟩ := checkE_zero h
  unfold checkE
  rw [if_neg (by rw [List.length_take]; omega)]
  rw [← List.take_append_drop k l, chk_append] at hc
  split at hc
  · assumption
  · exact absurd hc (by assumption)

theorem begins {l : List Pt} (h : checkE l = 0) (k : Nat) : ∃ c, packL l = packL (l.take k) ++ c ∧ 8 * (l.length - k) ≤ c.length ∧ c.length ≤ 64 * (l.length - k) := by
  refine ⟨pk (placeOf 0 0 0 (l.take k)).1 (placeOf 0 0 0 (l.take k)).2.1 (placeOf 0 0 0 (l.take k)).2.2 (l.drop k), ?_, ?_, ?_⟩
  · unfold packL
    rw [if_pos h, if_pos (check_take h k), ← pk_append, List.take_append_drop]
  · have := pk_length_ge (placeOf 0 0 0 (l.take k)).1 (placeOf 0 0 0 (l.take k)).2.1 (placeOf 0 0 0 (l.take k)).2.2 (l.drop k)
    rw [List.length_drop] at this
    exact this
  · have := pk_length (placeOf 0 0 0 (l.take k)).1 (placeOf 0 0 0 (l.take k)).2.1 (placeOf 0 0 0 (l.take k)).2.2 (l.drop k)
    rw [List.length_drop] at this
    exact this

/-- Points a step apart. -/
def steady (t st v : Int) : Nat → List Pt
  | 0 => []
  | m + 1 => (t, v) :: steady (t + st) st v m

end Go.Proofs.YtcjdpilmhlfmfaaGreatDoor

/-
  line.Unpack: what it returns, for all bits and every number; nothing that was there is written.
-/
namespace Go.Proofs.YtcjdpilmhlfmfaaGreatDoor
open Go.RowKit

theorem infoPt : (Tryz.prog.info? 50).map (fun i => (i.zero, i.size, i.bytes)) = some (some (.agg #[.int .i64 0, .int .i64 0]), 2, 16) := by kernel_rfl

/-- A slice of so many does not lie in this block, or is empty. -/
def Clear (h : Nat) (ao : Option Addr) (X : List Bool) : Prop := X.length = 0 ∨ Off h ao

theorem Clear.kin {h B : Nat} {ao a' : Option Addr} {X Y : List Bool} (hc : Clear h ao X) (hk : Kin B ao a') (hh : h < B) (hl : Y.length ≤ X.length) : Clear h a' Y := by
  rcases hc with hc | hc
  · exact .inl (by omega)
  · exact .inr (hc.kin hk hh)

theorem Sl.clear {w w' : World} {ao : Option Addr} {cap h : Nat} {X : List Bool} (s : Sl w ao cap (X.map Value.bool)) (hg : w.grownBy w' (some h)) (hc : Clear h ao X) : Sl w' ao cap (X.map Value.bool) := by
  rcases hc with hc | hc
  · obtain rfl := List.eq_nil_of_length_eq_zero hc
    exact ⟨.inl rfl, s.le, s.max, s.nil⟩
  · exact s.off hg hc

theorem Sl.clearNew {w : World} {ao : Option Addr} {cap h : Nat} {X : List Bool} (s : Sl w ao cap (X.map Value.bool)) (hg : w.heap.size ≤ h) : Clear h ao X := by
  by_cases hX : X = []
  · exact .inl (by rw [hX]; rfl)
  · exact .inr (s.offNew hg (by simpa using hX))

theorem bothN_length (b : List Bool) : (bothN b).2.2.1.length ≤ b.length := by
  unfold bothN
  split
  · simp
  split
  · simp
  · exact Nat.le_trans (zigR_length _) (zigR_length _)

def wrapU (O : List Pt) (R : List Pt × Int) : List Pt × Int := (if R.2 = 0 then O ++ R.1 else [], R.2)

theorem unp_err {X : List Bool} (O : List Pt) (m : Nat) (t v s last : Int) (h : ¬ (bothN X).2.2.2 = 0) : wrapU O (unp (m + 1) t v s last X) = ([], (bothN X).2.2.2) := by
  unfold bothN at h ⊢
  rw [unp]
  by_cases h1 : zigF X ≠ 0
  · rw [if_pos h1] at h ⊢
    rw [if_pos h1]
    simp only [wrapU]
    rw [if_neg h1]
  · rw [if_neg h1] at h ⊢
    rw [if_neg h1]
    by_cases h2 : zigF (zigR X) ≠ 0
    · rw [if_pos h2] at h ⊢
      rw [if_pos h2]
      simp only [wrapU]
      rw [if_neg h2]
    · rw [if_neg h2] at h
      exact absurd rfl h

theorem unp_step {X : List Bool} (m : Nat) (t v s last : Int) (h : (bothN X).2.2.2 = 0) :
    ((-4000000 ≤ (bothN X).1 ∧ (bothN X).1 ≤ 4000000) ∧ (-4000000 ≤ (bothN X).2.1 ∧ (bothN X).2.1 ≤ 4000000)) ∧
    unp (m + 1) t v s last X = if ptOk (t + (s + (bothN X).1), v + (bothN X).2.1) = false then ([], 3) else if t + (s + (bothN X).1) ≤ last then ([], 7) else
      (if (unp m (t + (s + (bothN X).1)) (v + (bothN X).2.1) (s + (bothN X).1) (t + (s + (bothN X).1)) (bothN X).2.2.1).2 = 0 then (t + (s + (bothN X).1), v + (bothN X).2.1) :: (unp m (t + (s + (bothN X).1)) (v + (bothN X).2.1) (s + (bothN X).1) (t + (s + (bothN X).1)) (bothN X).2.2.1).1 else [],
        (unp m (t + (s + (bothN X).1)) (v + (bothN X).2.1) (s + (bothN X).1) (t + (s + (bothN X).1)) (bothN X).2.2.1).2) := by
  rw [unp]
  unfold bothN at h ⊢
  by_cases h1 : zigF X ≠ 0
  · rw [if_pos h1] at h
    exact absurd h h1
  · rw [if_neg h1] at h ⊢
    rw [if_neg h1]
    by_cases h2 : zigF (zigR X) ≠ 0
    · rw [if_pos h2] at h
      exact absurd h h2
    · rw [if_neg h2] at h ⊢
      rw [if_neg h2]
      exact ⟨⟨zigN_bound (by simpa using h1), zigN_bound (by simpa using h2)⟩, rfl⟩

theorem wrap_next (O : List Pt) (p : Pt) (R : List Pt × Int) : wrapU O (if R.2 = 0 then p :: R.1 else [], R.2) = wrapU (O ++ [p]) R := by
  unfold wrapU
  simp only
  by_cases h : R.2 = 0
  · rw [if_pos h, if_pos h, if_pos h]; simp
  · rw [if_neg h, if_neg h]

def badE (last : Int) (p : Pt) : Int := if ptOk p = false then 3 else if p.1 ≤ last then 7 else 0

theorem unp_bad (O : List Pt) (p : Pt) (last : Int) (R : List Pt × Int) (h : ¬ badE last p = 0) : wrapU O (if ptOk p = false then ([], 3) else if p.1 ≤ last then ([], 7) else R) = ([], badE last p) := by
  unfold badE at h ⊢
  by_cases h1 : ptOk p = false
  · rw [if_pos h1, if_pos h1]; rfl
  rw [if_neg h1] at h
  rw [if_neg h1, if_neg h1]
  by_cases h2 : p.1 ≤ last
  · rw [if_pos h2, if_pos h2]; rfl
  · rw [if_neg h2] at h; exact absurd rfl h

theorem unp_good {p : Pt} {last : Int} (h : badE last p = 0) : ptOk p = true ∧ ¬ p.1 ≤ last := by
  unfold badE at h
  by_cases h1 : ptOk p = false
  · rw [if_pos h1] at h; cases h
  rw [if_neg h1] at h
  by_cases h2 : p.1 ≤ last
  · rw [if_pos h2] at h; cases h
  · exact ⟨by simpa using h1, h2⟩

theorem checkE_snoc {O : List Pt} (p : Pt) (hO : O.length < 40) (hc : chk (-1) O = 0) : checkE (O ++ [p]) = badE (lastT (-1) O) p := by
  unfold checkE
  rw [if_neg (by rw [List.length_append]; simp; omega), chk_append, if_pos hc]
  rfl

theorem chk_snoc {O : List Pt} {p : Pt} (hc : chk (-1) O = 0) (h : badE (lastT (-1) O) p = 0) : chk (-1) (O ++ [p]) = 0 := by
  obtain ⟨h1, h2⟩ := unp_good h
  rw [chk_append, if_pos hc, chk, if_neg (by rw [h1]; decide), if_neg h2]
  rfl

/-- What is owned stays while a block ahead of it is written. -/
theorem ownOff {w w' : World} {base : Nat} {e : TypeId} {size n g : Nat} {u : Value} {xs : List Value} (h : w.ownsRow base e size u n xs) (hg : w.grownBy w' (some g)) (hb : g < base) : w'.ownsRow base e size u n xs :=
  h.kept hg (by
    cases hu : u.ownBlock with
    | none => exact .inl rfl
    | some k => exact .inr (fun e => by have := (h.lt k hu).1; have := Option.some.inj e; omega))

theorem Sl.clearOwn {w w' : World} {ao : Option Addr} {cap : Nat} {X : List Bool} {v : Value} (s : Sl w ao cap (X.map Value.bool)) (hg : w.grownBy w' v.ownBlock) (hc : ∀ h, v.ownBlock = some h → Clear h ao X) : Sl w' ao cap (X.map Value.bool) := by
  cases hu : v.ownBlock with
  | none =>
    rw [hu] at hg
    exact s.call ⟨hg.os, hg.tape, hg.output, hg.size, fun k hk => hg.block k hk (by simp)⟩
  | some h =>
    rw [hu] at hg
    exact s.clear hg (hc h hu)

theorem unp_none (n : Nat) (t v s last : Int) (b : List Bool) (h : ¬ (unp n t v s last b).2 = 0) : (unp n t v s last b).1 = [] := by
  cases n with
  | zero => rfl
  | succ n =>
    rw [unp] at h ⊢
    by_cases h1 : zigF b ≠ 0
    · rw [if_pos h1]
    rw [if_neg h1] at h ⊢
    by_cases h2 : zigF (zigR b) ≠ 0
    · rw [if_pos h2]
    rw [if_neg h2] at h ⊢
    by_cases h3 : ptOk (t + (s + zigN b), v + zigN (zigR b)) = false
    · rw [if_pos h3]
    rw [if_neg h3] at h ⊢
    by_cases h4 : t + (s + zigN b) ≤ last
    · rw [if_pos h4]
    rw [if_neg h4] at h ⊢
    exact if_neg h

set_option maxHeartbeats 1000000 in
set_option maxRecDepth 100000 in
theorem unpack_ok (ao : Option Addr) (cap : Nat) (b : List Bool) (N : Nat) (w : World) (hr : Sl w ao cap (b.map Value.bool)) (hl : b.length ≤ 140737488355328) (hN : N ≤ 40) :
    Calls Tryz.prog 160 #[.slice ao b.length cap, .int .i64 N] w fun e w' =>
      ∃ a' G, e = .returned (.tuple #[.slice a' (unp N 0 0 0 (-1) b).1.length G, .int .i64 (unp N 0 0 0 (-1) b).2]) ∧ SlP w' a' G (unp N 0 0 0 (-1) b).1 ∧ Below w.heap.size w w' := by
  obtain ⟨D, hD⟩ : ∃ D, D = unp N 0 0 0 (-1) b := ⟨_, rfl⟩
  rw [← hD]
  have HD : Hid (D = wrapU [] (unp (N - 0) 0 0 0 (-1) b)) := by
    refine hide ?_
    rw [Nat.sub_zero, ← hD]
    unfold wrapU
    by_cases h : D.2 = 0
    · rw [if_pos h]; rfl
    · rw [if_neg h]
      have : D.1 = [] := by rw [hD] at h ⊢; exact unp_none _ _ _ _ _ _ h
      exact Prod.ext this rfl
  clear hD
  have hN' : (N : Int) ≤ 40 := by omega
  obtain ⟨i0, hi, hz0, hz1, hz2⟩ := info_parts infoPt
  obtain ⟨g, hg⟩ : ∃ g, g = w.heap.size := ⟨_, rfl⟩
  have hgw : w.heap.size ≤ g := by omega
  go_enter Tryz.func160, Tryz.ntmps160
  go_wp2_with (at_make; refine wpList_make_own _ rfl (.const (.int .i64 0)) (.tmp 19) 34 rfl (w.heap.size + 1) 50 i0 (.agg #[.int .i64 0, .int .i64 0]) 2 Tryz.underlying34 hi hz0 hz1 _ _ _ N rfl rfl rfl (by rw [hz2]; omega) (by unfold maxLen; omega) (by simp) ?_)
  intro w3 own hgrow
  have bel3 : Below w.heap.size w w3 := ((Below.refl _ _).alloc (Nat.le_refl _) _).grown hgrow (by simp) (fun k h => by cases h)
  have B3 : Blk w3 g (spot 0 0 0) 220 := (Blk.laid w (spot 0 0 0) 220 g hg).grown hgrow (fun k h => by cases h)
  have S3 := hr.keep bel3 (Nat.le_refl _)
  have C3 : Clear g ao b := hr.clearNew hgw
  have D3 : ∀ h, (Value.slice (some ⟨w.heap.size + 1, 0, none⟩) 0 N).ownBlock = some h → Clear h ao b := by
    intro h hh
    cases hh
    exact hr.clearNew (Nat.le_succ _)
  clear hgrow
  go_wp2_with fail
  rw [← hg] at own D3 ⊢
  clear hg
  generalize Value.slice (some ⟨g + 1, 0, none⟩) 0 N = v0 at *
  go_loopw [0, 7, 22] (fun bs o i wr => ∃ (k G : Nat) (t v s : Int) (a' : Option Addr) (X : List Bool) (O : List Pt), k ≤ N ∧ i = .int .i64 k ∧ bs = .slice a' X.length G ∧ (0 ≤ t ∧ t ≤ 100000) ∧ (-1000000 ≤ v ∧ v ≤ 1000000) ∧ (-100000 ≤ s ∧ s ≤ 100000) ∧ X.length ≤ b.length ∧ Hid (O.length = k ∧ chk (-1) O = 0) ∧ Hid (D = wrapU O (unp (N - k) t v s (lastT (-1) O) X)) ∧ Blk wr g (spot t v s) 220 ∧ wr.ownsRow (g + 1) 50 2 o k (cellsP O) ∧ Sl wr a' G (X.map Value.bool) ∧ Clear g a' X ∧ (∀ h, o.ownBlock = some h → Clear h a' X) ∧ Below w.heap.size w wr) (fun _ _ i _ => N - (intOf i).toNat)
  case atStart => exact ⟨0, cap, 0, 0, 0, ao, b, [], by omega, rfl, rfl, by omega, by omega, by omega, Nat.le_refl _, hide ⟨rfl, rfl⟩, HD, B3, own, S3, C3, D3, bel3⟩
  case round =>
    clear HD B3 own S3 C3 D3 bel3 w3
    obtain ⟨k, G, t, v, s, a', X, O, hk, rfl, rfl, ht, hv, hs, hX, HO, HD, B, own, S, cg, co, bel⟩ := hrel
    by_cases hlt : k < N
    · have HD' := HD.out
      clear HD
      rw [show N - k = (N - (k + 1)) + 1 by omega] at HD'
      have TB := fun W h => takeBoth_any a' G X W h (by omega)
      have hlen := bothN_length X
      by_cases hF : (bothN X).2.2.2 = 0
      · obtain ⟨⟨hx, hy⟩, hstep⟩ := unp_step (N - (k + 1)) t v s (lastT (-1) O) hF
        rw [hstep] at HD'
        rw [hF] at TB
        clear hstep hF
        generalize (bothN X).1 = x at *
        generalize (bothN X).2.1 = y at *
        generalize (bothN X).2.2.1 = Y at *
        have BY := fun W h => by_any g t v s x y W h ht hv hs hx hy
        have CH : ∀ a c W, SlP W a c (O ++ [(t + (s + x), v + y)]) → Calls Tryz.prog 24 #[.slice a (k + 1) c] W fun e w' => e = .returned (.int .i64 (badE (lastT (-1) O) (t + (s + x), v + y))) ∧ Below W.heap.size W w' := by
          intro a c W h
          have h2 := check_any a c _ W h
          rw [checkE_snoc _ (by rw [HO.out.1]; omega) HO.out.2, List.length_append, HO.out.1] at h2
          exact h2
        by_cases hE : badE (lastT (-1) O) (t + (s + x), v + y) = 0
        · obtain ⟨hp, hlate⟩ := unp_good hE
          have hp' := ptOk_true hp
          rw [if_neg (by rw [hp]; decide), if_neg hlate, wrap_next] at HD'
          rw [hE] at CH
          have HE := hide (chk_snoc HO.out.2 hE)
          have HD2 : Hid (D = wrapU (O ++ [(t + (s + x), v + y)]) (unp (N - (k + 1)) (t + (s + x)) (v + y) (s + x) (lastT (-1) (O ++ [(t + (s + x), v + y)])) Y)) := by
            refine hide ?_
            rw [lastT_snoc]
            exact HD'
          have HL2 : Hid ((O ++ [(t + (s + x), v + y)]).length = k + 1) := by
            refine hide ?_
            rw [List.length_append, HO.out.1]
            rfl
          clear HD' hp hlate hE
          go_wp2_with fail
          go_at_call 186
          refine (TB _ S).mono ?_
          rintro e w4 ⟨a4, G4, rfl, S4, b4, k4⟩
          have B4 := B.keep b4 B.lt
          have own4 := ownCall own b4
          have bel4 := belowCall bel b4
          have cg4 : Clear g a4 Y := cg.kin k4 B.lt hlen
          have co4 : ∀ h, u7.ownBlock = some h → Clear h a4 Y := fun h hh => (co h hh).kin k4 (own.lt h hh).2 hlen
          clear k4
          go_wp2_with fail
          go_at_call 187
          refine (BY _ B4).mono ?_
          rintro e w5 ⟨rfl, B5, g5⟩
          have own5 := ownOff own4 g5 (Nat.lt_succ_self _)
          have bel5 : Below w.heap.size w w5 := bel4.grown g5 bel4.size (fun j hj => by cases hj; exact hgw)
          have S5 := S4.clear g5 cg4
          clear g5
          go_wp2_with (at_builtin; refine wpList_append_new _ rfl (.tmp 34) (.tmp 38) 34 rfl (g + 1) 50 i0 _ 2 16 Tryz.underlying34 hi hz0 hz1 hz2 rfl (by decide) _ k _ rfl own5 1 _ _ rfl rfl (by simp [Value.oneCell']) (by decide) (by unfold maxLen; omega) (by omega) B5.lt ?_)
          intro v6 w6 own6 grow6 went6
          have own7 : w6.ownsRow (g + 1) 50 2 v6 (k + 1) (cellsP (O ++ [(t + (s + x), v + y)])) := by rw [cellsP_append]; exact own6
          have bel6 := belowGrown bel5 own5 grow6 (by omega) bel5.size
          have B6 := B5.grown grow6 (fun j hj => by have := (own5.lt j hj).1; omega)
          have S6 := S5.clearOwn grow6 co4
          have co6 : ∀ h, v6.ownBlock = some h → Clear h a4 Y := by
            intro h hh
            rcases went6 with e | e
            · exact co4 h (e ▸ hh)
            · exact S5.clearNew (e h hh)
          obtain ⟨a6, c6, rfl, sp6, -, -⟩ := SlP.ofOwn own7
          clear own6 grow6 went6
          generalize O ++ [(t + (s + x), v + y)] = O' at *
          go_wp2_with fail
          go_at_call 24
          refine (CH _ _ _ sp6).mono ?_
          rintro e w7 ⟨rfl, b7⟩
          go_wp2_with fail
          go_roundw
          case rel => exact ⟨k + 1, G4, t + (s + x), v + y, s + x, a4, Y, O', by omega, by go_num, rfl, ⟨hp'.1, hp'.2.1⟩, hp'.2.2, by omega, by omega, hide ⟨HL2.out, HE.out⟩, HD2, B6.keep b7 B6.lt, ownCall own7 b7, S6.call b7, cg4, co6, belowCall bel6 b7⟩
          case measure => simp [intOf]; omega
        · rw [unp_bad _ _ _ _ hE] at HD'
          generalize badE (lastT (-1) O) (t + (s + x), v + y) = E at *
          subst HD'
          go_wp2_with fail
          go_at_call 186
          refine (TB _ S).mono ?_
          rintro e w4 ⟨a4, G4, rfl, S4, b4, k4⟩
          have B4 := B.keep b4 B.lt
          have own4 := ownCall own b4
          have bel4 := belowCall bel b4
          clear S4 k4
          go_wp2_with fail
          go_at_call 187
          refine (BY _ B4).mono ?_
          rintro e w5 ⟨rfl, B5, g5⟩
          have own5 := ownOff own4 g5 (Nat.lt_succ_self _)
          have bel5 : Below w.heap.size w w5 := bel4.grown g5 bel4.size (fun j hj => by cases hj; exact hgw)
          clear g5
          go_wp2_with (at_builtin; refine wpList_append_new _ rfl (.tmp 34) (.tmp 38) 34 rfl (g + 1) 50 i0 _ 2 16 Tryz.underlying34 hi hz0 hz1 hz2 rfl (by decide) _ k _ rfl own5 1 _ _ rfl rfl (by simp [Value.oneCell']) (by decide) (by unfold maxLen; omega) (by omega) B5.lt ?_)
          intro v6 w6 own6 grow6 went6
          have own7 : w6.ownsRow (g + 1) 50 2 v6 (k + 1) (cellsP (O ++ [(t + (s + x), v + y)])) := by rw [cellsP_append]; exact own6
          obtain ⟨a6, c6, rfl, sp6, -, -⟩ := SlP.ofOwn own7
          have bel6 := belowGrown bel5 own5 grow6 (by omega) bel5.size
          clear own6 own7 grow6 went6
          go_wp2_with fail
          go_at_call 24
          refine (CH _ _ _ sp6).mono ?_
          rintro e w7 ⟨rfl, b7⟩
          go_wp2_with fail
          go_ret2
          exact ⟨none, 0, rfl, SlP.ofNil _, belowCall bel6 b7⟩
      · rw [unp_err _ _ _ _ _ _ hF] at HD'
        generalize (bothN X).1 = x at *
        generalize (bothN X).2.1 = y at *
        generalize (bothN X).2.2.1 = Y at *
        generalize (bothN X).2.2.2 = F at *
        subst HD'
        go_wp2_with fail
        go_at_call 186
        refine (TB _ S).mono ?_
        rintro e w4 ⟨a4, G4, rfl, S4, b4, k4⟩
        go_wp2_with fail
        go_ret2
        exact ⟨none, 0, rfl, SlP.ofNil _, belowCall bel b4⟩
    · obtain rfl : k = N := by omega
      have HD' := HD.out
      rw [Nat.sub_self, unp] at HD'
      by_cases hz : X.length = 0
      · rw [if_pos hz, wrapU, if_pos rfl, List.append_nil] at HD'
        obtain ⟨a6, c6, rfl, sp6, hl6, -⟩ := SlP.ofOwn own
        have hz' : (X.length : Int) = 0 := by omega
        subst HD'
        go_wp2_with fail
        go_ret2
        exact ⟨a6, c6, rfl, sp6, bel⟩
      · rw [if_neg hz, wrapU, if_neg (by decide)] at HD'
        subst HD'
        have hz' : (0 : Int) < (X.length : Int) := by omega
        go_wp2_with fail
        go_ret2
        exact ⟨none, 0, rfl, SlP.ofNil _, bel⟩

theorem unpack_no (ao : Option Addr) (len cap : Nat) (n : Int) (w : World) (h : unpIn n = false) :
    Calls Tryz.prog 160 #[.slice ao len cap, .int .i64 n] w fun e w' => e = .returned (.tuple #[.slice none 0 0, .int .i64 2]) ∧ w = w' := by
  have hn := (of_decide_eq_false h : ¬ (0 ≤ n ∧ n ≤ 40))
  clear h
  by_cases h0 : n < 0
  · go_enter Tryz.func160, Tryz.ntmps160
    go_wp2_with fail
    go_ret2
    exact ⟨rfl, rfl⟩
  · have h1 : 40 < n := by omega
    have h2 : ¬ n < 0 := h0
    go_enter Tryz.func160, Tryz.ntmps160
    go_wp2_with fail
    go_ret2
    exact ⟨rfl, rfl⟩

/-- Unpack, whatever it is handed. -/
theorem unpack_any (ao : Option Addr) (cap : Nat) (b : List Bool) (n : Int) (w : World) (hr : Sl w ao cap (b.map Value.bool)) (hl : b.length ≤ 140737488355328) :
    Calls Tryz.prog 160 #[.slice ao b.length cap, .int .i64 n] w fun e w' =>
      ∃ a' G, e = .returned (.tuple #[.slice a' (unpL b n).length G, .int .i64 (unpE b n)]) ∧ SlP w' a' G (unpL b n) ∧ Below w.heap.size w w' := by
  cases h : unpIn n with
  | true =>
    have hn := (of_decide_eq_true h : 0 ≤ n ∧ n ≤ 40)
    obtain ⟨N, rfl⟩ := Int.eq_ofNat_of_zero_le hn.1
    have e1 : unpL b N = (unp N 0 0 0 (-1) b).1 := by rw [unpL, if_pos h]; rfl
    have e2 : unpE b N = (unp N 0 0 0 (-1) b).2 := by rw [unpE, if_pos h]; rfl
    rw [e1, e2]
    exact unpack_ok ao cap b N w hr hl (by omega)
  | false =>
    have e1 : unpL b n = [] := by rw [unpL, h]; rfl
    have e2 : unpE b n = 2 := by rw [unpE, h]; rfl
    rw [e1, e2]
    refine (unpack_no ao b.length cap n w h).mono ?_
    rintro e w' ⟨rfl, rfl⟩
    exact ⟨none, 0, rfl, SlP.ofNil _, Below.refl _ _⟩

theorem unp_length : ∀ (n : Nat) (t v s last : Int) (b : List Bool), (unp n t v s last b).1.length ≤ n
  | 0, _, _, _, _, _ => Nat.le_refl _
  | n + 1, t, v, s, last, b => by
    rw [unp]
    have h := unp_length n (t + (s + zigN b)) (v + zigN (zigR b)) (s + zigN b) (t + (s + zigN b)) (zigR (zigR b))
    by_cases h1 : zigF b ≠ 0
    · rw [if_pos h1]; exact Nat.zero_le _
    rw [if_neg h1]
    by_cases h2 : zigF (zigR b) ≠ 0
    · rw [if_pos h2]; exact Nat.zero_le _
    rw [if_neg h2]
    by_cases h3 : ptOk (t + (s + zigN b), v + zigN (zigR b)) = false
    · rw [if_pos h3]; exact Nat.zero_le _
    rw [if_neg h3]
    by_cases h4 : t + (s + zigN b) ≤ last
    · rw [if_pos h4]; exact Nat.zero_le _
    rw [if_neg h4]
    simp only
    split
    · simp only [List.length_cons]; omega
    · exact Nat.zero_le _

theorem unpL_length (b : List Bool) (n : Int) : (unpL b n).length ≤ 40 := by
  unfold unpL
  cases h : unpIn n with
  | true =>
    have hn := (of_decide_eq_true h : 0 ≤ n ∧ n ≤ 40)
    rw [if_pos rfl]
    have := unp_length n.toNat 0 0 0 (-1) b
    omega
  | false => exact Nat.zero_le _

end Go.Proofs.YtcjdpilmhlfmfaaGreatDoor

/-
  Sums of points as plain numbers: how many, the least, the greatest, all together; what one point is, what two sums joined are, what many are.
-/
namespace Go.Proofs.YtcjdpilmhlfmfaaGreatDoor
open Go.RowKit

theorem below2 (w : World) (a b : Obj) : Below w.heap.size w ((w.alloc a).alloc b) :=
  ((Below.refl _ _).alloc (Nat.le_refl _) _).alloc (by simp) _

theorem below3 (w : World) (a b c : Obj) : Below w.heap.size w (((w.alloc a).alloc b).alloc c) :=
  (below2 w a b).alloc (by simp; omega) _

theorem Blk.alc {w : World} {g : Nat} {cs : List Value} {t : TypeId} (h : Blk w g cs t) (o : Obj) : Blk (w.alloc o) g cs t :=
  h.keep ((Below.refl w.heap.size w).alloc (Nat.le_refl _) o) h.lt

theorem Blk.other {w : World} {g g' : Nat} {cs : List Value} {t : TypeId} (h : Blk w g cs t) (i : Nat) (u : Value) (hne : g' ≠ g) : Blk (w.setCell ⟨g', i, none⟩ u) g cs t :=
  (heap_setCell_other w _ g u (fun e => hne e.symm)).trans h

theorem Blk.drewS {w : World} {g : Nat} {cs : List Value} {t : TypeId} (h : Blk w g cs t) : Blk w.drew g cs t := h

end Go.Proofs.YtcjdpilmhlfmfaaGreatDoor
