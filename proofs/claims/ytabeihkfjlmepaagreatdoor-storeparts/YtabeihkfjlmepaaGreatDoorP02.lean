/-
  Records as texts, as plain lists. No program is named.
-/
import Derived.Lib.ItoaNum
import Derived.Lib.ItoaLen
import Derived.Lib.AtoiAll
import Derived.SizedLaws
import Derived.ChangeOld
import Derived.Below
import Derived.Deep.Slices
import Derived.ArgAppend
import Derived.Deep.SlicePairs
import Derived.Test.YtabeihkfjlmepaaGreatDoorP01
namespace Go.Proofs.YtabeihkfjlmepaaGreatDoor

/-- An entry: series, time, value. -/
abbrev Nt := Int × Int × Int

/-- A record. -/
structure Rc where
  k : Int
  s : Int
  n : Int
  e : List Nt

def ntOk (x : Nt) : Bool := decide (0 ≤ x.1 ∧ x.1 < 4 ∧ 0 ≤ x.2.1 ∧ x.2.1 ≤ 100000 ∧ -1000000 ≤ x.2.2 ∧ x.2.2 ≤ 1000000)

def recE (r : Rc) : Int :=
  if r.k = 1 then (if r.s ≠ 0 ∨ r.n ≠ 0 then 4 else if 10 < r.e.length then 2 else if r.e.all ntOk then 0 else 3)
  else if r.k = 2 ∨ r.k = 3 ∨ r.k = 4 then (if r.e ≠ [] ∨ (r.k = 4 ∧ r.s ≠ 0) then 4 else if 0 ≤ r.s ∧ r.s < 4 ∧ 0 ≤ r.n ∧ r.n ≤ 100001 then 0 else 3)
  else 4

def wBatch : List UInt8 := [98, 97, 116, 99, 104]
def wSeal : List UInt8 := [115, 101, 97, 108]
def wMerge : List UInt8 := [109, 101, 114, 103, 101]
def wDrop : List UInt8 := [100, 114, 111, 112]

/-- Numbers, a blank ahead of each. -/
def numsT (l : List Int) : List UInt8 := l.flatMap (fun n => 32 :: Lib.itoa n)

def ntNums (l : List Nt) : List Int := l.flatMap (fun x => [x.1, x.2.1, x.2.2])

def recT (r : Rc) : List UInt8 :=
  if recE r = 0 then (if r.k = 1 then wBatch ++ numsT (ntNums r.e) else if r.k = 2 then wSeal ++ numsT [r.s, r.n] else if r.k = 3 then wMerge ++ numsT [r.s, r.n] else wDrop ++ numsT [r.n]) else []

theorem numsT_snoc (l : List Int) (n : Int) : numsT (l ++ [n]) = numsT l ++ 32 :: Lib.itoa n := by
  unfold numsT
  rw [List.flatMap_append]
  simp

theorem itoa_le (n : Int) (h0 : -9223372036854775808 ≤ n) (h1 : n ≤ 9223372036854775807) : (Lib.itoa n).length ≤ 21 := Lib.itoa_length_le n h0 h1

theorem numsT_le : ∀ (l : List Int), (∀ n ∈ l, -9223372036854775808 ≤ n ∧ n ≤ 9223372036854775807) → (numsT l).length ≤ l.length * 22
  | [], _ => Nat.le_refl _
  | n :: r, h => by
    have h1 := itoa_le n (h n List.mem_cons_self).1 (h n List.mem_cons_self).2
    have ih := numsT_le r (fun m hm => h m (List.mem_cons_of_mem _ hm))
    unfold numsT at ih ⊢
    rw [List.flatMap_cons, List.length_append, List.length_cons, List.length_cons, Nat.succ_mul]
    omega

end Go.Proofs.YtabeihkfjlmepaaGreatDoor

/-
  How arguments are opened: a slice of bools, a slice of ints, as the walks are told of them.
-/
namespace Go.Proofs.YtabeihkfjlmepaaGreatDoor
open Go.RowKit Go.ChangeShapes Go.WideShapes Go.ChangeAt

theorem own : ownKnob Tryz.prog.godebug = none := by kernel_rfl
theorem laidOut : laidOutB Tryz.prog = true := by kernel_rfl

theorem lt_of_cell {w : World} {a : Addr} {v : Value} (h : w.cell? a = some v) : a.block < w.heap.size := by
  unfold World.cell? at h
  cases hh : w.heap[a.block]? with
  | none => rw [hh] at h; cases h
  | some o => exact (Array.getElem?_eq_some_iff.1 hh).1

def boolOf : Value → Bool
  | .bool b => b
  | _ => false

/-- A slice of one-cell elements that came in. -/
theorem open_cells {H : Type} {enc : TypeId × Value → H} {W : World} {t e : TypeId} {ao : Option Addr} {n cap : Nat} {d : DataW H} {ps : List MemPlace} (ht : Tryz.prog.underlying t = some (.slice e)) (hc : Tryz.prog.cellsOf e = 1)
    (h : DataW.Trod enc Tryz.prog W 0 (fun _ => true) true t (.slice ao n cap) d ps) :
    ∃ V : Nat → Value, Sl W ao cap ((List.range n).map V) ∧ (∀ i, i < n → ∃ m D Pl, DataW.trod enc Tryz.prog W 0 (fun _ => true) true m e [V i] = some (D, Pl)) ∧ ((n = 0 ∧ cap = 0) ∨ ∃ elems spare, d = .slice elems spare ∧ elems.length + spare.length = cap) := by
  obtain ⟨fuel, hf⟩ := h
  rcases Go.Deep.open_slice1 ht hc hf with ⟨hcs, _⟩ | ⟨a, len, cp, m, k, V, D, Pl, hcs, _, hl, hm, hmm, hx, hel⟩
  · simp [Value.cells] at hcs
    obtain ⟨rfl, rfl, rfl⟩ := hcs
    exact ⟨fun _ => undef, by simpa using Sl.ofNil W, fun i hi => absurd hi (Nat.not_lt_zero _), .inl ⟨rfl, rfl⟩⟩
  · simp [Value.cells] at hcs
    obtain ⟨rfl, rfl, rfl⟩ := hcs
    simp only [if_true] at hmm
    subst hmm
    simp only [Prod.mk.injEq] at hx
    refine ⟨V, ⟨?_, by simpa using hl, by unfold maxLen at hm; exact hm, fun e => by cases e⟩, fun i hi => ⟨k, _, _, (hel i (by omega)).2⟩, .inr ⟨_, _, hx.1, by simp; omega⟩⟩
    by_cases h0 : n = 0
    · subst h0; exact .inl rfl
    · obtain ⟨b, off, spot⟩ := a
      have c0 := (hel 0 (by omega)).1
      have hspot : spot = none := by simpa [Addr.add] using World.cell?_spot c0
      subst hspot
      have hlt := lt_of_cell c0
      refine .inr ⟨b, off, rfl, by simpa [Addr.add] using hlt, fun i v hv => ?_⟩
      obtain ⟨hi, rfl⟩ := List.getElem?_eq_some_iff.1 hv
      have hi' : i < n := by simpa using hi
      have := (hel i (by omega)).1
      rw [Addr.add_lit] at this
      simpa using this

theorem open_bools {H : Type} {enc : TypeId × Value → H} {W : World} {t e : TypeId} {ao : Option Addr} {n cap : Nat} {d : DataW H} {ps : List MemPlace} (ht : Tryz.prog.underlying t = some (.slice e)) (he : Tryz.prog.underlying e = some .bool) (hc : Tryz.prog.cellsOf e = 1)
    (h : DataW.Trod enc Tryz.prog W 0 (fun _ => true) true t (.slice ao n cap) d ps) :
    ∃ l : List Bool, l.length = n ∧ Sl W ao cap (l.map Value.bool) ∧ ((n = 0 ∧ cap = 0) ∨ ∃ elems spare, d = .slice elems spare ∧ elems.length + spare.length = cap) := by
  obtain ⟨V, hs, hv, hd⟩ := open_cells ht hc h
  refine ⟨(List.range n).map fun i => boolOf (V i), by simp, ?_, hd⟩
  have e : ((List.range n).map fun i => boolOf (V i)).map Value.bool = (List.range n).map V := by
    rw [List.map_map]
    apply List.map_congr_left
    intro i hi
    obtain ⟨m, D, Pl, hb⟩ := hv i (by simpa using hi)
    obtain ⟨b, hb1, _⟩ := DataW.trod_bool he hb
    simp at hb1
    simp [hb1, boolOf]
  rw [e]
  exact hs

theorem open_intsS {H : Type} {enc : TypeId × Value → H} {W : World} {t e : TypeId} {ao : Option Addr} {n cap : Nat} {d : DataW H} {ps : List MemPlace} (ht : Tryz.prog.underlying t = some (.slice e)) (he : Tryz.prog.underlying e = some (.int .i64)) (hc : Tryz.prog.cellsOf e = 1)
    (h : DataW.Trod enc Tryz.prog W 0 (fun _ => true) true t (.slice ao n cap) d ps) :
    ∃ l : List Int, l.length = n ∧ Sl W ao cap (l.map (Value.int .i64)) ∧ (∀ z ∈ l, (Lit.int .i64 z).wf = true) ∧ ((n = 0 ∧ cap = 0) ∨ ∃ elems spare, d = .slice elems spare ∧ elems.length + spare.length = cap) := by
  obtain ⟨V, hs, hv, hd⟩ := open_cells ht hc h
  have key : ∀ i, i < n → V i = .int .i64 (intOf (V i)) ∧ (Lit.int .i64 (intOf (V i))).wf = true := by
    intro i hi
    obtain ⟨m, D, Pl, hb⟩ := hv i hi
    obtain ⟨z, hb1, _, hw⟩ := DataW.trod_int he hb
    simp at hb1
    rw [hb1]
    exact ⟨rfl, hw⟩
  refine ⟨(List.range n).map fun i => intOf (V i), by simp, ?_, ?_, hd⟩
  · have e : ((List.range n).map fun i => intOf (V i)).map (Value.int .i64) = (List.range n).map V := by
      rw [List.map_map]
      apply List.map_congr_left
      intro i hi
      exact (key i (by simpa using hi)).1.symm
    rw [e]
    exact hs
  · intro z hz
    obtain ⟨i, hi, rfl⟩ := List.mem_map.1 hz
    exact (key i (by simpa using hi)).2

/-- The form's own reach, of a slice of which an element takes so many bytes. -/
theorem reach_of {H : Type} {ts : List TypeId} {ds : List (DataW H)} {t e : TypeId} {j n cap bytes : Nat} {d : DataW H} (hsz : (DataW.weightsEach Tryz.prog ts ds).all (· ≤ reachBytes) = true) (ht : ts[j]? = some t) (hd : ds[j]? = some d)
    (hu : Tryz.prog.underlying t = some (.slice e)) (hb : Tryz.prog.bytesOf e = bytes) (h : (n = 0 ∧ cap = 0) ∨ ∃ elems spare, d = .slice elems spare ∧ elems.length + spare.length = cap) : cap * bytes ≤ 140737488351232 := by
  rcases h with ⟨_, rfl⟩ | ⟨el, sp, rfl, rfl⟩
  · simp
  · have := sized_slice hsz ht hd hu
    rw [hb] at this
    simpa [reachBytes] using this

end Go.Proofs.YtabeihkfjlmepaaGreatDoor

/-
  Appending to a slice that the call itself made, with what is known of where the new one lies: so that several such slices stay apart.
-/
namespace Go.Proofs.YtabeihkfjlmepaaGreatDoor
open Go.RowKit

/-- Two slices that lie in two blocks. -/
def Apart (u v : Value) : Prop := ∀ g, u.ownBlock = some g → v.ownBlock ≠ some g

theorem Apart.symm {u v : Value} (h : Apart u v) : Apart v u := fun g h1 h2 => h g h2 h1

/-- Where the new slice of an append lies: where the old one did, or in new memory. -/
def Went (w : World) (v v' : Value) : Prop := v'.ownBlock = v.ownBlock ∨ ∀ g, v'.ownBlock = some g → w.heap.size ≤ g

theorem Apart.went {w : World} {u v v' : Value} (h : Apart u v) (hu : ∀ g, u.ownBlock = some g → g < w.heap.size) (hw : Went w v v') : Apart u v' := by
  intro g hg hv
  rcases hw with hw | hw
  · exact h g hg (hw ▸ hv)
  · have h1 := hu g hg
    have h2 := hw g hv
    omega

theorem wpList_append_went {P : Program} (w : World) {ops : Array Oper} {rest : List Oper} {o : Oper} {a : Act} {Q : Exit → Act → World → Prop} (hgd : o.guard = none) (s x : Operand) (t : TypeId)
    (ho : o.op = .call { callee := .builtin .append, args := #[s, x], argTypes := #[t, t] })
    (base : Nat) (e : TypeId) (i : TypeInfo) (z : Value) (size bytes : Nat) (ht : P.underlying t = some (.slice e)) (hi : P.info? e = some i) (hz : i.zero = some z)
    (hsize : i.size = size) (hby : i.bytes = bytes) (hzs : z.cells.size = size) (hsz : 0 < size)
    (v : Value) (n : Nat) (xs : List Value) (hs : a.eval s = v) (hown : w.ownsRow base e size v n xs)
    (ad : Addr) (m c : Nat) (news : List Value) (hx : a.eval x = .slice (some ad) m c) (hl : news.length = m * size) (hnews : ∀ j u, news[j]? = some u → w.cell? (ad.add j) = some u) (h1 : ∀ u ∈ news, u.oneCell' = true)
    (hm : 0 < m) (h63 : n + m ≤ maxLen) (hbytes : (n + m) * bytes ≤ 140737488355328) (hbase : base ≤ w.heap.size)
    (h : ∀ v' w', w'.ownsRow base e size v' (n + m) (xs ++ news) → w.grownBy w' v.ownBlock → Went w v v' → wpList P ops Q rest (a.put o.dst v') w') : wpList P ops Q (o :: rest) a w := by
  have hxl := hown.1
  have up : ∀ (v' : Value) (w' : World), w'.ownsRow w.heap.size e size v' (n + m) (xs ++ news) → w'.ownsRow base e size v' (n + m) (xs ++ news) ∧ ∀ g, v'.ownBlock = some g → w.heap.size ≤ g := by
    intro v' w' ho'
    refine ⟨⟨ho'.1, ?_⟩, fun g hg => (ho'.lt g hg).1⟩
    rcases ho'.2 with h0 | ⟨g, cap, cur, q1, q2, q3⟩
    · exact .inl h0
    · exact .inr ⟨g, cap, cur, q1, by omega, q3⟩
  have gr : ∀ (w' : World), w.grownBy w' none → ∀ row, w.grownBy w' row := fun w' hg row => ⟨hg.os, hg.tape, hg.output, hg.size, fun k hk _ => hg.block k hk (by simp)⟩
  rcases hown.2 with ⟨rfl, rfl⟩ | ⟨g, cap, cur, rfl, hbg, hh, hnc, hcm, hcs, htk⟩
  · refine wpList_append_grows w hgd s x t ho e i z size bytes ht hi hz hsize hby hzs hsz none 0 0 xs hs (fun _ => ⟨rfl, rfl⟩) hxl (fun b hb => by cases hb) ad m c news hx hl hnews h1 (by omega) h63 hbytes ?_
    intro v' w' ho' hg'
    obtain ⟨p1, p2⟩ := up v' w' ho'
    exact h v' w' p1 (gr w' hg' _) (.inr p2)
  · by_cases hr : n + m ≤ cap
    · refine wpList_append_fits w hgd s x t ho base e i size ht hi hsize g n cap xs hs hown ad m c news hx hl hnews h1 hr ?_
      intro w' ho' hg'
      exact h _ w' ho' hg' (.inl rfl)
    · refine wpList_append_grows w hgd s x t ho e i z size bytes ht hi hz hsize hby hzs hsz (some ⟨g, 0, none⟩) n cap xs hs (fun h => by cases h) hxl ?_ ad m c news hx hl hnews h1 (by omega) h63 hbytes ?_
      · intro b hb j u hu
        obtain rfl := Option.some.inj hb
        exact hown.cells (g := g) rfl j u hu
      · intro v' w' ho' hg'
        obtain ⟨p1, p2⟩ := up v' w' ho'
        exact h v' w' p1 (gr w' hg' _) (.inr p2)

/-- A row that lies apart stays while another one grows. -/
theorem Row.apart {w w' : World} {ao : Option Addr} {n cap : Nat} {cs : List Value} {v : Value} (h : Row w ao cs) (hg : w.grownBy w' v.ownBlock) (ha : Apart (.slice ao n cap) v) : Row w' ao cs := by
  rcases h with h | ⟨b, off, rfl, hb, hc⟩
  · exact .inl h
  · refine .inr ⟨b, off, rfl, Nat.lt_of_lt_of_le hb hg.size, fun i u hu => ?_⟩
    exact hg.cell (hc i u hu) (fun e => ha b rfl e.symm)

theorem Sl.apart {w w' : World} {ao : Option Addr} {n cap : Nat} {cs : List Value} {v : Value} (h : Sl w ao cap cs) (hg : w.grownBy w' v.ownBlock) (ha : Apart (.slice ao n cap) v) : Sl w' ao cap cs :=
  ⟨h.row.apart hg ha, h.le, h.max, h.nil⟩

theorem ownApart {w w' : World} {base : Nat} {e : TypeId} {size n : Nat} {u v : Value} {xs : List Value} (h : w.ownsRow base e size u n xs) (hg : w.grownBy w' v.ownBlock) (ha : Apart u v) : w'.ownsRow base e size u n xs := by
  refine h.kept hg ?_
  cases hu : u.ownBlock with
  | none => exact .inl rfl
  | some g => exact .inr (fun e => ha g hu e.symm)

/-- What is owned stays so behind a call that writes nothing old. -/
theorem ownCall {w w' : World} {base : Nat} {e : TypeId} {size n : Nat} {u : Value} {xs : List Value} (h : w.ownsRow base e size u n xs) (hb : Below w.heap.size w w') : w'.ownsRow base e size u n xs :=
  h.kept (row := none) ⟨hb.os, hb.tape, hb.output, hb.size, fun k hk _ => hb.block k hk⟩ (by
    cases hu : u.ownBlock with
    | none => exact .inl rfl
    | some g => exact .inr (by simp))

theorem ownSl {w : World} {base : Nat} {e : TypeId} {n : Nat} {v : Value} {xs : List Value} (h : w.ownsRow base e 1 v n xs) : ∃ ao cap, v = .slice ao n cap ∧ Sl w ao cap xs ∧ xs.length = n := by
  rcases h.2 with ⟨rfl, rfl⟩ | ⟨g, cap, cur, rfl, hbg, hh, hnc, hcm, hcs, htk⟩
  · have hx : xs = [] := List.eq_nil_of_length_eq_zero (by simpa using h.1)
    subst hx
    exact ⟨none, 0, rfl, Sl.ofNil w, rfl⟩
  · have := slOfOwn h
    exact ⟨_, _, rfl, this.1, this.2⟩

theorem Blk.grown {w w' : World} {g : Nat} {cs : List Value} {t : TypeId} {row : Option Nat} (h : Blk w g cs t) (hg : w.grownBy w' row) (hne : ∀ k, row = some k → k ≠ g) : Blk w' g cs t :=
  (hg.block g h.lt (fun e => hne g e.symm rfl)).trans h

theorem Blk.alloc {w : World} {g : Nat} {cs : List Value} {t : TypeId} (h : Blk w g cs t) (o : Obj) : Blk (w.alloc o) g cs t :=
  h.keep ((Below.refl w.heap.size w).alloc (Nat.le_refl _) o) h.lt

/-- An append of values that were just laid behind one another. -/
theorem wpList_append_new {P : Program} (w0 : World) {ops : Array Oper} {rest : List Oper} {o : Oper} {a : Act} {Q : Exit → Act → World → Prop} (hgd : o.guard = none) (s x : Operand) (t : TypeId)
    (ho : o.op = .call { callee := .builtin .append, args := #[s, x], argTypes := #[t, t] })
    (base : Nat) (e : TypeId) (i : TypeInfo) (z : Value) (size bytes : Nat) (ht : P.underlying t = some (.slice e)) (hi : P.info? e = some i) (hz : i.zero = some z)
    (hsize : i.size = size) (hby : i.bytes = bytes) (hzs : z.cells.size = size) (hsz : 0 < size)
    (v : Value) (n : Nat) (xs : List Value) (hs : a.eval s = v) (hown : w0.ownsRow base e size v n xs)
    (m : Nat) (news : Array Value) (te : TypeId) (hx : a.eval x = .slice (some ⟨w0.heap.size, 0, none⟩) m m) (hl : news.size = m * size) (h1 : ∀ u ∈ news.toList, u.oneCell' = true)
    (hm : 0 < m) (h63 : n + m ≤ maxLen) (hbytes : (n + m) * bytes ≤ 140737488355328) (hbase : base ≤ w0.heap.size)
    (h : ∀ v' w', w'.ownsRow base e size v' (n + m) (xs ++ news.toList) → w0.grownBy w' v.ownBlock → Went w0 v v' → wpList P ops Q rest (a.put o.dst v') w') : wpList P ops Q (o :: rest) a (w0.alloc (.cells news te)) := by
  have hnews : ∀ j u, news.toList[j]? = some u → (w0.alloc (.cells news te)).cell? ((⟨w0.heap.size, 0, none⟩ : Addr).add j) = some u := by
    intro j u hu
    rw [Addr.add_lit, Nat.zero_add, World.cell?_alloc_at (hn := rfl)]
    simpa using hu
  refine wpList_append_went (w0.alloc (.cells news te)) hgd s x t ho base e i z size bytes ht hi hz hsize hby hzs hsz v n xs hs (hown.alloc _) ⟨w0.heap.size, 0, none⟩ m m news.toList hx (by simpa using hl) hnews h1 hm h63 hbytes (by simp; omega) ?_
  intro v' w' ho' hg hw
  have hbel := (Below.refl w0.heap.size w0).alloc (Nat.le_refl _) (Obj.cells news te)
  refine h v' w' ho' ⟨hg.os.trans hbel.os, hg.tape.trans hbel.tape, hg.output.trans hbel.output, Nat.le_trans hbel.size hg.size, fun k hk hne => ?_⟩ ?_
  · rw [hg.block k (by simp; omega) hne]
    exact hbel.block k hk
  · rcases hw with hw | hw
    · exact .inl hw
    · exact .inr (fun g hg' => by have := hw g hg'; simp at this; omega)

/-- What grows its own memory alone leaves the world ahead. -/
theorem belowGrown {B base : Nat} {w w0 w' : World} {e : TypeId} {size n : Nat} {v : Value} {xs : List Value} (h : Below B w w0) (hown : w0.ownsRow base e size v n xs) (hg : w0.grownBy w' v.ownBlock) (hB : B ≤ base) (hb : B ≤ w0.heap.size) : Below B w w' :=
  h.grown hg hb (fun k hk => Nat.le_trans hB (hown.lt k hk).1)

end Go.Proofs.YtabeihkfjlmepaaGreatDoor

/-
  Slices whose elements are more than one cell wide: what it means that a slice holds a list of such elements; how that stays; its parts; how such an argument is opened.
-/
namespace Go.Proofs.YtabeihkfjlmepaaGreatDoor
open Go.RowKit Go.ChangeShapes Go.WideShapes Go.ChangeAt

theorem flat_length {α : Type} {f : α → List Value} {k : Nat} (hf : ∀ x, (f x).length = k) : ∀ l : List α, (l.flatMap f).length = l.length * k
  | [] => by simp
  | x :: r => by
    rw [List.flatMap_cons, List.length_append, hf, flat_length hf r, List.length_cons, Nat.succ_mul]
    omega

theorem flat_get {α : Type} {f : α → List Value} {k : Nat} (hf : ∀ x, (f x).length = k) : ∀ (l : List α) (i j : Nat) (x : α), l[i]? = some x → j < k → (l.flatMap f)[i * k + j]? = (f x)[j]?
  | [], i, j, x, h, _ => by simp at h
  | y :: r, 0, j, x, h, hj => by
    simp at h
    subst h
    rw [Nat.zero_mul, Nat.zero_add, List.flatMap_cons, List.getElem?_append_left (by rw [hf]; exact hj)]
  | y :: r, i + 1, j, x, h, hj => by
    have ih := flat_get hf r i j x (by simpa using h) hj
    rw [List.flatMap_cons, List.getElem?_append_right (by rw [hf, Nat.succ_mul]; omega), hf, Nat.succ_mul, show i * k + k + j - k = i * k + j by omega]
    exact ih

theorem flat_take {α : Type} {f : α → List Value} {k : Nat} (hf : ∀ x, (f x).length = k) : ∀ (l : List α) (i : Nat), (l.flatMap f).take (i * k) = (l.take i).flatMap f
  | l, 0 => by simp
  | [], i + 1 => by simp
  | x :: r, i + 1 => by
    have ih := flat_take hf r i
    rw [List.flatMap_cons, List.take_succ_cons, List.flatMap_cons, ← ih, List.take_append, hf, Nat.succ_mul, List.take_of_length_le (by rw [hf]; omega), show i * k + k - k = i * k by omega]

theorem flat_drop {α : Type} {f : α → List Value} {k : Nat} (hf : ∀ x, (f x).length = k) : ∀ (l : List α) (i : Nat), (l.flatMap f).drop (i * k) = (l.drop i).flatMap f
  | l, 0 => by simp
  | [], i + 1 => by simp
  | x :: r, i + 1 => by
    have ih := flat_drop hf r i
    rw [List.flatMap_cons, List.drop_succ_cons, ← ih, List.drop_append, hf, Nat.succ_mul, List.drop_eq_nil_of_le (by rw [hf]; omega), List.nil_append, show i * k + k - k = i * k by omega]

/-- A slice whose elements are the cells that f says. -/
structure SlW {α : Type} (f : α → List Value) (w : World) (ao : Option Addr) (cap : Nat) (l : List α) : Prop where
  row : Row w ao (l.flatMap f)
  le : l.length ≤ cap
  max : cap ≤ 9223372036854775807
  nil : ao = none → cap = 0

theorem SlW.keep {α : Type} {f : α → List Value} {w w' : World} {ao : Option Addr} {cap : Nat} {l : List α} {B : Nat} (h : SlW f w ao cap l) (hb : Below B w w') (hB : w.heap.size ≤ B) : SlW f w' ao cap l :=
  ⟨h.row.keep hb hB, h.le, h.max, h.nil⟩

theorem SlW.call {α : Type} {f : α → List Value} {w w' : World} {ao : Option Addr} {cap : Nat} {l : List α} (h : SlW f w ao cap l) (hb : Below w.heap.size w w') : SlW f w' ao cap l := h.keep hb (Nat.le_refl _)

theorem SlW.alloc {α : Type} {f : α → List Value} {w : World} {ao : Option Addr} {cap : Nat} {l : List α} (h : SlW f w ao cap l) (o : Obj) : SlW f (w.alloc o) ao cap l :=
  ⟨h.row.alloc o, h.le, h.max, h.nil⟩

theorem SlW.drewN {α : Type} {f : α → List Value} {w : World} {ao : Option Addr} {cap : Nat} {l : List α} (h : SlW f w ao cap l) (n : Nat) : SlW f (w.drewN n) ao cap l := ⟨h.row.drewN n, h.le, h.max, h.nil⟩

theorem SlW.ofNil {α : Type} (f : α → List Value) (w : World) : SlW f w none 0 [] := ⟨.inl rfl, Nat.le_refl _, by decide, fun _ => rfl⟩

theorem flat_ne {α : Type} {f : α → List Value} {k : Nat} (hf : ∀ x, (f x).length = k) (hk : 0 < k) {l : List α} (h : l ≠ []) : l.flatMap f ≠ [] := by
  intro e
  have h1 := flat_length hf l
  rw [e] at h1
  have h2 : 0 < l.length := List.length_pos_iff.2 h
  have := Nat.mul_pos h2 hk
  rw [← h1] at this
  exact Nat.lt_irrefl _ this

theorem SlW.where {α : Type} {f : α → List Value} {k : Nat} (hf : ∀ x, (f x).length = k) (hk : 0 < k) {w : World} {ao : Option Addr} {cap : Nat} {l : List α} (h : SlW f w ao cap l) (hne : l ≠ []) : ∃ b off, ao = some ⟨b, off, none⟩ ∧ b < w.heap.size := by
  obtain ⟨b, off, e, hb, _⟩ := h.row.at (flat_ne hf hk hne)
  exact ⟨b, off, e, hb⟩

/-- One cell of one element. -/
theorem SlW.cell {α : Type} {f : α → List Value} {k : Nat} (hf : ∀ x, (f x).length = k) {w : World} {b off cap : Nat} {l : List α} (h : SlW f w (some ⟨b, off, none⟩) cap l) (i j : Nat) (x : α) (v : Value) (hx : l[i]? = some x) (hj : (f x)[j]? = some v) :
    w.cell? ⟨b, off + i * k + j, none⟩ = some v := by
  have hjk : j < k := by rw [← hf x]; exact (List.getElem?_eq_some_iff.1 hj).1
  have hg := flat_get hf l i j x hx hjk
  rw [hj] at hg
  obtain ⟨b', off', e, _, hc⟩ := h.row.at (by intro e; rw [e] at hg; simp at hg)
  simp only [Option.some.injEq, Addr.mk.injEq, and_true] at e
  obtain ⟨rfl, rfl⟩ := e
  rw [Nat.add_assoc]
  exact hc _ _ hg

theorem SlW.front {α : Type} {f : α → List Value} {k : Nat} (hf : ∀ x, (f x).length = k) {w : World} {ao : Option Addr} {cap : Nat} {l : List α} (h : SlW f w ao cap l) (i : Nat) : SlW f w ao cap (l.take i) := by
  refine ⟨?_, by have := h.le; rw [List.length_take]; omega, h.max, h.nil⟩
  rcases h.row with h0 | ⟨b, off, e, hb, hc⟩
  · left; rw [← flat_take hf, h0]; simp
  · right
    refine ⟨b, off, e, hb, fun m v hv => hc m v ?_⟩
    rw [← flat_take hf, List.getElem?_take] at hv
    split at hv
    · exact hv
    · cases hv

/-- A part of a slice, as the slice expression makes it. -/
theorem SlW.part {α : Type} {f : α → List Value} {k : Nat} (hf : ∀ x, (f x).length = k) {w : World} {ao : Option Addr} {cap : Nat} {l : List α} (h : SlW f w ao cap l) (p q : Nat) (hpq : p ≤ q) (hq : q ≤ l.length) : SlW f w (if cap = p then ao else Option.map (fun x => x.add (p * k)) ao) (cap - p) ((l.take q).drop p) := by
  have hle := h.le
  have hlen : ((l.take q).drop p).length = q - p := by rw [List.length_drop, List.length_take]; omega
  refine ⟨?_, by rw [hlen]; omega, by have := h.max; omega, ?_⟩
  · rcases (h.front hf q).row with h0 | ⟨b, off, rfl, hb, hc⟩
    · left
      rw [← flat_drop hf, h0]
      simp
    · by_cases he : p = q
      · left
        have e : (l.take q).drop p = [] := List.eq_nil_of_length_eq_zero (by rw [hlen]; omega)
        rw [e]
        rfl
      · right
        rw [if_neg (by omega)]
        refine ⟨b, off + p * k, by rw [Option.map_some, Addr.add_lit], hb, fun i v hv => ?_⟩
        rw [← flat_drop hf, List.getElem?_drop] at hv
        rw [Nat.add_assoc]
        exact hc _ _ hv
  · intro e
    by_cases hc : cap = p
    · omega
    · rw [if_neg hc] at e
      have := h.nil (by simpa using e)
      omega

theorem SlW.src {α : Type} {f : α → List Value} {w : World} {ao : Option Addr} {cap : Nat} {l : List α} (h : SlW f w ao cap l) : ∀ ad, ao = some ad → ∀ j u, (l.flatMap f)[j]? = some u → w.cell? (ad.add j) = some u := by
  intro ad had j u hu
  obtain ⟨b, off, e, _, hc⟩ := h.row.at (by intro e; rw [e] at hu; simp at hu)
  rw [e] at had
  obtain rfl := Option.some.inj had
  rw [Addr.add_lit]
  exact hc j u hu

theorem SlW.ofOwn {α : Type} {f : α → List Value} {k : Nat} (hf : ∀ x, (f x).length = k) (hk : 0 < k) {w : World} {base : Nat} {e : TypeId} {n : Nat} {v : Value} {l : List α} (h : w.ownsRow base e k v n (l.flatMap f)) : ∃ ao cap, v = .slice ao n cap ∧ SlW f w ao cap l ∧ l.length = n ∧ ∀ g, g < base → Off g ao := by
  have hl : l.length = n := by have := h.1; rw [flat_length hf] at this; exact Nat.eq_of_mul_eq_mul_right hk this
  rcases h.2 with ⟨rfl, rfl⟩ | ⟨g, cap, cur, rfl, hbg, hh, hnc, hcm, hcs, htk⟩
  · obtain rfl := List.eq_nil_of_length_eq_zero hl
    exact ⟨none, 0, rfl, SlW.ofNil f w, rfl, fun _ _ => Off.nil _⟩
  · refine ⟨_, _, rfl, ⟨.inr ⟨g, 0, rfl, (Array.getElem?_eq_some_iff.1 hh).1, fun i u hu => ?_⟩, by omega, by unfold maxLen at hcm; exact hcm, fun e => by cases e⟩, hl, fun g' hg' ad e => by cases e; show g ≠ g'; omega⟩
    rw [Nat.zero_add, h.cellAt i (by have := (List.getElem?_eq_some_iff.1 hu).1; rw [flat_length hf, hl] at this; exact this)]
    exact hu

/-- Every slice that a value leads to is within reach. -/
def Light {H : Type} (t : TypeId) (d : DataW H) : Prop := ∀ n ∈ d.weights Tryz.prog t, n ≤ 140737488351232

theorem weights_mem_all {H : Type} {e : TypeId} {d : DataW H} : ∀ {l : List (DataW H)}, d ∈ l → ∀ n ∈ d.weights Tryz.prog e, n ∈ DataW.weightsAll Tryz.prog e l
  | [], h, _, _ => by simp at h
  | x :: r, h, n, hn => by
    simp only [DataW.weightsAll, List.mem_append]
    rcases List.mem_cons.1 h with rfl | h
    · exact .inl hn
    · exact .inr (weights_mem_all h n hn)

/-- An argument that is a slice of wide elements: each element by its own reading. -/
theorem open_wide {H : Type} {enc : TypeId × Value → H} {W : World} {t e : TypeId} {k : Nat} {α : Type} (f : α → List Value) (Q : α → Prop) {ao : Option Addr} {n cap fuel : Nat} {d : DataW H} {ps : List MemPlace}
    (ht : Tryz.prog.underlying t = some (.slice e)) (ce : Tryz.prog.cellsOf e = k) (hk : 0 < k) (hf : ∀ x, (f x).length = k)
    (each : ∀ cs x m, cs.length = k → DataW.trod enc Tryz.prog W 0 (fun _ => true) true m e cs = some x → Light e x.1 → ∃ y : α, cs = f y ∧ Q y)
    (h : DataW.trod enc Tryz.prog W 0 (fun _ => true) true fuel t [.slice ao n cap] = some (d, ps)) (hw : Light t d) :
    ∃ l : List α, l.length = n ∧ SlW f W ao cap l ∧ (∀ y ∈ l, Q y) ∧ cap * Tryz.prog.bytesOf e ≤ 140737488351232 := by
  rcases Go.Deep.open_slice ht h with ⟨hcs, _⟩ | ⟨a, len, cp, m, fu, D, Pl, hcs, _, hl, hm, hmm, hx, hel⟩
  · simp at hcs
    obtain ⟨rfl, rfl, rfl⟩ := hcs
    exact ⟨[], rfl, SlW.ofNil f W, fun y hy => by simp at hy, by simp⟩
  · simp at hcs
    obtain ⟨rfl, rfl, rfl⟩ := hcs
    simp only [if_true] at hmm
    subst hmm
    simp only [Prod.mk.injEq] at hx
    have hcap : m * Tryz.prog.bytesOf e ≤ 140737488351232 := by
      have := hw ((((List.range n).map D).length + ((List.range (m - n)).map fun j => D (n + j)).length) * Tryz.prog.bytesOf e) (by rw [hx.1]; simp only [DataW.weights, ht]; exact List.mem_cons_self ..)
      rw [List.length_map, List.length_map, List.length_range, List.length_range, show n + (m - n) = m by omega] at this
      exact this
    have key : ∀ i, i < n → ∃ y : α, (∀ j v, (f y)[j]? = some v → W.cell? ((a.add (i * k)).add j) = some v) ∧ Q y := by
      intro i hi
      obtain ⟨cs, h1, h2⟩ := hel i (by omega)
      rw [ce] at h1
      obtain ⟨_, hlen, hcell⟩ := World.cells?_some h1
      obtain ⟨y, rfl, hq⟩ := each cs _ _ hlen h2 (by
        intro z hz
        refine hw z ?_
        rw [hx.1]
        simp only [DataW.weights, ht]
        exact List.mem_cons_of_mem _ (List.mem_append_left _ (weights_mem_all (List.mem_map.2 ⟨i, List.mem_range.2 hi, rfl⟩) z hz)))
      refine ⟨y, fun j v hv => ?_, hq⟩
      have hj : j < k := by rw [← hf y]; exact (List.getElem?_eq_some_iff.1 hv).1
      rw [hcell j hj, hv]
    obtain ⟨Y, hY⟩ : ∃ Y : Fin n → α, ∀ i : Fin n, (∀ j v, (f (Y i))[j]? = some v → W.cell? ((a.add (i.val * k)).add j) = some v) ∧ Q (Y i) :=
      ⟨fun i => (key i.val i.isLt).choose, fun i => (key i.val i.isLt).choose_spec⟩
    have hlen : (List.ofFn Y).length = n := by simp
    refine ⟨List.ofFn Y, hlen, ⟨?_, by rw [hlen]; exact hl, by unfold maxLen at hm; exact hm, fun e => by cases e⟩, ?_, hcap⟩
    · by_cases h0 : n = 0
      · left
        have : (List.ofFn Y) = [] := List.eq_nil_of_length_eq_zero (by rw [hlen, h0])
        rw [this]
        rfl
      · obtain ⟨b, off, spot⟩ := a
        have c0 := (hY ⟨0, by omega⟩).1 0 ((f (Y ⟨0, by omega⟩))[0]'(by rw [hf]; exact hk)) (by simp)
        simp only [Nat.zero_mul] at c0
        have hspot : spot = none := by simpa [Addr.add] using World.cell?_spot c0
        subst hspot
        rw [Addr.add_lit, Addr.add_lit] at c0
        have hlt := lt_of_cell c0
        refine .inr ⟨b, off, rfl, hlt, fun i v hv => ?_⟩
        have hi : i < n * k := by have := (List.getElem?_eq_some_iff.1 hv).1; rw [flat_length hf, hlen] at this; exact this
        have hq : i / k < n := (Nat.div_lt_iff_lt_mul hk).2 hi
        have hr : i % k < k := Nat.mod_lt _ hk
        have hg := flat_get hf (List.ofFn Y) (i / k) (i % k) (Y ⟨i / k, hq⟩) (by simp [hq]) hr
        have hdm : i / k * k + i % k = i := by rw [Nat.mul_comm]; exact Nat.div_add_mod i k
        rw [hdm, hv] at hg
        have := (hY ⟨i / k, hq⟩).1 (i % k) v hg.symm
        rw [Addr.add_lit, Addr.add_lit, Nat.add_assoc] at this
        simp only at this
        rw [hdm] at this
        exact this
    · intro y hy
      obtain ⟨i, hi, rfl⟩ := List.mem_iff_getElem.1 hy
      rw [List.getElem_ofFn]
      exact (hY _).2

end Go.Proofs.YtabeihkfjlmepaaGreatDoor

/-
  Slices of points, two cells an element: what it means that a slice holds a list of points, and how such an argument is opened.
-/
namespace Go.Proofs.YtabeihkfjlmepaaGreatDoor
open Go.RowKit Go.ChangeShapes Go.WideShapes Go.ChangeAt

abbrev Pt := Int × Int

def ptV (p : Pt) : Value := .agg #[.int .i64 p.1, .int .i64 p.2]

def cellsP : List Pt → List Value
  | [] => []
  | p :: r => .int .i64 p.1 :: .int .i64 p.2 :: cellsP r

theorem cellsP_length : ∀ l : List Pt, (cellsP l).length = l.length * 2
  | [] => rfl
  | p :: r => by simp [cellsP, cellsP_length r]; omega

theorem cellsP_append : ∀ l m : List Pt, cellsP (l ++ m) = cellsP l ++ cellsP m
  | [], m => rfl
  | p :: r, m => by simp [cellsP, cellsP_append r m]

theorem cellsP_nil {l : List Pt} (h : cellsP l = []) : l = [] := by
  cases l with
  | nil => rfl
  | cons p r => simp [cellsP] at h

theorem cellsP_get : ∀ (l : List Pt) (k : Nat) (p : Pt), l[k]? = some p → (cellsP l)[k * 2]? = some (.int .i64 p.1) ∧ (cellsP l)[k * 2 + 1]? = some (.int .i64 p.2)
  | [], k, p, h => by simp at h
  | q :: r, 0, p, h => by simp at h; subst h; simp [cellsP]
  | q :: r, k + 1, p, h => by
    have := cellsP_get r k p (by simpa using h)
    rw [show (k + 1) * 2 = k * 2 + 1 + 1 by omega]
    simpa [cellsP] using this

theorem cellsP_drop : ∀ (l : List Pt) (k : Nat), (cellsP l).drop (k * 2) = cellsP (l.drop k)
  | l, 0 => by simp
  | [], k + 1 => by simp [cellsP]
  | q :: r, k + 1 => by
    rw [show (k + 1) * 2 = k * 2 + 1 + 1 by omega]
    simpa [cellsP] using cellsP_drop r k

theorem cellsP_take : ∀ (l : List Pt) (k : Nat), (cellsP l).take (k * 2) = cellsP (l.take k)
  | l, 0 => by simp [cellsP]
  | [], k + 1 => by simp [cellsP]
  | q :: r, k + 1 => by
    rw [show (k + 1) * 2 = k * 2 + 1 + 1 by omega]
    simpa [cellsP] using cellsP_take r k

theorem cellsP_one (l : List Pt) : ∀ v ∈ cellsP l, v.oneCell' = true := by
  induction l with
  | nil => intro v hv; simp [cellsP] at hv
  | cons p r ih =>
    intro v hv
    simp only [cellsP, List.mem_cons] at hv
    rcases hv with rfl | rfl | hv
    · rfl
    · rfl
    · exact ih v hv

/-- A slice of points: its address, its capacity, and the points. -/
structure SlP (w : World) (ao : Option Addr) (cap : Nat) (l : List Pt) : Prop where
  row : Row w ao (cellsP l)
  le : l.length ≤ cap
  max : cap ≤ 9223372036854775807
  nil : ao = none → cap = 0

theorem SlP.keep {w w' : World} {ao : Option Addr} {cap : Nat} {l : List Pt} {B : Nat} (h : SlP w ao cap l) (hb : Below B w w') (hB : w.heap.size ≤ B) : SlP w' ao cap l :=
  ⟨h.row.keep hb hB, h.le, h.max, h.nil⟩

theorem SlP.call {w w' : World} {ao : Option Addr} {cap : Nat} {l : List Pt} (h : SlP w ao cap l) (hb : Below w.heap.size w w') : SlP w' ao cap l := h.keep hb (Nat.le_refl _)

theorem SlP.alloc {w : World} {ao : Option Addr} {cap : Nat} {l : List Pt} (h : SlP w ao cap l) (o : Obj) : SlP (w.alloc o) ao cap l :=
  ⟨h.row.alloc o, h.le, h.max, h.nil⟩

theorem SlP.off {w w' : World} {ao : Option Addr} {cap : Nat} {l : List Pt} {g : Nat} (h : SlP w ao cap l) (hg : w.grownBy w' (some g)) (ho : Off g ao) : SlP w' ao cap l :=
  ⟨h.row.off hg ho, h.le, h.max, h.nil⟩

theorem SlP.drewN {w : World} {ao : Option Addr} {cap : Nat} {l : List Pt} (h : SlP w ao cap l) (n : Nat) : SlP (w.drewN n) ao cap l := ⟨h.row.drewN n, h.le, h.max, h.nil⟩

theorem SlP.ofNil (w : World) : SlP w none 0 [] := ⟨.inl rfl, Nat.le_refl _, by decide, fun _ => rfl⟩

theorem SlP.laid (w : World) (l : List Pt) (cs : Array Value) (hcs : cs.toList = cellsP l) (t : TypeId) (n : Nat) (hn : n = w.heap.size) (cap : Nat) (hc : l.length = cap) (hm : cap ≤ 9223372036854775807) : SlP (w.alloc (.cells cs t)) (some ⟨n, 0, none⟩) cap l := by
  have h := Row.laid w cs.toList t n hn
  rw [Array.toArray_toList, hcs] at h
  exact ⟨h, by omega, hm, fun e => by cases e⟩

theorem SlP.where {w : World} {ao : Option Addr} {cap : Nat} {l : List Pt} (h : SlP w ao cap l) (hne : l ≠ []) : ∃ b off, ao = some ⟨b, off, none⟩ ∧ b < w.heap.size := by
  obtain ⟨b, off, e, hb, _⟩ := h.row.at (fun e => hne (cellsP_nil e))
  exact ⟨b, off, e, hb⟩

theorem SlP.pt {w : World} {b off cap : Nat} {l : List Pt} (h : SlP w (some ⟨b, off, none⟩) cap l) (k : Nat) (hk : k < l.length) :
    ∃ x y, w.cell? ⟨b, off + k * 2, none⟩ = some (.int .i64 x) ∧ w.cell? ⟨b, off + k * 2 + 1, none⟩ = some (.int .i64 y) ∧ l[k]? = some (x, y) ∧ l.drop k = (x, y) :: l.drop (k + 1) := by
  obtain ⟨b', off', e, _, hc⟩ := h.row.at (fun e => by rw [cellsP_nil e] at hk; simp at hk)
  simp only [Option.some.injEq, Addr.mk.injEq, and_true] at e
  obtain ⟨rfl, rfl⟩ := e
  have hg : l[k]? = some (l[k].1, l[k].2) := by simp [hk]
  obtain ⟨h0, h1⟩ := cellsP_get l k _ hg
  exact ⟨_, _, hc _ _ h0, hc _ _ h1, hg, by rw [List.drop_eq_getElem_cons hk]⟩

/-- The first ones of a slice. -/
theorem SlP.front {w : World} {ao : Option Addr} {cap : Nat} {l : List Pt} (h : SlP w ao cap l) (k : Nat) : SlP w ao cap (l.take k) := by
  refine ⟨?_, by have := h.le; rw [List.length_take]; omega, h.max, h.nil⟩
  rcases h.row with h0 | ⟨b, off, e, hb, hc⟩
  · left; rw [cellsP_nil h0]; simp [cellsP]
  · right
    refine ⟨b, off, e, hb, fun i v hv => hc i v ?_⟩
    rw [← cellsP_take] at hv
    rw [List.getElem?_take] at hv
    split at hv
    · exact hv
    · cases hv

theorem SlP.ofOwn {w : World} {base : Nat} {e : TypeId} {n : Nat} {v : Value} {l : List Pt} (h : w.ownsRow base e 2 v n (cellsP l)) : ∃ ao cap, v = .slice ao n cap ∧ SlP w ao cap l ∧ l.length = n ∧ ∀ g, g < base → Off g ao := by
  have hl : l.length = n := by have := h.1; rw [cellsP_length] at this; omega
  rcases h.2 with ⟨rfl, rfl⟩ | ⟨g, cap, cur, rfl, hbg, hh, hnc, hcm, hcs, htk⟩
  · obtain rfl := List.eq_nil_of_length_eq_zero hl
    exact ⟨none, 0, rfl, SlP.ofNil w, rfl, fun _ _ => Off.nil _⟩
  · refine ⟨_, _, rfl, ⟨.inr ⟨g, 0, rfl, (Array.getElem?_eq_some_iff.1 hh).1, fun i u hu => ?_⟩, by omega, by unfold maxLen at hcm; exact hcm, fun e => by cases e⟩, hl, fun g' hg' ad e => by cases e; show g ≠ g'; omega⟩
    rw [Nat.zero_add, h.cellAt i (by have := (List.getElem?_eq_some_iff.1 hu).1; rw [cellsP_length] at this; omega)]
    exact hu

theorem open_points {H : Type} {enc : TypeId × Value → H} {W : World} {t e : TypeId} {f0 f1 : Field} {ao : Option Addr} {n cap : Nat} {d : DataW H} {ps : List MemPlace} (ht : Tryz.prog.underlying t = some (.slice e)) (he : Tryz.prog.underlying e = some (.struct #[f0, f1]))
    (ce : Tryz.prog.cellsOf e = 2) (o0 : f0.offset = 0) (o1 : f1.offset = 1) (c0 : Tryz.prog.cellsOf f0.type = 1) (c1 : Tryz.prog.cellsOf f1.type = 1) (u0 : Tryz.prog.underlying f0.type = some (.int .i64)) (u1 : Tryz.prog.underlying f1.type = some (.int .i64))
    (h : DataW.Trod enc Tryz.prog W 0 (fun _ => true) true t (.slice ao n cap) d ps) :
    ∃ l : List Pt, l.length = n ∧ SlP W ao cap l ∧ (∀ p ∈ l, (Lit.int .i64 p.1).wf = true ∧ (Lit.int .i64 p.2).wf = true) ∧ ((n = 0 ∧ cap = 0) ∨ ∃ elems spare, d = .slice elems spare ∧ elems.length + spare.length = cap) := by
  obtain ⟨fuel, hf⟩ := h
  rcases Go.Deep.open_slice_pairs ht he ce o0 o1 c0 c1 hf with ⟨hcs, _⟩ | ⟨a, len, cp, m, k, V0, V1, D0, D1, P0, P1, hcs, _, hl, hm, hmm, hx, hel⟩
  · simp [Value.cells] at hcs
    obtain ⟨rfl, rfl, rfl⟩ := hcs
    exact ⟨[], rfl, SlP.ofNil W, fun p hp => by simp at hp, .inl ⟨rfl, rfl⟩⟩
  · simp [Value.cells] at hcs
    obtain ⟨rfl, rfl, rfl⟩ := hcs
    simp only [if_true] at hmm
    subst hmm
    simp only [Prod.mk.injEq] at hx
    have key : ∀ i, i < n → (V0 i = .int .i64 (intOf (V0 i)) ∧ (Lit.int .i64 (intOf (V0 i))).wf = true) ∧ (V1 i = .int .i64 (intOf (V1 i)) ∧ (Lit.int .i64 (intOf (V1 i))).wf = true) := by
      intro i hi
      obtain ⟨_, _, t0, t1⟩ := hel i (by omega)
      obtain ⟨z0, hb0, _, hw0⟩ := DataW.trod_int u0 t0
      obtain ⟨z1, hb1, _, hw1⟩ := DataW.trod_int u1 t1
      simp at hb0 hb1
      rw [hb0, hb1]
      exact ⟨⟨rfl, hw0⟩, ⟨rfl, hw1⟩⟩
    refine ⟨(List.range n).map fun i => (intOf (V0 i), intOf (V1 i)), by simp, ⟨?_, by simpa using hl, by unfold maxLen at hm; exact hm, fun e => by cases e⟩, ?_, .inr ⟨_, _, hx.1, by simp; omega⟩⟩
    · by_cases h0 : n = 0
      · subst h0; exact .inl rfl
      · obtain ⟨b, off, spot⟩ := a
        have c0 := (hel 0 (by omega)).1
        have hspot : spot = none := by simpa [Addr.add] using World.cell?_spot c0
        subst hspot
        have hlt := lt_of_cell c0
        refine .inr ⟨b, off, rfl, by simpa [Addr.add] using hlt, fun i v hv => ?_⟩
        have hi : i < n * 2 := by have := (List.getElem?_eq_some_iff.1 hv).1; rw [cellsP_length] at this; simpa using this
        have hk : i / 2 < n := by omega
        have hg := cellsP_get ((List.range n).map fun i => (intOf (V0 i), intOf (V1 i))) (i / 2) (intOf (V0 (i / 2)), intOf (V1 (i / 2))) (by simp [hk])
        obtain ⟨e0, e1, _, _⟩ := hel (i / 2) (by omega)
        obtain ⟨⟨k0, _⟩, ⟨k1, _⟩⟩ := key (i / 2) hk
        rcases Nat.mod_two_eq_zero_or_one i with hm2 | hm2
        · have hi2 : i / 2 * 2 = i := by omega
          rw [hi2] at hg e0
          rw [hg.1] at hv
          rw [Addr.add_lit, k0] at e0
          rw [e0, hv]
        · have hi2 : i / 2 * 2 + 1 = i := by omega
          rw [hi2] at hg e1
          rw [hg.2] at hv
          rw [Addr.add_lit, k1] at e1
          rw [e1, hv]
    · intro p hp
      obtain ⟨i, hi, rfl⟩ := List.mem_map.1 hp
      have := key i (by simpa using hi)
      exact ⟨this.1.2, this.2.2⟩

end Go.Proofs.YtabeihkfjlmepaaGreatDoor

/-
  Points as the document tells of them: what is wrong with a list of points (chk), their bits (pk), and the points of bits (unp); no program is named.
-/
namespace Go.Proofs.YtabeihkfjlmepaaGreatDoor
open Go.RowKit

def ptOk (p : Pt) : Bool := decide (0 ≤ p.1 ∧ p.1 ≤ 100000 ∧ -1000000 ≤ p.2 ∧ p.2 ≤ 1000000)

def chk : Int → List Pt → Int
  | _, [] => 0
  | last, p :: r => if ptOk p = false then 3 else if p.1 ≤ last then 7 else chk p.1 r

def checkE (l : List Pt) : Int := if 40 < l.length then 2 else chk (-1) l

def pk : Int → Int → Int → List Pt → List Bool
  | _, _, _, [] => []
  | t, v, s, p :: r => code 8 (foldN (p.1 - t - s)) ++ code 8 (foldN (p.2 - v)) ++ pk p.1 p.2 (p.1 - t) r

def packL (l : List Pt) : List Bool := if checkE l = 0 then pk 0 0 0 l else []

def unp : Nat → Int → Int → Int → Int → List Bool → List Pt × Int
  | 0, _, _, _, _, b => ([], if b.length = 0 then 0 else 8)
  | n + 1, t, v, s, last, b =>
    if zigF b ≠ 0 then ([], zigF b) else
    if zigF (zigR b) ≠ 0 then ([], zigF (zigR b)) else
    if ptOk (t + (s + zigN b), v + zigN (zigR b)) = false then ([], 3) else
    if t + (s + zigN b) ≤ last then ([], 7) else
    (if (unp n (t + (s + zigN b)) (v + zigN (zigR b)) (s + zigN b) (t + (s + zigN b)) (zigR (zigR b))).2 = 0 then (t + (s + zigN b), v + zigN (zigR b)) :: (unp n (t + (s + zigN b)) (v + zigN (zigR b)) (s + zigN b) (t + (s + zigN b)) (zigR (zigR b))).1 else [],
      (unp n (t + (s + zigN b)) (v + zigN (zigR b)) (s + zigN b) (t + (s + zigN b)) (zigR (zigR b))).2)

def unpIn (n : Int) : Bool := decide (0 ≤ n ∧ n ≤ 40)
def unpL (b : List Bool) (n : Int) : List Pt := if unpIn n then (unp n.toNat 0 0 0 (-1) b).1 else []
def unpE (b : List Bool) (n : Int) : Int := if unpIn n then (unp n.toNat 0 0 0 (-1) b).2 else 2

theorem ptOk_true {p : Pt} (h : ptOk p = true) : 0 ≤ p.1 ∧ p.1 ≤ 100000 ∧ -1000000 ≤ p.2 ∧ p.2 ≤ 1000000 := of_decide_eq_true h
theorem ptOk_false {p : Pt} (h : ptOk p = false) : ¬ (0 ≤ p.1 ∧ p.1 ≤ 100000 ∧ -1000000 ≤ p.2 ∧ p.2 ≤ 1000000) := of_decide_eq_false h

def lastT : Int → List Pt → Int
  | a, [] => a
  | _, p :: r => lastT p.1 r

theorem lastT_snoc : ∀ (a : Int) (l : List Pt) (p : Pt), lastT a (l ++ [p]) = p.1
  | _, [], p => rfl
  | _, q :: r, p => by simpa [lastT] using lastT_snoc q.1 r p

theorem chk_append : ∀ (a : Int) (l m : List Pt), chk a (l ++ m) = if chk a l = 0 then chk (lastT a l) m else chk a l
  | a, [], m => by simp [chk, lastT]
  | a, q :: r, m => by
    simp only [List.cons_append, chk, lastT]
    split
    · simp
    split
    · simp
    · exact chk_append q.1 r m

theorem chk_cons {a : Int} {p : Pt} {r : List Pt} (h : chk a (p :: r) = 0) : ptOk p = true ∧ a < p.1 ∧ chk p.1 r = 0 := by
  unfold chk at h
  split at h
  · cases h
  split at h
  · cases h
  rename_i h1 h2
  exact ⟨by simpa using h1, by omega, h⟩

/-- Numbers of points that may be, told by the one ahead, can be written. -/
theorem zig_fits {t v s last : Int} {p : Pt} {r : List Pt} (h : chk last (p :: r) = 0) (ht : 0 ≤ t ∧ t ≤ 100000) (hl : t ≤ last + 1) (hv : -1000000 ≤ v ∧ v ≤ 1000000) (hs : 0 ≤ s ∧ s ≤ 100000) :
    zigOk (p.1 - t - s) = true ∧ zigOk (p.2 - v) = true ∧ (0 ≤ p.1 ∧ p.1 ≤ 100000) ∧ (-1000000 ≤ p.2 ∧ p.2 ≤ 1000000) ∧ (0 ≤ p.1 - t ∧ p.1 - t ≤ 100000) := by
  obtain ⟨h1, h2, _⟩ := chk_cons h
  have h3 := ptOk_true h1
  refine ⟨decide_eq_true ?_, decide_eq_true ?_, ?_, ?_, ?_⟩ <;> omega

theorem pk_length : ∀ (t v s : Int) (l : List Pt), (pk t v s l).length ≤ 64 * l.length
  | _, _, _, [] => by simp [pk]
  | t, v, s, p :: r => by
    have h1 := code_len_le 8 (foldN (p.1 - t - s))
    have h2 := code_len_le 8 (foldN (p.2 - v))
    have h3 := pk_length p.1 p.2 (p.1 - t) r
    simp only [pk, List.length_append, List.length_cons]
    omega

theorem chk_errs : ∀ (a : Int) (l : List Pt), chk a l = 0 ∨ chk a l = 3 ∨ chk a l = 7
  | _, [] => .inl rfl
  | a, p :: r => by
    unfold chk
    split
    · simp
    split
    · simp
    · exact chk_errs p.1 r

theorem zigN_bound {b : List Bool} (h : zigF b = 0) : -4000000 ≤ zigN b ∧ zigN b ≤ 4000000 := of_decide_eq_true (zig_put b h).1

end Go.Proofs.YtabeihkfjlmepaaGreatDoor
