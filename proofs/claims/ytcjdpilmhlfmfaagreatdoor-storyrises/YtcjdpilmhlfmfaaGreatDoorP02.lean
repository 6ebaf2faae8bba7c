/-
  How arguments are opened: a slice of bools, a slice of ints, as the walks are told of them.
-/
import Derived.SizedLaws
import Derived.ChangeOld
import Derived.Below
import Derived.Deep.Slices
import Derived.Deep.SlicePairs
import Derived.Laws.CopyOwn
import Derived.Test.YtcjdpilmhlfmfaaGreatDoorP01
namespace Go.Proofs.YtcjdpilmhlfmfaaGreatDoor
open Go.RowKit Go.ChangeShapes Go.WideShapes Go.ChangeAt

theorem own : ownKnob Tryz.prog.godebug = none := by kernel_rfl
theorem laidOut : laidOutB Tryz.prog = true := by kernel_rfl

theorem lt_of_cell {w : World} {a : Addr} {v : Value} (h : w.cell? a = some v) : a.block < w.heap.size := by
  unfold World.cell? at h
  cases hh : w.heap[a.block]? with
  | none => rw [hh] at h; cases h
  | some o => exact (Array.getElem?_eq_some_iff.1 hh).1

end Go.Proofs.YtcjdpilmhlfmfaaGreatDoor

/-
  Slices of points, two cells an element: what it means that a slice holds a list of points, and how such an argument is opened.
-/
namespace Go.Proofs.YtcjdpilmhlfmfaaGreatDoor
open Go.RowKit Go.ChangeShapes Go.WideShapes Go.ChangeAt

abbrev Pt := Int × Int

def cellsP : List Pt → List Value
  | [] => []
  | p :: r => .int .i64 p.1 :: .int .i64 p.2 :: cellsP r

theorem cellsP_length : ∀ l : List Pt, (cellsP l).length = l.length * 2
  | [] => rfl
  | p :: r => by simp [cellsP, cellsP_length r]; omega

theorem cellsP_append : ∀ l m : List Pt, cellsP (l ++ m) = cellsP l ++ cellsP m
  | [], m => rfl
  | p :: r, m => by simp [cellsP, cellsP_append r m]

theorem cellsP_nil {l : List Pt} (h : cellsP l = []) : l = [] := by
  cases l with
  | nil => rfl
  | cons p r => simp [cellsP] at h

theorem cellsP_get : ∀ (l : List Pt) (k : Nat) (p : Pt), l[k]? = some p → (cellsP l)[k * 2]? = some (.int .i64 p.1) ∧ (cellsP l)[k * 2 + 1]? = some (.int .i64 p.2)
  | [], k, p, h => by simp at h
  | q :: r, 0, p, h => by simp at h; subst h; simp [cellsP]
  | q :: r, k + 1, p, h => by
    have := cellsP_get r k p (by simpa using h)
    rw [show (k + 1) * 2 = k * 2 + 1 + 1 by omega]
    simpa [cellsP] using this

theorem cellsP_drop : ∀ (l : List Pt) (k : Nat), (cellsP l).drop (k * 2) = cellsP (l.drop k)
  | l, 0 => by simp
  | [], k + 1 => by simp [cellsP]
  | q :: r, k + 1 => by
    rw [show (k + 1) * 2 = k * 2 + 1 + 1 by omega]
    simpa [cellsP] using cellsP_drop r k

theorem cellsP_take : ∀ (l : List Pt) (k : Nat), (cellsP l).take (k * 2) = cellsP (l.take k)
  | l, 0 => by simp [cellsP]
  | [], k + 1 => by simp [cellsP]
  | q :: r, k + 1 => by
    rw [show (k + 1) * 2 = k * 2 + 1 + 1 by omega]
    simpa [cellsP] using cellsP_take r k

theorem cellsP_one (l : List Pt) : ∀ v ∈ cellsP l, v.oneCell' = true := by
  induction l with
  | nil => intro v hv; simp [cellsP] at hv
  | cons p r ih =>
    intro v hv
    simp only [cellsP, List.mem_cons] at hv
    rcases hv with rfl | rfl | hv
    · rfl
    · rfl
    · exact ih v hv

/-- A slice of points: its address, its capacity, and the points. -/
structure SlP (w : World) (ao : Option Addr) (cap : Nat) (l : List Pt) : Prop where
  row : Row w ao (cellsP l)
  le : l.length ≤ cap
  max : cap ≤ 9223372036854775807
  nil : ao = none → cap = 0

theorem SlP.keep {w w' : World} {ao : Option Addr} {cap : Nat} {l : List Pt} {B : Nat} (h : SlP w ao cap l) (hb : Below B w w') (hB : w.heap.size ≤ B) : SlP w' ao cap l :=
  ⟨h.row.keep hb hB, h.le, h.max, h.nil⟩

theorem SlP.call {w w' : World} {ao : Option Addr} {cap : Nat} {l : List Pt} (h : SlP w ao cap l) (hb : Below w.heap.size w w') : SlP w' ao cap l := h.keep hb (Nat.le_refl _)

theorem SlP.alloc {w : World} {ao : Option Addr} {cap : Nat} {l : List Pt} (h : SlP w ao cap l) (o : Obj) : SlP (w.alloc o) ao cap l :=
  ⟨h.row.alloc o, h.le, h.max, h.nil⟩

theorem SlP.drewN {w : World} {ao : Option Addr} {cap : Nat} {l : List Pt} (h : SlP w ao cap l) (n : Nat) : SlP (w.drewN n) ao cap l := ⟨h.row.drewN n, h.le, h.max, h.nil⟩

theorem SlP.ofNil (w : World) : SlP w none 0 [] := ⟨.inl rfl, Nat.le_refl _, by decide, fun _ => rfl⟩

theorem SlP.where {w : World} {ao : Option Addr} {cap : Nat} {l : List Pt} (h : SlP w ao cap l) (hne : l ≠ []) : ∃ b off, ao = some ⟨b, off, none⟩ ∧ b < w.heap.size := by
  obtain ⟨b, off, e, hb, _⟩ := h.row.at (fun e => hne (cellsP_nil e))
  exact ⟨b, off, e, hb⟩

theorem SlP.pt {w : World} {b off cap : Nat} {l : List Pt} (h : SlP w (some ⟨b, off, none⟩) cap l) (k : Nat) (hk : k < l.length) :
    ∃ x y, w.cell? ⟨b, off + k * 2, none⟩ = some (.int .i64 x) ∧ w.cell? ⟨b, off + k * 2 + 1, none⟩ = some (.int .i64 y) ∧ l[k]? = some (x, y) ∧ l.drop k = (x, y) :: l.drop (k + 1) := by
  obtain ⟨b', off', e, _, hc⟩ := h.row.at (fun e => by rw [cellsP_nil e] at hk; simp at hk)
  simp only [Option.some.injEq, Addr.mk.injEq, and_true] at e
  obtain ⟨rfl, rfl⟩ := e
  have hg : l[k]? = some (l[k].1, l[k].2) := by simp [hk]
  obtain ⟨h0, h1⟩ := cellsP_get l k _ hg
  exact ⟨_, _, hc _ _ h0, hc _ _ h1, hg, by rw [List.drop_eq_getElem_cons hk]⟩

/-- The first ones of a slice. -/
theorem SlP.front {w : World} {ao : Option Addr} {cap : Nat} {l : List Pt} (h : SlP w ao cap l) (k : Nat) : SlP w ao cap (l.take k) := by
  refine ⟨?_, by have := h.le; rw [List.length_take]; omega, h.max, h.nil⟩
  rcases h.row with h0 | ⟨b, off, e, hb, hc⟩
  · left; rw [cellsP_nil h0]; simp [cellsP]
  · right
    refine ⟨b, off, e, hb, fun i v hv => hc i v ?_⟩
    rw [← cellsP_take] at hv
    rw [List.getElem?_take] at hv
    split at hv
    · exact hv
    · cases hv

theorem SlP.ofOwn {w : World} {base : Nat} {e : TypeId} {n : Nat} {v : Value} {l : List Pt} (h : w.ownsRow base e 2 v n (cellsP l)) : ∃ ao cap, v = .slice ao n cap ∧ SlP w ao cap l ∧ l.length = n ∧ ∀ g, g < base → Off g ao := by
  have hl : l.length = n := by have := h.1; rw [cellsP_length] at this; omega
  rcases h.2 with ⟨rfl, rfl⟩ | ⟨g, cap, cur, rfl, hbg, hh, hnc, hcm, hcs, htk⟩
  · obtain rfl := List.eq_nil_of_length_eq_zero hl
    exact ⟨none, 0, rfl, SlP.ofNil w, rfl, fun _ _ => Off.nil _⟩
  · refine ⟨_, _, rfl, ⟨.inr ⟨g, 0, rfl, (Array.getElem?_eq_some_iff.1 hh).1, fun i u hu => ?_⟩, by omega, by unfold maxLen at hcm; exact hcm, fun e => by cases e⟩, hl, fun g' hg' ad e => by cases e; show g ≠ g'; omega⟩
    rw [Nat.zero_add, h.cellAt i (by have := (List.getElem?_eq_some_iff.1 hu).1; rw [cellsP_length] at this; omega)]
    exact hu

end Go.Proofs.YtcjdpilmhlfmfaaGreatDoor

/-
  Points as the document tells of them: what is wrong with a list of points (chk), their bits (pk), and the points of bits (unp); no program is named.
-/
namespace Go.Proofs.YtcjdpilmhlfmfaaGreatDoor
open Go.RowKit

def ptOk (p : Pt) : Bool := decide (0 ≤ p.1 ∧ p.1 ≤ 100000 ∧ -1000000 ≤ p.2 ∧ p.2 ≤ 1000000)

def chk : Int → List Pt → Int
  | _, [] => 0
  | last, p :: r => if ptOk p = false then 3 else if p.1 ≤ last then 7 else chk p.1 r

def checkE (l : List Pt) : Int := if 40 < l.length then 2 else chk (-1) l

def pk : Int → Int → Int → List Pt → List Bool
  | _, _, _, [] => []
  | t, v, s, p :: r => code 8 (foldN (p.1 - t - s)) ++ code 8 (foldN (p.2 - v)) ++ pk p.1 p.2 (p.1 - t) r

def packL (l : List Pt) : List Bool := if checkE l = 0 then pk 0 0 0 l else []

def unp : Nat → Int → Int → Int → Int → List Bool → List Pt × Int
  | 0, _, _, _, _, b => ([], if b.length = 0 then 0 else 8)
  | n + 1, t, v, s, last, b =>
    if zigF b ≠ 0 then ([], zigF b) else
    if zigF (zigR b) ≠ 0 then ([], zigF (zigR b)) else
    if ptOk (t + (s + zigN b), v + zigN (zigR b)) = false then ([], 3) else
    if t + (s + zigN b) ≤ last then ([], 7) else
    (if (unp n (t + (s + zigN b)) (v + zigN (zigR b)) (s + zigN b) (t + (s + zigN b)) (zigR (zigR b))).2 = 0 then (t + (s + zigN b), v + zigN (zigR b)) :: (unp n (t + (s + zigN b)) (v + zigN (zigR b)) (s + zigN b) (t + (s + zigN b)) (zigR (zigR b))).1 else [],
      (unp n (t + (s + zigN b)) (v + zigN (zigR b)) (s + zigN b) (t + (s + zigN b)) (zigR (zigR b))).2)

def unpIn (n : Int) : Bool := decide (0 ≤ n ∧ n ≤ 40)
def unpL (b : List Bool) (n : Int) : List Pt := if unpIn n then (unp n.toNat 0 0 0 (-1) b).1 else []
def unpE (b : List Bool) (n : Int) : Int := if unpIn n then (unp n.toNat 0 0 0 (-1) b).2 else 2

theorem ptOk_true {p : Pt} (h : ptOk p = true) : 0 ≤ p.1 ∧ p.1 ≤ 100000 ∧ -1000000 ≤ p.2 ∧ p.2 ≤ 1000000 := of_decide_eq_true h
def lastT : Int → List Pt → Int
  | a, [] => a
  | _, p :: r => lastT p.1 r

theorem lastT_snoc : ∀ (a : Int) (l : List Pt) (p : Pt), lastT a (l ++ [p]) = p.1
  | _, [], p => rfl
  | _, q :: r, p => by simpa [lastT] using lastT_snoc q.1 r p

theorem chk_append : ∀ (a : Int) (l m : List Pt), chk a (l ++ m) = if chk a l = 0 then chk (lastT a l) m else chk a l
  | a, [], m => by simp [chk, lastT]
  | a, q :: r, m => by
    simp only [List.cons_append, chk, lastT]
    split
    · simp
    split
    · simp
    · exact chk_append q.1 r m

theorem chk_cons {a : Int} {p : Pt} {r : List Pt} (h : chk a (p :: r) = 0) : ptOk p = true ∧ a < p.1 ∧ chk p.1 r = 0 := by
  unfold chk at h
  split at h
  · cases h
  split at h
  · cases h
  rename_i h1 h2
  exact ⟨by simpa using h1, by omega, h⟩

/-- Numbers of points that may be, told by the one ahead, can be written. -/
theorem zig_fits {t v s last : Int} {p : Pt} {r : List Pt} (h : chk last (p :: r) = 0) (ht : 0 ≤ t ∧ t ≤ 100000) (hl : t ≤ last + 1) (hv : -1000000 ≤ v ∧ v ≤ 1000000) (hs : 0 ≤ s ∧ s ≤ 100000) :
    zigOk (p.1 - t - s) = true ∧ zigOk (p.2 - v) = true ∧ (0 ≤ p.1 ∧ p.1 ≤ 100000) ∧ (-1000000 ≤ p.2 ∧ p.2 ≤ 1000000) ∧ (0 ≤ p.1 - t ∧ p.1 - t ≤ 100000) := by
  obtain ⟨h1, h2, _⟩ := chk_cons h
  have h3 := ptOk_true h1
  refine ⟨decide_eq_true ?_, decide_eq_true ?_, ?_, ?_, ?_⟩ <;> omega

theorem pk_length : ∀ (t v s : Int) (l : List Pt), (pk t v s l).length ≤ 64 * l.length
  | _, _, _, [] => by simp [pk]
  | t, v, s, p :: r => by
    have h1 := code_len_le 8 (foldN (p.1 - t - s))
    have h2 := code_len_le 8 (foldN (p.2 - v))
    have h3 := pk_length p.1 p.2 (p.1 - t) r
    simp only [pk, List.length_append, List.length_cons]
    omega

theorem zigN_bound {b : List Bool} (h : zigF b = 0) : -4000000 ≤ zigN b ∧ zigN b ≤ 4000000 := of_decide_eq_true (zig_put b h).1

end Go.Proofs.YtcjdpilmhlfmfaaGreatDoor

/-
  line.inRange and line.Check: what they return; nothing that was there is written.
-/
namespace Go.Proofs.YtcjdpilmhlfmfaaGreatDoor
open Go.RowKit

theorem inRange_any (x y : Int) (w : World) :
    Calls Tryz.prog 55 #[.agg #[.int .i64 x, .int .i64 y]] w fun e w' => e = .returned (.bool (ptOk (x, y))) ∧ Below w.heap.size w w' := by
  by_cases h1 : 0 ≤ x
  · by_cases h2 : x ≤ 100000
    · by_cases h3 : -1000000 ≤ y
      · by_cases h4 : y ≤ 1000000
        · have e : ptOk (x, y) = true := decide_eq_true ⟨h1, h2, h3, h4⟩
          rw [e]
          clear e
          go_enter Tryz.func55, Tryz.ntmps55
          go_wp2
          go_ret
          exact ⟨rfl, (Below.refl _ _).alloc (Nat.le_refl _) _⟩
        · have e : ptOk (x, y) = false := decide_eq_false (fun h => h4 h.2.2.2)
          rw [e]
          clear e
          go_enter Tryz.func55, Tryz.ntmps55
          go_wp2
          go_ret
          exact ⟨rfl, (Below.refl _ _).alloc (Nat.le_refl _) _⟩
      · have e : ptOk (x, y) = false := decide_eq_false (fun h => h3 h.2.2.1)
        rw [e]
        clear e
        go_enter Tryz.func55, Tryz.ntmps55
        go_wp2
        go_ret
        exact ⟨rfl, (Below.refl _ _).alloc (Nat.le_refl _) _⟩
    · have e : ptOk (x, y) = false := decide_eq_false (fun h => h2 h.2.1)
      rw [e]
      clear e
      go_enter Tryz.func55, Tryz.ntmps55
      go_wp2
      go_ret
      exact ⟨rfl, (Below.refl _ _).alloc (Nat.le_refl _) _⟩
  · have e : ptOk (x, y) = false := decide_eq_false (fun h => h1 h.1)
    rw [e]
    clear e
    go_enter Tryz.func55, Tryz.ntmps55
    go_wp2
    go_ret
    exact ⟨rfl, (Below.refl _ _).alloc (Nat.le_refl _) _⟩

set_option maxHeartbeats 1000000 in
set_option maxRecDepth 100000 in
theorem check_any (ao : Option Addr) (cap : Nat) (l : List Pt) (w : World) (hr : SlP w ao cap l) :
    Calls Tryz.prog 24 #[.slice ao l.length cap] w fun e w' => e = .returned (.int .i64 (checkE l)) ∧ Below w.heap.size w w' := by
  by_cases h40 : 40 < l.length
  · have h40' : (40 : Int) < l.length := by omega
    have e : checkE l = 2 := if_pos h40
    rw [e]
    clear e h40
    go_enter Tryz.func24, Tryz.ntmps24
    go_wp2
    go_ret
    exact ⟨rfl, Below.refl _ _⟩
  · have e : checkE l = chk (-1) l := if_neg h40
    rw [e]
    clear e
    obtain ⟨C, hC⟩ : ∃ C, C = chk (-1) l := ⟨_, rfl⟩
    rw [← hC]
    obtain ⟨n, hn⟩ : ∃ n, n = l.length := ⟨_, rfl⟩
    rw [← hn] at h40 ⊢
    have HL := hide hn
    have HC : Hid (C = chk (-1) (l.drop 0)) := by rw [List.drop_zero]; exact hC
    clear hn hC
    have h40' : ¬ (40 : Int) < (n : Int) := by omega
    go_enter Tryz.func24, Tryz.ntmps24
    go_wp2
    go_loopw [10] (fun i wr => ∃ (k : Nat) (last : Int), k ≤ n ∧ i = .int .i64 k ∧ Hid (C = chk last (l.drop k)) ∧ Hid ((k = 0 ∧ last = -1) ∨ ∃ j y, k = j + 1 ∧ l[j]? = some (last, y)) ∧ Below w.heap.size w wr) (fun i _ => n - (intOf i).toNat)
    case atStart => exact ⟨0, -1, by omega, rfl, HC, hide (.inl ⟨rfl, rfl⟩), Below.refl _ _⟩
    case round =>
      obtain ⟨k, last, hk, rfl, HR, HK, bel⟩ := hrel
      clear HC
      by_cases hlt : k < n
      · have hs := hr.keep bel (Nat.le_refl _)
        obtain ⟨b, off, rfl, hbw⟩ := hs.where (by intro h; rw [HL.out, h] at hlt; simp at hlt)
        obtain ⟨x, y, e0, e1, hx, hd⟩ := hs.pt k (by rw [← HL.out]; exact hlt)
        have HX := hide hx
        have HR' : Hid (C = chk last ((x, y) :: l.drop (k + 1))) := by have := HR.out; rw [hd] at this; exact this
        clear HR hx hd
        have inr : ∀ W : World, (wr.alloc (.cells #[.int .i64 x, .int .i64 y] 50)) = W → Calls Tryz.prog 55 #[.agg #[.int .i64 x, .int .i64 y]] W fun e w1 => e = .returned (.bool (ptOk (x, y))) ∧ Below w.heap.size w w1 ∧ w1.cell? ⟨wr.heap.size, 0, none⟩ = some (.int .i64 x) ∧ SlP w1 (some ⟨b, off, none⟩) cap l := by
          rintro W rfl
          refine (inRange_any x y _).mono ?_
          rintro e w1 ⟨rfl, b1⟩
          refine ⟨rfl, belowCall (bel.alloc bel.size _) b1, ?_, (hs.alloc _).call b1⟩
          rw [b1.cell (p := ⟨wr.heap.size, 0, none⟩) (by simp), World.cell?_alloc_at (hn := rfl)]
          rfl
        cases hp : ptOk (x, y) with
        | false =>
          rw [hp] at inr
          go_wp2_with (go_at_call 55; refine (inr _ rfl).mono ?_; rintro e w1 ⟨rfl, b1, -, -⟩)
          go_ret
          refine ⟨ret_int ?_, b1⟩
          rw [HR'.out, chk, if_pos hp]
        | true =>
          rw [hp] at inr
          rcases HK.out with ⟨rfl, rfl⟩ | ⟨j, yy, rfl, hj⟩
          · clear HK
            rw [Nat.zero_mul, Nat.add_zero] at e0 e1
            go_wp2_with (go_at_call 55; refine (inr _ rfl).mono ?_; rintro e w1 ⟨rfl, b1, c1, s1⟩)
            go_region
            all_goals go_wp2
            all_goals go_roundw
            case rel =>
              refine ⟨1, x, by omega, by go_num, hide ?_, hide (.inr ⟨0, y, rfl, HX.out⟩), belowDrew b1⟩
              rw [HR'.out, chk, if_neg (by rw [hp]; decide), if_neg (by have := (ptOk_true hp).1; simp only at this ⊢; omega)]
            case measure => simp [intOf]; omega
          · clear HK
            have hj' := hide hj
            clear hj
            by_cases hle : x ≤ last
            · go_wp2_with (go_at_call 55; refine (inr _ rfl).mono ?_; rintro e w1 ⟨rfl, b1, c1, s1⟩)
              obtain ⟨x', y', e2, -, h2, -⟩ := s1.pt j (by rw [← HL.out]; omega)
              obtain rfl : last = x' := by rw [hj'.out] at h2; simpa using (Prod.ext_iff.1 (Option.some.inj h2)).1
              clear h2
              go_region
              all_goals go_wp2
              all_goals go_ret
              refine ⟨ret_int ?_, belowDrew b1⟩
              rw [HR'.out, chk, if_neg (by rw [hp]; decide), if_pos hle]
            · go_wp2_with (go_at_call 55; refine (inr _ rfl).mono ?_; rintro e w1 ⟨rfl, b1, c1, s1⟩)
              obtain ⟨x', y', e2, -, h2, -⟩ := s1.pt j (by rw [← HL.out]; omega)
              obtain rfl : last = x' := by rw [hj'.out] at h2; simpa using (Prod.ext_iff.1 (Option.some.inj h2)).1
              clear h2
              go_region
              all_goals go_wp2
              all_goals go_roundw
              case rel =>
                refine ⟨j + 1 + 1, x, by omega, by go_num, hide ?_, hide (.inr ⟨j + 1, y, rfl, HX.out⟩), belowDrew b1⟩
                rw [HR'.out, chk, if_neg (by rw [hp]; decide), if_neg (by simp only; omega)]
              case measure => simp [intOf]; omega
      · obtain rfl : k = n := by omega
        go_wp2_with fail
        go_ret
        refine ⟨ret_int ?_, bel⟩
        rw [HR.out, HL.out, List.drop_length, chk]

end Go.Proofs.YtcjdpilmhlfmfaaGreatDoor

/-
  The small functions: widthFits, numberFits of package bits: what each returns; none touches memory.
-/
namespace Go.Proofs.YtcjdpilmhlfmfaaGreatDoor
open Go.RowKit

theorem widthFits_any (width : Int) (w : World) :
    Calls Tryz.prog 244 #[.int .i64 width] w fun e w' => e = .returned (.bool (okW width)) ∧ w = w' := by
  cases h : okW width with
  | true =>
    obtain ⟨h0, h1⟩ := okW_true h
    clear h
    go_enter Tryz.func244, Tryz.ntmps244
    go_wp2
    go_ret
    exact ⟨rfl, rfl⟩
  | false =>
    have h' := okW_false h
    clear h
    by_cases h0 : 0 ≤ width
    · have h1 : ¬ width ≤ 40 := by omega
      clear h'
      go_enter Tryz.func244, Tryz.ntmps244
      go_wp2
      go_ret
      exact ⟨rfl, rfl⟩
    · clear h'
      go_enter Tryz.func244, Tryz.ntmps244
      go_wp2
      go_ret
      exact ⟨rfl, rfl⟩

theorem numberFits_any (n width : Int) (w : World) (hw : okW width = true) :
    Calls Tryz.prog 245 #[.int .i64 n, .int .i64 width] w fun e w' => e = .returned (.bool (okN n width)) ∧ w = w' := by
  obtain ⟨h0, h1⟩ := okW_true hw
  clear hw
  by_cases hn : 0 ≤ n
  · rw [okN_shift hn]
    cases h : (n / 2 ^ width.toNat == 0) with
    | true =>
      go_enter Tryz.func245, Tryz.ntmps245
      go_wp2
      go_ret
      exact ⟨rfl, rfl⟩
    | false =>
      go_enter Tryz.func245, Tryz.ntmps245
      go_wp2
      go_ret
      exact ⟨rfl, rfl⟩
  · have e : okN n width = false := by unfold okN; simp; omega
    rw [e]
    clear e
    go_enter Tryz.func245, Tryz.ntmps245
    go_wp2
    go_ret
    exact ⟨rfl, rfl⟩

end Go.Proofs.YtcjdpilmhlfmfaaGreatDoor

/-
  bits.Put: what it returns, for every list, number and width; its answer lies in new memory; nothing that was there is written.
-/
namespace Go.Proofs.YtcjdpilmhlfmfaaGreatDoor
open Go.RowKit

theorem infoBool : (Tryz.prog.info? 4).map (fun i => (i.zero, i.size, i.bytes)) = some (some (.bool false), 1, 1) := by kernel_rfl
/-- What make has laid, as a block. -/
theorem madeBlk {w' : World} {g n : Nat} {z : Value} {t : TypeId} (h : w'.ownsRow g t 1 (.slice (some ⟨g, 0, none⟩) n n) n (madeCells #[z] n).toList) : Blk w' g (List.replicate n z) t := by
  rcases h.2 with ⟨h', _⟩ | ⟨g', cap', cur, h', _, hg, _, _, hs, htake⟩
  · simp at h'
  · simp only [Value.slice.injEq, Option.some.injEq, Addr.mk.injEq, and_true, true_and] at h'
    obtain ⟨rfl, rfl⟩ := h'
    unfold Blk
    rw [toList_madeCells_one] at htake
    rw [hg, ← htake, List.take_of_length_le (by simp [hs])]

set_option maxHeartbeats 1000000 in
set_option maxRecDepth 100000 in
theorem put_ok (ao : Option Addr) (cap : Nat) (l : List Bool) (n : Int) (k : Nat) (w : World) (hr : Row w ao (l.map Value.bool)) (hk : k ≤ 40) (hn : okN n k = true) (hl : l.length ≤ 140737488355200) :
    Calls Tryz.prog 243 #[.slice ao l.length cap, .int .i64 n, .int .i64 k] w fun e w' =>
      e = .returned (.tuple #[.slice (some ⟨w.heap.size, 0, none⟩) (l.length + k) (l.length + k), .int .i64 0]) ∧ Blk w' w.heap.size ((l ++ bitsOf n k).map Value.bool) 4 ∧ Below w.heap.size w w' := by
  have hw : okW (k : Int) = true := by unfold okW; simp; omega
  obtain ⟨i0, hi, hz0, hz1, hz2⟩ := info_parts infoBool
  go_enter Tryz.func243, Tryz.ntmps243
  go_wp2_with (first | (go_at_call 244; refine (widthFits_any _ _).mono ?_; rintro e w' ⟨rfl, rfl⟩) | (go_at_call 245; refine (numberFits_any _ _ _ hw).mono ?_; rintro e w' ⟨rfl, rfl⟩) | (at_make; refine wpList_make_full _ rfl (.tmp 22) (.tmp 22) 91 rfl w.heap.size 4 i0 (.bool false) 1 Tryz.underlying91 hi hz0 hz1 _ _ _ _ (l.length + k) rfl rfl (by omega) (by omega) (by rw [hz2]; omega) (by unfold maxLen; omega) (Nat.le_refl _) ?_))
  intro w1 hown hgrow
  have B0 := madeBlk hown
  have bel : Below w.heap.size w w1 := (Below.refl _ _).grown hgrow (Nat.le_refl _) (fun k h => by cases h)
  clear hown hgrow
  have hr1 := hr.keep bel (Nat.le_refl _)
  have hmin : (l.map Value.bool).length = Nat.min l.length (l.length + k) := by
    rw [List.length_map]; exact (Nat.min_eq_left (by omega)).symm
  have hone : ∀ v ∈ l.map Value.bool, v.oneCell' = true := by
    intro v hv
    obtain ⟨b, _, rfl⟩ := List.mem_map.1 hv
    rfl
  have hpos : 0 < (l.map Value.bool).length → some (⟨w.heap.size, 0, none⟩ : Addr) = some ⟨w.heap.size, 0, none⟩ ∧ ∃ ad, ao = some ad ∧ ∀ j v, (l.map Value.bool)[j]? = some v → w1.cell? (ad.add j) = some v := by
    intro h
    obtain ⟨b, off, e, _, hc⟩ := hr1.at (by intro e; rw [e] at h; simp at h)
    exact ⟨rfl, _, e, fun j v hv => by rw [Addr.add_lit]; exact hc j v hv⟩
  have hfit : 0 + (l.map Value.bool).length ≤ (List.replicate (l.length + k) (Value.bool false)).length := by simp
  have hsz : (Tryz.prog.info? 4).map (·.size) = some 1 := by rw [hi]; simp [hz1]
  obtain ⟨cs, hcs⟩ : ∃ cs, cs = l.map Value.bool := ⟨_, rfl⟩
  rw [← hcs] at hmin hone hpos hfit
  have HC : Hid (cs = l.map Value.bool) := hcs
  clear hcs
  go_wp2_with (refine wpList_copy_splice rfl (.tmp 24) (.tmp 25) 91 91 rfl 4 Tryz.underlying91 hsz _ _ _ _ _ _ rfl rfl w.heap.size 0 (List.replicate (l.length + k) (.bool false)) 4 B0 cs hmin hpos hfit hone w.heap.size w bel (Nat.le_refl _) ?_)
  intro w2 HG bel2
  have B1 : Blk w2 w.heap.size ((l ++ (bitsOf n k).take 0).map Value.bool ++ List.replicate (k - 0) (Value.bool false)) 4 := by
    have h := HG.out
    unfold Blk
    rw [h, HC.out]
    simp [splice]
  clear B0 HG bel hr hr1 hmin hone hpos hfit hsz hi hz0 hz1 hz2 HC
  have hN := (of_decide_eq_true hn : 0 ≤ n ∧ n < 2 ^ (k : Int).toNat)
  have hp := pow_le_40 k hk
  have hn0 : 0 ≤ n := hN.1
  have hn1 : n ≤ 1099511627776 := by
    have h2 := hN.2
    rw [Int.toNat_natCast] at h2
    omega
  clear hN hp hn
  go_wp2_with fail
  go_loopw [28] (fun i wr => ∃ j : Nat, j ≤ k ∧ i = .int .i64 j ∧ Blk wr w.heap.size ((l ++ (bitsOf n k).take j).map Value.bool ++ List.replicate (k - j) (Value.bool false)) 4 ∧ Below w.heap.size w wr) (fun i _ => k - (intOf i).toNat)
  case atStart => exact ⟨0, Nat.zero_le _, rfl, B1, bel2⟩
  case round =>
    obtain ⟨j, hj, rfl, B, bel⟩ := hrel
    by_cases hlt : j < k
    · have e1 : wr.cell? ⟨w.heap.size, l.length + j, none⟩ = some (.bool false) := by
        have hl : ((l ++ (bitsOf n k).take j).map Value.bool).length = l.length + j := by simp [length_bitsOf]; omega
        rw [B.cell, List.getElem?_append_right (by rw [hl]; exact Nat.le_refl _), hl, Nat.sub_self, List.getElem?_replicate, if_pos (by omega)]
      have e2 := B.free (l.length + j)
      clear B1 bel2
      go_wp2_with fail
      go_roundw
      case rel =>
        refine ⟨j + 1, by omega, by go_num, ?_, bel.setCell (Nat.le_refl _) _⟩
        have h := B.set (l.length + j) (.bool (bitAt n (k - 1 - j)))
        rw [put_step l n k j hlt] at h
        rw [bit_stored n (k - 1 - j) hn0 (by omega)]
        exact h
      case measure => simp [intOf]; omega
    · obtain rfl : j = k := by omega
      clear B1 bel2
      go_wp2_with fail
      go_ret2
      refine ⟨rfl, ?_, bel⟩
      have h := B
      rw [List.take_of_length_le (by rw [length_bitsOf]; exact Nat.le_refl _), Nat.sub_self, List.replicate_zero, List.append_nil] at h
      exact h

end Go.Proofs.YtcjdpilmhlfmfaaGreatDoor
