/-
  Ranges and buckets of points, as plain lists. No program is named.
-/
import Derived.Laws.IdiomCopy
import Derived.Laws.CopyOwn
import Derived.Deep.RegionLaw
import Derived.Lib.SliceRun
import Derived.Test.YtnpikbpngohimaaP06
import Derived.Test.YtnpikbpngohimaaP05
import Derived.Test.YtnpikbpngohimaaP04
import Derived.Test.YtnpikbpngohimaaP01
namespace Go.Proofs.Ytnpikbpngohimaa
open Go.RowKit

def Rises (l : List Pt) : Prop := l.Pairwise (fun p q => p.1 < q.1)

def inR (f t : Int) (p : Pt) : Bool := decide (f ≤ p.1 ∧ p.1 < t)

def rngL (l : List Pt) (f t : Int) : List Pt := l.filter (inR f t)

/-- A bucket. -/
structure Bu where
  s : Int
  m : Sm

def startOf (f w : Int) (p : Pt) : Int := p.1 - (p.1 - f) % w

theorem dropWhile_len {α : Type} (p : α → Bool) : ∀ l : List α, (l.dropWhile p).length ≤ l.length
  | [] => Nat.le_refl _
  | x :: r => by
    rw [List.dropWhile_cons]
    split
    · exact Nat.le_succ_of_le (dropWhile_len p r)
    · exact Nat.le_refl _

/-- Runs of points that have one start, so many at most. -/
def runsF (g : Pt → Int) : Nat → List Pt → List Bu
  | 0, _ => []
  | _ + 1, [] => []
  | n + 1, p :: r => ⟨g p, sumS (p :: r.takeWhile (fun q => decide (g q = g p)))⟩ :: runsF g n (r.dropWhile (fun q => decide (g q = g p)))

/-- Runs of points that have one start. -/
def runs (g : Pt → Int) (l : List Pt) : List Bu := runsF g l.length l

theorem runsF_more (g : Pt → Int) : ∀ (n m : Nat) (l : List Pt), l.length ≤ n → l.length ≤ m → runsF g n l = runsF g m l
  | 0, 0, _, _, _ => rfl
  | 0, _ + 1, [], _, _ => rfl
  | 0, _ + 1, _ :: _, h, _ => absurd h (Nat.not_succ_le_zero _)
  | _ + 1, 0, [], _, _ => rfl
  | _ + 1, 0, _ :: _, _, h => absurd h (Nat.not_succ_le_zero _)
  | _ + 1, _ + 1, [], _, _ => rfl
  | n + 1, m + 1, p :: r, h, k => by
    have d := dropWhile_len (fun q => decide (g q = g p)) r
    simp only [runsF, runsF_more g n m _ (Nat.le_trans d (Nat.le_of_succ_le_succ h)) (Nat.le_trans d (Nat.le_of_succ_le_succ k))]

def cutE (f t w : Int) : Int := if 0 ≤ f ∧ f ≤ t ∧ t ≤ 100001 ∧ 1 ≤ w ∧ w ≤ 100001 then (if 200 < (t - f + w - 1) / w then 2 else 0) else 3

theorem rng_len (l : List Pt) (f t : Int) : (rngL l f t).length ≤ l.length := List.length_filter_le _ _

theorem rng_mem {l : List Pt} {f t : Int} {p : Pt} (h : p ∈ rngL l f t) : p ∈ l ∧ f ≤ p.1 ∧ p.1 < t := by
  unfold rngL inR at h
  rw [List.mem_filter] at h
  exact ⟨h.1, by simpa using h.2⟩

theorem rng_rises {l : List Pt} (h : Rises l) (f t : Int) : Rises (rngL l f t) := List.Pairwise.filter _ h

theorem rng_none {l : List Pt} {f t : Int} (h : ∀ p ∈ l, ¬ (f ≤ p.1 ∧ p.1 < t)) : rngL l f t = [] := by
  unfold rngL inR
  rw [List.filter_eq_nil_iff]
  intro p hp
  simpa using h p hp

/-- A range in two parts is the whole. -/
theorem rng_parts : ∀ (l : List Pt), Rises l → ∀ (a b c : Int), a ≤ b → b ≤ c → rngL l a c = rngL l a b ++ rngL l b c
  | [], _, _, _, _, _, _ => rfl
  | p :: r, h, a, b, c, h1, h2 => by
    obtain ⟨hp, hr⟩ := List.pairwise_cons.1 h
    have ih := rng_parts r hr a b c h1 h2
    have e : ∀ x y, rngL (p :: r) x y = if x ≤ p.1 ∧ p.1 < y then p :: rngL r x y else rngL r x y := by
      intro x y
      unfold rngL inR
      rw [List.filter_cons]
      simp
    rw [e, e, e, ih]
    by_cases k1 : a ≤ p.1
    · by_cases k2 : p.1 < b
      · rw [if_pos ⟨k1, by omega⟩, if_pos ⟨k1, k2⟩, if_neg (by omega)]
        rfl
      · have e1 : rngL r a b = [] := rng_none (fun q hq => by have := hp q hq; omega)
        by_cases k3 : p.1 < c
        · rw [if_pos ⟨k1, k3⟩, if_neg (by omega), if_pos (by omega), e1]
          rfl
        · rw [if_neg (by omega), if_neg (by omega), if_neg (by omega)]
    · rw [if_neg (by omega), if_neg (by omega), if_neg (by omega)]

theorem runs_nil (g : Pt → Int) : runs g [] = [] := rfl

theorem runs_cons (g : Pt → Int) (p : Pt) (r : List Pt) : runs g (p :: r) = ⟨g p, sumS (p :: r.takeWhile (fun q => decide (g q = g p)))⟩ :: runs g (r.dropWhile (fun q => decide (g q = g p))) := by
  have e : runsF g r.length (r.dropWhile (fun q => decide (g q = g p))) = runs g (r.dropWhile (fun q => decide (g q = g p))) := runsF_more g _ _ _ (dropWhile_len _ r) (Nat.le_refl _)
  rw [← e]
  rfl

/-- A run, and what is behind it. -/
theorem runs_split (g : Pt → Int) (s : Int) (X Y : List Pt) (hX : ∀ p ∈ X, g p = s) (hY : ∀ p, Y.head? = some p → g p ≠ s) (hne : X ≠ []) : runs g (X ++ Y) = ⟨s, sumS X⟩ :: runs g Y := by
  obtain ⟨p, r, rfl⟩ := List.exists_cons_of_ne_nil hne
  have ep : g p = s := hX p List.mem_cons_self
  have hr : ∀ q ∈ r, decide (g q = g p) = true := fun q hq => by rw [ep]; simpa using hX q (List.mem_cons_of_mem _ hq)
  have t1 : (r ++ Y).takeWhile (fun q => decide (g q = g p)) = r := by
    rw [List.takeWhile_append_of_pos hr]
    cases Y with
    | nil => simp
    | cons y q =>
      rw [List.takeWhile_cons_of_neg (by have := hY y rfl; rw [ep]; simpa using this), List.append_nil]
  have t2 : (r ++ Y).dropWhile (fun q => decide (g q = g p)) = Y := by
    rw [List.dropWhile_append_of_pos hr]
    cases Y with
    | nil => rfl
    | cons y q => rw [List.dropWhile_cons_of_neg (by have := hY y rfl; rw [ep]; simpa using this)]
  rw [List.cons_append, runs_cons, t1, t2, ep]

/-- The first run of some points. -/
theorem runs_first (g : Pt → Int) (p : Pt) (r : List Pt) : ∃ X Y, p :: r = X ++ Y ∧ X ≠ [] ∧ (∀ q ∈ X, g q = g p) ∧ (∀ q, Y.head? = some q → g q ≠ g p) ∧ Y.length ≤ r.length := by
  refine ⟨p :: r.takeWhile (fun q => decide (g q = g p)), r.dropWhile (fun q => decide (g q = g p)), by rw [List.cons_append, List.takeWhile_append_dropWhile], by simp, ?_, ?_, dropWhile_len _ _⟩
  · intro q hq
    rcases List.mem_cons.1 hq with rfl | hq
    · rfl
    · have := List.all_takeWhile (p := fun q => decide (g q = g p)) (l := r)
      rw [List.all_eq_true] at this
      simpa using this q hq
  · intro q hq
    have := List.head?_dropWhile_not (fun q => decide (g q = g p)) r
    rw [hq] at this
    simpa using this

theorem runs_len (g : Pt → Int) : ∀ (n : Nat) (l : List Pt), l.length ≤ n → (runs g l).length ≤ l.length
  | _, [], _ => by rw [runs_nil]; exact Nat.le_refl _
  | 0, p :: r, h => by simp at h
  | n + 1, p :: r, h => by
    obtain ⟨X, Y, e, hne, h1, h2, h3⟩ := runs_first g p r
    have hX : 0 < X.length := List.length_pos_iff.2 hne
    have := runs_len g n Y (by simp at h; omega)
    rw [e, runs_split g (g p) X Y h1 h2 hne, List.length_cons, List.length_append]
    omega

/-- Bucket by bucket. -/
def byOne (l : List Pt) (t w : Int) : Nat → Int → List Bu
  | 0, _ => []
  | k + 1, s => (if rngL l s (min t (s + w)) = [] then [] else [⟨s, sumS (rngL l s (min t (s + w)))⟩]) ++ byOne l t w k (s + w)

theorem startOf_shift (f w : Int) (p : Pt) : startOf (f + w) w p = startOf f w p := by
  unfold startOf
  rw [show p.1 - (f + w) = p.1 - f - w by omega, Int.sub_emod_right]

theorem runs_congr (g h : Pt → Int) : ∀ (n : Nat) (l : List Pt), l.length ≤ n → (∀ p ∈ l, g p = h p) → runs g l = runs h l
  | _, [], _, _ => by rw [runs_nil, runs_nil]
  | 0, p :: r, hl, _ => by simp at hl
  | n + 1, p :: r, hl, hgh => by
    obtain ⟨X, Y, e, hne, h1, h2, h3⟩ := runs_first g p r
    have ep : g p = h p := hgh p List.mem_cons_self
    have mX : ∀ q ∈ X, q ∈ p :: r := fun q hq => by rw [e]; exact List.mem_append_left _ hq
    have mY : ∀ q ∈ Y, q ∈ p :: r := fun q hq => by rw [e]; exact List.mem_append_right _ hq
    have ih := runs_congr g h n Y (by simp at hl; omega) (fun q hq => hgh q (mY q hq))
    rw [e, runs_split g (g p) X Y h1 h2 hne, ih]
    exact (runs_split h (g p) X Y (fun q hq => by rw [← hgh q (mX q hq)]; exact h1 q hq) (fun q hq => by rw [← hgh q (mY q (List.mem_of_head? hq))]; exact h2 q hq) hne).symm

theorem byOne_runs (l : List Pt) (hl : Rises l) (t w : Int) (hw : 1 ≤ w) : ∀ (k : Nat) (s : Int), t ≤ s + k * w → byOne l t w k s = runs (startOf s w) (rngL l s t)
  | 0, s, h => by
    have : rngL l s t = [] := rng_none (fun p _ => by simp at h; omega)
    rw [this, runs_nil]
    rfl
  | k + 1, s, h => by
    have e1 : ((k + 1 : Nat) : Int) * w = k * w + w := by rw [Int.natCast_add, Int.add_mul]; simp
    have ih := byOne_runs l hl t w hw k (s + w) (by rw [e1] at h; omega)
    rw [byOne, ih]
    have ec : runs (startOf (s + w) w) (rngL l (s + w) t) = runs (startOf s w) (rngL l (s + w) t) := runs_congr _ _ _ _ (Nat.le_refl _) (fun p _ => startOf_shift s w p)
    rw [ec]
    have hsp : rngL l s t = rngL l s (min t (s + w)) ++ rngL l (s + w) t := by
      by_cases h1 : s + w ≤ t
      · rw [show min t (s + w) = s + w by omega]
        exact rng_parts l hl s (s + w) t (by omega) h1
      · rw [show min t (s + w) = t by omega, rng_none (l := l) (f := s + w) (t := t) (fun p _ => by omega), List.append_nil]
    rw [hsp]
    have gX : ∀ p ∈ rngL l s (min t (s + w)), startOf s w p = s := by
      intro p hp
      obtain ⟨_, h1, h2⟩ := rng_mem hp
      unfold startOf
      rw [Int.emod_eq_of_lt (by omega) (by omega)]
      omega
    have gY : ∀ p, (rngL l (s + w) t).head? = some p → startOf s w p ≠ s := by
      intro p hp
      obtain ⟨_, h1, h2⟩ := rng_mem (List.mem_of_head? hp)
      unfold startOf
      have := Int.emod_lt_of_pos (p.1 - s) (show 0 < w by omega)
      omega
    by_cases hX : rngL l s (min t (s + w)) = []
    · rw [if_pos hX, hX, List.nil_append, List.nil_append]
    · rw [if_neg hX, runs_split _ s _ _ gX gY hX]
      rfl

/-- What the runs' sums are together. -/
theorem runs_sum (g : Pt → Int) : ∀ (n : Nat) (l P : List Pt), l.length ≤ n → P.length + l.length ≤ 1000 → (runs g l).foldl (fun a x => joinS a x.m) (sumS P) = sumS (P ++ l)
  | _, [], P, _, _ => by rw [runs_nil, List.append_nil]; rfl
  | 0, p :: r, P, h, _ => by simp at h
  | n + 1, p :: r, P, h, hb => by
    obtain ⟨X, Y, e, hne, h1, h2, h3⟩ := runs_first g p r
    have hle : P.length + (X.length + Y.length) ≤ 1000 := by rw [e, List.length_append] at hb; exact hb
    rw [e, runs_split g (g p) X Y h1 h2 hne, List.foldl_cons, sumS_append P X (by omega), runs_sum g n Y (P ++ X) (by simp at h; omega) (by rw [List.length_append]; omega), List.append_assoc]

/-- Two runs in one, where they have one start. -/
def jn (c : Int → Int) (out : List Bu) (x : Bu) : List Bu :=
  match out.getLast? with
  | some b => if b.s = c x.s then out.dropLast ++ [⟨b.s, joinS b.m x.m⟩] else out ++ [⟨c x.s, x.m⟩]
  | none => [⟨c x.s, x.m⟩]

theorem jn_snoc (c : Int → Int) (out : List Bu) (b x : Bu) : jn c (out ++ [b]) x = if b.s = c x.s then out ++ [⟨b.s, joinS b.m x.m⟩] else out ++ [b] ++ [⟨c x.s, x.m⟩] := by
  unfold jn
  simp

theorem runs_wide (g1 g2 : Pt → Int) (c : Int → Int) : ∀ (n : Nat) (l P : List Pt) (out : List Bu) (s : Int), l.length ≤ n → P.length + l.length ≤ 1000 → (∀ p ∈ l, g2 p = c (g1 p)) → (∀ p ∈ P, g2 p = s) → P ≠ [] →
    (runs g1 l).foldl (jn c) (out ++ [⟨s, sumS P⟩]) = out ++ runs g2 (P ++ l)
  | _, [], P, out, s, _, _, _, hP, hne => by rw [runs_nil, runs_split g2 s P [] hP (fun p h => by simp at h) hne, runs_nil]; rfl
  | 0, p :: r, P, _, _, h, _, _, _, _ => by simp at h
  | n + 1, p :: r, P, out, s, h, hb, hc, hP, hne => by
    obtain ⟨X, Y, e, hX, h1, h2, h3⟩ := runs_first g1 p r
    have hle : P.length + (X.length + Y.length) ≤ 1000 := by rw [e, List.length_append] at hb; exact hb
    have mX : ∀ q ∈ X, q ∈ p :: r := fun q hq => by rw [e]; exact List.mem_append_left _ hq
    have mY : ∀ q ∈ Y, q ∈ p :: r := fun q hq => by rw [e]; exact List.mem_append_right _ hq
    have hX2 : ∀ q ∈ X, g2 q = c (g1 p) := fun q hq => by rw [hc q (mX q hq), h1 q hq]
    have hY2 : ∀ q ∈ Y, g2 q = c (g1 q) := fun q hq => hc q (mY q hq)
    have hYl : Y.length ≤ n := by simp at h; omega
    rw [e, runs_split g1 (g1 p) X Y h1 h2 hX, List.foldl_cons, jn_snoc]
    by_cases hs : s = c (g1 p)
    · rw [if_pos hs]
      simp only
      rw [sumS_append P X (by omega), runs_wide g1 g2 c n Y (P ++ X) out s hYl (by rw [List.length_append]; omega) hY2 (fun q hq => ?_) (by simp [hne]), List.append_assoc]
      rcases List.mem_append.1 hq with hq | hq
      · exact hP q hq
      · rw [hX2 q hq, hs]
    · rw [if_neg hs]
      simp only
      rw [runs_wide g1 g2 c n Y X (out ++ [Bu.mk s (sumS P)]) (c (g1 p)) hYl (by omega) hY2 hX2 hX, runs_split g2 s P (X ++ Y) hP ?_ hne, List.append_assoc]
      · rfl
      · intro q hq
        obtain ⟨x, X', rfl⟩ := List.exists_cons_of_ne_nil hX
        simp at hq
        subst hq
        rw [hX2 _ List.mem_cons_self]
        exact fun e => hs e.symm

theorem runs_wide0 (g1 g2 : Pt → Int) (c : Int → Int) (l : List Pt) (hb : l.length ≤ 1000) (hc : ∀ p ∈ l, g2 p = c (g1 p)) : (runs g1 l).foldl (jn c) [] = runs g2 l := by
  cases l with
  | nil => rw [runs_nil, runs_nil]; rfl
  | cons p r =>
    obtain ⟨X, Y, e, hX, h1, h2, h3⟩ := runs_first g1 p r
    have hle : X.length + Y.length ≤ 1000 := by rw [e, List.length_append] at hb; exact hb
    have mX : ∀ q ∈ X, q ∈ p :: r := fun q hq => by rw [e]; exact List.mem_append_left _ hq
    have mY : ∀ q ∈ Y, q ∈ p :: r := fun q hq => by rw [e]; exact List.mem_append_right _ hq
    rw [e, runs_split g1 (g1 p) X Y h1 h2 hX, List.foldl_cons]
    have := runs_wide g1 g2 c Y.length Y X [] (c (g1 p)) (Nat.le_refl _) hle (fun q hq => hc q (mY q hq)) (fun q hq => by rw [hc q (mX q hq), h1 q hq]) hX
    simpa [jn] using this

/-- Runs of points by a start that never falls: their starts rise. -/
theorem runs_rises (g : Pt → Int) : ∀ (n : Nat) (l : List Pt), l.length ≤ n → l.Pairwise (fun p q => g p ≤ g q) → (runs g l).Pairwise (fun x y => x.s < y.s) ∧ ∀ x ∈ runs g l, (∃ p ∈ l, x.s = g p) ∧ ∃ P, P ≠ [] ∧ P.length ≤ l.length ∧ x.m = sumS P ∧ ∀ q ∈ P, q ∈ l
  | _, [], _, _ => by rw [runs_nil]; exact ⟨List.Pairwise.nil, fun x hx => by simp at hx⟩
  | 0, p :: r, h, _ => by simp at h
  | n + 1, p :: r, h, hp => by
    obtain ⟨X, Y, e, hX, h1, h2, h3⟩ := runs_first g p r
    rw [e] at hp ⊢
    obtain ⟨q1, q2, q3⟩ := List.pairwise_append.1 hp
    obtain ⟨i1, i2⟩ := runs_rises g n Y (by simp at h; omega) q2
    rw [runs_split g (g p) X Y h1 h2 hX]
    obtain ⟨x0, X', ex⟩ := List.exists_cons_of_ne_nil hX
    have hx0 : x0 ∈ X := by rw [ex]; exact List.mem_cons_self
    refine ⟨List.Pairwise.cons (fun y hy => ?_) i1, fun x hx => ?_⟩
    · obtain ⟨⟨q, hq, eq⟩, _⟩ := i2 y hy
      obtain ⟨y0, Y', ey⟩ := List.exists_cons_of_ne_nil (l := Y) (by intro e; rw [e] at hq; simp at hq)
      have n0 : g y0 ≠ g p := h2 y0 (by rw [ey]; rfl)
      have l0 : g x0 ≤ g y0 := q3 x0 hx0 y0 (by rw [ey]; exact List.mem_cons_self)
      have l1 : g y0 ≤ g q := by
        rw [ey] at hq q2
        rcases List.mem_cons.1 hq with rfl | hq
        · exact Int.le_refl _
        · exact (List.pairwise_cons.1 q2).1 q hq
      rw [h1 x0 hx0] at l0
      show g p < y.s
      rw [eq]
      omega
    · rcases List.mem_cons.1 hx with rfl | hx
      · exact ⟨⟨x0, List.mem_append_left _ hx0, (h1 x0 hx0).symm⟩, X, hX, by rw [List.length_append]; omega, rfl, fun q hq => List.mem_append_left _ hq⟩
      · obtain ⟨⟨q, hq, eq⟩, P, p1, p2, p3, p4⟩ := i2 x hx
        exact ⟨⟨q, List.mem_append_right _ hq, eq⟩, P, p1, by rw [List.length_append]; omega, p3, fun q hq => List.mem_append_right _ (p4 q hq)⟩

end Go.Proofs.Ytnpikbpngohimaa

/-
  Rows of the call's own, and what is left of all that was there when one of them, and then the answer's cell, is written. No function of the program is named.
-/
namespace Go.Proofs.Ytnpikbpngohimaa
open Go.RowKit

/-- Bits do not lie in a block that holds no bool. -/
theorem Sl.offKind {w : World} {ao : Option Addr} {cap g : Nat} {P : List Bool} {cs : List Value} {t : TypeId} (s : Sl w ao cap (P.map Value.bool)) (B : Blk w g cs t) (hk : ∀ v ∈ cs, ∀ b, v ≠ .bool b) (hP : P ≠ []) : Off g ao := by
  obtain ⟨b, off, rfl, hb, hc⟩ := s.row.at (by simpa using hP)
  intro ad e
  cases e
  intro e
  have e : b = g := e
  subst e
  obtain ⟨p, r, rfl⟩ := List.exists_cons_of_ne_nil hP
  have h0 := hc 0 (.bool p) (by simp)
  rw [B.cell] at h0
  exact hk _ (List.mem_of_getElem? h0) p rfl

/-- Rows that lie in a block of the call's own, empty rows behind them. -/
structure Rows (w : World) (g G : Nat) (l : List Lr) : Prop where
  blk : ∃ L, Blk w g (l.flatMap Lr.cells ++ L) 41 ∧ ∀ v ∈ L, v = .slice none 0 0
  le : l.length ≤ G
  max : G ≤ 9223372036854775807

theorem Rows.lt {w : World} {g G : Nat} {l : List Lr} (h : Rows w g G l) : g < w.heap.size := by
  obtain ⟨L, B, _⟩ := h.blk
  exact B.lt

theorem Rows.free {w : World} {g G : Nat} {l : List Lr} (h : Rows w g G l) (i : Nat) : w.frozen? ⟨g, i, none⟩ = false := by
  obtain ⟨L, B, _⟩ := h.blk
  exact B.free i

theorem Rows.keep {w w' : World} {g G B : Nat} {l : List Lr} (h : Rows w g G l) (hb : Below B w w') (hg : g < B) : Rows w' g G l := by
  obtain ⟨L, b, hL⟩ := h.blk
  exact ⟨⟨L, b.keep hb hg, hL⟩, h.le, h.max⟩

theorem Rows.call {w w' : World} {g G : Nat} {l : List Lr} (h : Rows w g G l) (hb : Below w.heap.size w w') : Rows w' g G l := h.keep hb h.lt

theorem Rows.alloc {w : World} {g G : Nat} {l : List Lr} (h : Rows w g G l) (o : Obj) : Rows (w.alloc o) g G l := by
  obtain ⟨L, b, hL⟩ := h.blk
  exact ⟨⟨L, b.alc o, hL⟩, h.le, h.max⟩

theorem Rows.cells {w : World} {g G : Nat} {l : List Lr} (h : Rows w g G l) (k : Nat) (r : Lr) (hr : l[k]? = some r) :
    w.cell? ⟨g, k * 2, none⟩ = some (.slice r.ba r.bs.length r.bc) ∧ w.cell? ⟨g, k * 2 + 1, none⟩ = some (.slice r.ha r.hd.length r.hc) := by
  obtain ⟨L, B, _⟩ := h.blk
  have hk : k < l.length := (List.getElem?_eq_some_iff.1 hr).1
  have hl := flat_length Lr.two l
  rw [B.cell, B.cell, List.getElem?_append_left (by rw [hl]; omega), List.getElem?_append_left (by rw [hl]; omega)]
  exact ⟨flat_get Lr.two l k 0 r hr (by decide), flat_get Lr.two l k 1 r hr (by decide)⟩

theorem Rows.noBool {w : World} {g G : Nat} {l : List Lr} (h : Rows w g G l) : ∃ cs, Blk w g cs 41 ∧ ∀ v ∈ cs, ∀ b, v ≠ .bool b := by
  obtain ⟨L, B, hL⟩ := h.blk
  refine ⟨_, B, fun v hv b e => ?_⟩
  rcases List.mem_append.1 hv with hv | hv
  · obtain ⟨r, _, hr⟩ := List.mem_flatMap.1 hv
    simp only [Lr.cells, List.mem_cons, List.not_mem_nil, or_false] at hr
    rcases hr with rfl | rfl <;> cases e
  · rw [hL v hv] at e
    cases e

theorem Rows.off {w : World} {g G : Nat} {l : List Lr} (h : Rows w g G l) {ao : Option Addr} {cap : Nat} {P : List Bool} (s : Sl w ao cap (P.map Value.bool)) (hP : P ≠ []) : Off g ao := by
  obtain ⟨cs, B, hk⟩ := h.noBool
  exact s.offKind B hk hP

theorem Rows.put {w : World} {g G : Nat} {l : List Lr} (h : Rows w g G l) (k : Nat) (hk : k < l.length) (x : Lr) :
    Rows ((w.setCell ⟨g, k * 2, none⟩ (.slice x.ba x.bs.length x.bc)).setCell ⟨g, k * 2 + 1, none⟩ (.slice x.ha x.hd.length x.hc)) g G (l.set k x) := by
  obtain ⟨L, B, hL⟩ := h.blk
  have hl := flat_length Lr.two l
  have B2 := (B.set (k * 2) (.slice x.ba x.bs.length x.bc)).set (k * 2 + 1) (.slice x.ha x.hd.length x.hc)
  rw [List.set_append_left _ _ (by rw [hl]; omega), List.set_append_left _ _ (by rw [List.length_set, hl]; omega), flat_set x _ _ rfl Lr.two l k hk] at B2
  exact ⟨⟨L, B2, hL⟩, by rw [List.length_set]; exact h.le, h.max⟩

theorem Rows.other {w : World} {g G : Nat} {l : List Lr} (h : Rows w g G l) (g' i : Nat) (u : Value) (hne : g' ≠ g) : Rows (w.setCell ⟨g', i, none⟩ u) g G l := by
  obtain ⟨L, B, hL⟩ := h.blk
  exact ⟨⟨L, B.other i u hne, hL⟩, h.le, h.max⟩

theorem Rows.slr {w : World} {g G : Nat} {l : List Lr} (h : Rows w g G l) (hg : ∀ r ∈ l, r.Good w) : SlR w (some ⟨g, 0, none⟩) G l := by
  obtain ⟨L, B, _⟩ := h.blk
  refine ⟨⟨B.row 0 _ (fun i v hv => ?_), h.le, h.max, fun e => by cases e⟩, hg⟩
  rw [Nat.zero_add, List.getElem?_append_left (List.getElem?_eq_some_iff.1 hv).1]
  exact hv

/-- One row written, then the answer's cell. -/
abbrev wrote (w : World) (g k : Nat) (x : Lr) (gR : Nat) (c : Value) : World :=
  ((w.setCell ⟨g, k * 2, none⟩ (.slice x.ba x.bs.length x.bc)).setCell ⟨g, k * 2 + 1, none⟩ (.slice x.ha x.hd.length x.hc)).setCell ⟨gR, 0, none⟩ c

theorem wrote_below {B : Nat} {w W : World} (h : Below B w W) {g gR : Nat} (hg : B ≤ g) (hR : B ≤ gR) (k : Nat) (x : Lr) (c : Value) : Below B w (wrote W g k x gR c) :=
  ((h.setCell hg _).setCell hg _).setCell hR _

theorem wrote_own {w : World} {base : Nat} {e : TypeId} {size n : Nat} {v : Value} {xs : List Value} (h : w.ownsRow base e size v n xs) {g gR : Nat} (hg : g < base) (hR : gR < base) (k : Nat) (x : Lr) (c : Value) : (wrote w g k x gR c).ownsRow base e size v n xs := by
  have ne : ∀ j, j < base → v.ownBlock = none ∨ v.ownBlock ≠ some j := by
    intro j hj
    cases hv : v.ownBlock with
    | none => exact .inl rfl
    | some b =>
      refine .inr (fun e => ?_)
      have := (h.lt b hv).1
      have : b = j := Option.some.inj e
      omega
  have h1 := h.kept (row := some g) (grownSet (grownSet (grownRefl w (some g)) (k * 2) (.slice x.ba x.bs.length x.bc)) (k * 2 + 1) (.slice x.ha x.hd.length x.hc)) (ne g hg)
  exact h1.kept (row := some gR) (grownSet (grownRefl _ (some gR)) 0 c) (ne gR hR)

theorem wrote_bits {w : World} {ao : Option Addr} {cap g G gR : Nat} {P : List Bool} {l : List Lr} {cs : List Value} {t : TypeId} (s : Sl w ao cap (P.map Value.bool)) (rows : Rows w g G l) (BR : Blk w gR cs t) (hk : ∀ v ∈ cs, ∀ b, v ≠ .bool b) (k : Nat) (x : Lr) (c : Value) : Sl (wrote w g k x gR c) ao cap (P.map Value.bool) := by
  by_cases hP : P = []
  · subst hP
    exact ⟨.inl rfl, s.le, s.max, s.nil⟩
  · have o1 := rows.off s hP
    have o2 := s.offKind BR hk hP
    have s1 := s.off (grownSet (grownSet (grownRefl w (some g)) (k * 2) (.slice x.ba x.bs.length x.bc)) (k * 2 + 1) (.slice x.ha x.hd.length x.hc)) o1
    exact s1.off (grownSet (grownRefl _ (some gR)) 0 c) o2

theorem wrote_rows {w W : World} {g G gR : Nat} {l : List Lr} (rows : Rows W g G l) (hne : gR ≠ g) (k : Nat) (hk : k < l.length) (x : Lr) (c : Value) (hb : Below w.heap.size w (wrote W g k x gR c)) (hg : ∀ r ∈ l, r.Good w) (hx : x.Good (wrote W g k x gR c)) :
    SlR (wrote W g k x gR c) (some ⟨g, 0, none⟩) G (l.set k x) := by
  refine ((rows.put k hk x).other gR 0 c hne).slr (fun r hr => ?_)
  rcases List.mem_or_eq_of_mem_set hr with h | rfl
  · exact (hg r h).keep hb (Nat.le_refl _)
  · exact hx

end Go.Proofs.Ytnpikbpngohimaa

/-
  A shelf in memory of the call's own: each row's blocks and head in blocks of their own; how that stays while one block alone is written. No function of the program is named.
-/
namespace Go.Proofs.Ytnpikbpngohimaa
open Go.RowKit

/-- A block whose bits lie in a block of bits. -/
structure Lb.Own (w : World) (x : Lb) : Prop where
  good : x.Good w
  at_ : ∃ gO cs, x.a = some ⟨gO, 0, none⟩ ∧ Blk w gO cs 4

theorem Lb.Own.call {w w' : World} {x : Lb} (h : x.Own w) (hb : Below w.heap.size w w') : x.Own w' := by
  obtain ⟨gO, cs, e, B⟩ := h.at_
  exact ⟨h.good.keep hb (Nat.le_refl _), gO, cs, e, B.keep hb B.lt⟩

theorem blkType {w : World} {g : Nat} {cs ds : List Value} {t u : TypeId} (h : Blk w g cs t) (k : Blk w g ds u) : t = u := by
  unfold Blk at h k
  rw [h] at k
  simp only [Option.some.injEq, Obj.cells.injEq] at k
  exact k.2.1

theorem Lb.Own.wrote {w w' : World} {x : Lb} {g : Nat} {cs : List Value} {t : TypeId} (h : x.Own w) (hg : w.grownBy w' (some g)) (B : Blk w g cs t) (ht : t ≠ 4) : x.Own w' := by
  obtain ⟨gO, ds, e, BO⟩ := h.at_
  have hne : gO ≠ g := by
    rintro rfl
    exact ht (blkType B BO)
  refine ⟨⟨h.good.bits.off hg ?_, h.good.few⟩, gO, ds, e, BO.grown hg (fun k e => by obtain rfl := Option.some.inj e; exact fun e => hne e.symm)⟩
  intro ad e'
  rw [e] at e'
  obtain rfl := Option.some.inj e'
  exact hne

/-- A row whose blocks and head lie in memory of the call's own. -/
structure OwnR (w : World) (base : Nat) (r : Lr) : Prop where
  bs : ∃ bg, r.ba = some ⟨bg, 0, none⟩ ∧ base ≤ bg ∧ Blk w bg (r.bs.flatMap Lb.cells) 83
  bc : r.bc = r.bs.length
  hd : ∃ hg, r.ha = some ⟨hg, 0, none⟩ ∧ w.ownsRow base 44 2 (.slice (some ⟨hg, 0, none⟩) r.hd.length r.hc) r.hd.length (cellsP r.hd)
  good : ∀ x ∈ r.bs, x.Own w

theorem OwnR.call {w w' : World} {base : Nat} {r : Lr} (h : OwnR w base r) (hb : Below w.heap.size w w') : OwnR w' base r := by
  obtain ⟨bg, e1, l1, B⟩ := h.bs
  obtain ⟨hg, e2, o⟩ := h.hd
  exact ⟨⟨bg, e1, l1, B.keep hb B.lt⟩, h.bc, ⟨hg, e2, ownCall o hb⟩, fun x hx => (h.good x hx).call hb⟩

theorem OwnR.alloc {w : World} {base : Nat} {r : Lr} (h : OwnR w base r) (o : Obj) : OwnR (w.alloc o) base r :=
  h.call ((Below.refl w.heap.size w).alloc (Nat.le_refl _) o)

theorem ownBlk {w : World} {base g n cap : Nat} {size : Nat} {t : TypeId} {xs : List Value} (h : w.ownsRow base t size (.slice (some ⟨g, 0, none⟩) n cap) n xs) : ∃ cur, Blk w g cur t ∧ base ≤ g := by
  rcases h.2 with ⟨h', _⟩ | ⟨g', cap', cur, h', hb, hg, _, _, hs, htake⟩
  · simp at h'
  · simp only [Value.slice.injEq, Option.some.injEq, Addr.mk.injEq, and_true, true_and] at h'
    obtain ⟨rfl, rfl⟩ := h'
    exact ⟨cur.toList, by unfold Blk; simpa using hg, hb⟩

theorem Lb.Good.off {w w' : World} {x : Lb} {g : Nat} {cs : List Value} {t : TypeId} (h : x.Good w) (hg : w.grownBy w' (some g)) (B : Blk w g cs t) (nb : ∀ v ∈ cs, ∀ b, v ≠ .bool b) : x.Good w' := by
  refine ⟨?_, h.few⟩
  by_cases hP : x.b.bits = []
  · have s := h.bits
    rw [hP] at s ⊢
    exact ⟨.inl rfl, s.le, s.max, s.nil⟩
  · exact h.bits.off hg (h.bits.offKind B nb hP)

/-- One block is written, in which no part of the row lies. -/
theorem OwnR.wrote {w w' : World} {base g : Nat} {r : Lr} {cs : List Value} {t : TypeId} (h : OwnR w base r) (hg : w.grownBy w' (some g)) (B : Blk w g cs t) (ht : t ≠ 4) (h1 : r.ba ≠ some ⟨g, 0, none⟩) (h2 : r.ha ≠ some ⟨g, 0, none⟩) : OwnR w' base r := by
  obtain ⟨bg, e1, l1, B1⟩ := h.bs
  obtain ⟨hh, e2, o⟩ := h.hd
  refine ⟨⟨bg, e1, l1, B1.grown hg (fun k e => ?_)⟩, h.bc, ⟨hh, e2, o.kept hg (.inr (fun e => ?_))⟩, fun x hx => (h.good x hx).wrote hg B ht⟩
  · obtain rfl := Option.some.inj e
    intro e
    subst e
    exact h1 e1
  · have : hh = g := Option.some.inj e
    subst this
    exact h2 e2

theorem OwnR.notB {w : World} {base g : Nat} {r : Lr} {cs : List Value} {t : TypeId} (h : OwnR w base r) (B : Blk w g cs t) (ht : t ≠ 83) : r.ba ≠ some ⟨g, 0, none⟩ := by
  obtain ⟨bg, e1, l1, B1⟩ := h.bs
  intro e
  rw [e1] at e
  simp only [Option.some.injEq, Addr.mk.injEq, and_true] at e
  subst e
  exact ht (blkType B B1)

theorem OwnR.notH {w : World} {base g : Nat} {r : Lr} {cs : List Value} {t : TypeId} (h : OwnR w base r) (B : Blk w g cs t) (ht : t ≠ 44) : r.ha ≠ some ⟨g, 0, none⟩ := by
  obtain ⟨hh, e2, o⟩ := h.hd
  obtain ⟨cur, B2, _⟩ := ownBlk o
  intro e
  rw [e2] at e
  simp only [Option.some.injEq, Addr.mk.injEq, and_true] at e
  subst e
  exact ht (blkType B B2)

theorem rowNoBool (l : List Lr) : ∀ v ∈ l.flatMap Lr.cells, ∀ b, v ≠ .bool b := by
  intro v hv b e
  obtain ⟨r, _, hr⟩ := List.mem_flatMap.1 hv
  simp only [Lr.cells, List.mem_cons, List.not_mem_nil, or_false] at hr
  rcases hr with rfl | rfl <;> cases e

theorem blkNoBool (l : List Lb) : ∀ v ∈ l.flatMap Lb.cells, ∀ b, v ≠ .bool b := by
  intro v hv b e
  obtain ⟨r, _, hr⟩ := List.mem_flatMap.1 hv
  simp only [Lb.cells, List.mem_cons, List.not_mem_nil, or_false] at hr
  rcases hr with rfl | rfl | rfl | rfl <;> cases e

theorem ptNoBool (l : List Pt) : ∀ v ∈ cellsP l, ∀ b, v ≠ .bool b := by
  induction l with
  | nil => intro v hv; simp [cellsP] at hv
  | cons p r ih =>
    intro v hv b e
    simp only [cellsP, List.mem_cons] at hv
    rcases hv with rfl | rfl | hv
    · cases e
    · cases e
    · exact ih v hv b e

theorem OwnR.toGood {w : World} {base : Nat} {r : Lr} (h : OwnR w base r) (f1 : r.bs.length ≤ 140737488355328) (f2 : r.hd.length ≤ 8796093022208) : r.Good w := by
  obtain ⟨bg, e1, l1, B1⟩ := h.bs
  obtain ⟨hh, e2, o⟩ := h.hd
  obtain ⟨a3, G3, e3, s3, _, _⟩ := SlP.ofOwn o
  simp only [Value.slice.injEq, true_and] at e3
  obtain ⟨rfl, rfl⟩ := e3
  refine ⟨⟨⟨?_, by rw [h.bc]; exact Nat.le_refl _, by rw [h.bc]; omega, fun e => by rw [e1] at e; cases e⟩, fun x hx => (h.good x hx).good⟩, by rw [e2]; exact s3, f1, by omega⟩
  rw [e1]
  exact B1.row 0 _ (fun i v hv => by rw [Nat.zero_add]; exact hv)

/-- Rows of which no two have their blocks, or their heads, at one place. -/
def ApartL (rs : List Lr) : Prop := ∀ (i j : Nat) (r q : Lr), i ≠ j → rs[i]? = some r → rs[j]? = some q → r.ba ≠ q.ba ∧ r.ha ≠ q.ha

/-- Rows of the call's own, each apart from each other. -/
structure OwnG (w : World) (base g : Nat) (rs : List Lr) : Prop where
  rows : Blk w g (rs.flatMap Lr.cells) 41
  lo : base ≤ g
  each : ∀ r ∈ rs, OwnR w base r
  ap : ApartL rs

theorem OwnG.call {w w' : World} {base g : Nat} {rs : List Lr} (h : OwnG w base g rs) (hb : Below w.heap.size w w') : OwnG w' base g rs :=
  ⟨h.rows.keep hb h.rows.lt, h.lo, fun r hr => (h.each r hr).call hb, h.ap⟩

theorem OwnG.alloc {w : World} {base g : Nat} {rs : List Lr} (h : OwnG w base g rs) (o : Obj) : OwnG (w.alloc o) base g rs :=
  h.call ((Below.refl w.heap.size w).alloc (Nat.le_refl _) o)

theorem OwnG.at {w : World} {base g : Nat} {rs : List Lr} (h : OwnG w base g rs) (k : Nat) (r : Lr) (hr : rs[k]? = some r) :
    w.cell? ⟨g, k * 2, none⟩ = some (.slice r.ba r.bs.length r.bc) ∧ w.cell? ⟨g, k * 2 + 1, none⟩ = some (.slice r.ha r.hd.length r.hc) := by
  rw [h.rows.cell, h.rows.cell]
  exact ⟨flat_get Lr.two rs k 0 r hr (by decide), flat_get Lr.two rs k 1 r hr (by decide)⟩

/-- Rows that lie in one block, each of them right: what a call hands on. -/
structure FinS (w : World) (base g : Nat) (rs : List Lr) : Prop where
  rows : Blk w g (rs.flatMap Lr.cells) 41
  lo : base ≤ g
  good : ∀ r ∈ rs, r.Good w

theorem FinS.slr {w : World} {base g : Nat} {rs : List Lr} (h : FinS w base g rs) (n : Nat) (hn : rs.length = n) (hm : n ≤ 9223372036854775807) : SlR w (some ⟨g, 0, none⟩) n rs :=
  ⟨⟨h.rows.row 0 _ (fun i v hv => by rw [Nat.zero_add]; exact hv), by omega, hm, fun e => by cases e⟩, h.good⟩

theorem OwnG.fin {w : World} {base g : Nat} {rs : List Lr} (h : OwnG w base g rs) (few : ∀ r ∈ rs, r.bs.length ≤ 140737488355328 ∧ r.hd.length ≤ 8796093022208) : FinS w base g rs :=
  ⟨h.rows, h.lo, fun r hr => (h.each r hr).toGood (few r hr).1 (few r hr).2⟩

theorem FinS.call {w w' : World} {base g : Nat} {rs : List Lr} (h : FinS w base g rs) (hb : Below w.heap.size w w') : FinS w' base g rs :=
  ⟨h.rows.keep hb h.rows.lt, h.lo, fun r hr => (h.good r hr).keep hb (Nat.le_refl _)⟩

/-- Another cell of a row of cells four wide is written. -/
theorem flat_set4 {α : Type} {f : α → List Value} (x : α) (hf : ∀ x, (f x).length = 4) (y : α) (u : Value) (j : Nat) (hj : j < 4) (he : f y = (f x).set j u) : ∀ (l : List α) (k : Nat), l[k]? = some x → (l.flatMap f).set (k * 4 + j) u = (l.set k y).flatMap f
  | [], k, h => by simp at h
  | z :: r, 0, h => by
    simp at h
    subst h
    rw [List.flatMap_cons, List.set_cons_zero, List.flatMap_cons, he, List.set_append_left _ _ (by rw [hf]; omega)]
    simp
  | z :: r, k + 1, h => by
    have ih := flat_set4 x hf y u j hj he r k (by simpa using h)
    rw [List.flatMap_cons, List.set_cons_succ, List.flatMap_cons, ← ih, List.set_append_right _ _ (by rw [hf]; omega), hf, show (k + 1) * 4 + j - 4 = k * 4 + j by omega]

end Go.Proofs.Ytnpikbpngohimaa

/-
  Rows of cells that are written in place, as blocks of the call's own: several cells at once; append where there is room; clear of blocks. No function of the program is named.
-/
namespace Go.Proofs.Ytnpikbpngohimaa
open Go.RowKit

theorem set_splice {α : Type} : ∀ (news cs : List α) (off : Nat) (v : α), off + (news.length + 1) ≤ cs.length → splice (cs.set off v) (off + 1) news = splice cs off (v :: news) := by
  intro news cs off v h
  unfold splice
  rw [List.drop_set_of_lt (by omega)]
  have e1 : (cs.set off v).take (off + 1) = cs.take off ++ [v] := by
    rw [List.take_add_one, List.take_set_of_le (Nat.le_refl _), List.getElem?_set_self (by omega)]
    rfl
  rw [e1, List.append_assoc, List.length_cons, show off + 1 + news.length = off + (news.length + 1) by omega]
  rfl

theorem Blk.setCells {b : Nat} {t : TypeId} : ∀ (news : List Value) {w : World} {cs : List Value} (off : Nat), Blk w b cs t → off + news.length ≤ cs.length → Blk (w.setCells b off news) b (splice cs off news) t ∧ w.grownBy (w.setCells b off news) (some b)
  | [], w, cs, off, B, _ => by
    refine ⟨?_, grownRefl w _⟩
    have e : splice cs off [] = cs := by simp [splice]
    rw [e]
    exact B
  | v :: news, w, cs, off, B, h => by
    have ih := Blk.setCells news (off + 1) (B.set off v) (by rw [List.length_set]; simp only [List.length_cons] at h; omega)
    rw [set_splice news cs off v (by simpa using h)] at ih
    have g1 := grownSet (grownRefl w (some b)) off v
    exact ⟨ih.1, ⟨ih.2.os.trans g1.os, ih.2.tape.trans g1.tape, ih.2.output.trans g1.output, Nat.le_trans g1.size ih.2.size, fun k hk hne => (ih.2.block k (Nat.lt_of_lt_of_le hk g1.size) hne).trans (g1.block k hk hne)⟩⟩

/-- append where there is room, onto a block that is known whole. -/
theorem step_append_in {P : Program} {ops : Array Oper} {o : Oper} {a : Act} {w : World} {K : Act → World → Prop} {Q : Exit → Act → World → Prop} {E : Prop}
    (hg : o.guard = none) (s x : Operand) (t : TypeId) (hop : o.op = Op.call { callee := Callee.builtin Builtin.append, args := #[s, x], argTypes := #[t, t] })
    (e : TypeId) (i : TypeInfo) (size : Nat) (h1 : P.underlying t = some (.slice e)) (h2 : P.info? e = some i) (h4 : i.size = size)
    (b n cap : Nat) (hs : a.eval s = .slice (some ⟨b, 0, none⟩) n cap) (cur : List Value) (te : TypeId) (B : Blk w b cur te)
    (ad : Addr) (m c : Nat) (news : List Value) (hx : a.eval x = .slice (some ad) m c) (hn : news.length = m * size) (hc : ∀ j u, news[j]? = some u → w.cell? (ad.add j) = some u) (h1c : ∀ u ∈ news, u.oneCell' = true)
    (hroom : n + m ≤ cap) (hfit : n * size + news.length ≤ cur.length)
    (hK : ∀ w', Blk w' b (splice cur (n * size) news) te → w.grownBy w' (some b) → K (a.put o.dst (.slice (some ⟨b, 0, none⟩) (n + m) cap)) w') :
    if Region.wanted o (yielded ops a.tmps) = true then Oper.wp P o a w K Q else E := by
  refine step_append_room hg s x t hop e i size h1 h2 h4 b 0 n cap hs ad m c news hx hn hc h1c hroom (fun j hj => ⟨?_, B.free _⟩) ?_
  · rw [B.cell, List.getElem?_eq_getElem (by omega)]
    rfl
  · obtain ⟨B', gr⟩ := Blk.setCells news (n * size) B hfit
    have := hK _ B' gr
    rw [Nat.zero_add]
    exact this

def lb0 : Lb := ⟨bk0, none, 0⟩

theorem zeroCells4 (z : Array Value) (hz : z.toList = Lb.cells lb0) (n : Nat) : (Builtin.zeroCells z n).toList = (List.replicate n lb0).flatMap Lb.cells := by
  have hs : z.size = 4 := by rw [← Array.length_toList, hz]; rfl
  apply List.ext_getElem?
  intro i
  have hl := flat_length Lb.four (List.replicate n lb0)
  rw [List.length_replicate] at hl
  by_cases hi : i < n * 4
  · have hg := flat_get Lb.four (List.replicate n lb0) (i / 4) (i % 4) lb0 (by rw [List.getElem?_replicate, if_pos (by omega)]) (Nat.mod_lt _ (by decide))
    rw [show i / 4 * 4 + i % 4 = i by omega] at hg
    rw [hg, ← hz]
    simp only [Builtin.zeroCells, Array.toList_map, List.getElem?_map, Array.toList_range, hs]
    rw [List.getElem?_range hi]
    have h4 : i % 4 < z.size := by omega
    rw [Option.map_some, getElem!_pos z (i % 4) h4, Array.getElem?_toList, Array.getElem?_eq_getElem h4]
  · rw [List.getElem?_eq_none (by simp [Builtin.zeroCells, hs]; omega), List.getElem?_eq_none (by rw [hl]; omega)]

theorem run_clear_blocks {P : Program} (w : World) (t e ty : TypeId) (z : Value) (ht : P.underlying t = some (.slice e)) (hv : ∀ w, (zeroValue e).run P w = .ok z w) (hz : z.cells.toList = Lb.cells lb0) (b o n c : Nat) (hn : 0 < n) (cur : List Value) (te : TypeId) (B : Blk w b cur te) (hfit : o + n * 4 ≤ cur.length) :
    (Builtin.clear_ #[t] ty #[.slice (some ⟨b, o, none⟩) n c]).run P w = .ok (.tuple #[]) (w.setCells b o ((List.replicate n lb0).flatMap Lb.cells)) := by
  have hzc := zeroCells4 z.cells hz n
  have hl := flat_length Lb.four (List.replicate n lb0)
  rw [List.length_replicate] at hl
  have hst := run_storeCells_cells (P := P) b o ((List.replicate n lb0).flatMap Lb.cells) 0 w (by intro j hj; rw [hl] at hj; rw [B.cell, List.getElem?_eq_getElem (by omega)]; rfl) (by intro j _; exact B.free _) (by
    intro v hv'
    obtain ⟨r, hr, hv''⟩ := List.mem_flatMap.1 hv'
    rw [List.eq_of_mem_replicate hr] at hv''
    simp only [Lb.cells, List.mem_cons, List.not_mem_nil, or_false] at hv''
    rcases hv'' with rfl | rfl | rfl | rfl <;> rfl)
  simp only [Nat.add_zero] at hst
  obtain ⟨m, rfl⟩ : ∃ m, n = m + 1 := ⟨n - 1, by omega⟩
  simp [Builtin.clear_, run_underlying ht, hv, hzc, hst]

theorem flat_all4 {α : Type} {f : α → List Value} (y : α) (u0 u1 u2 u3 : Value) (hy : f y = [u0, u1, u2, u3]) (hf : ∀ x, (f x).length = 4) : ∀ (l : List α) (k : Nat), k < l.length → ((((l.flatMap f).set (k * 4) u0).set (k * 4 + 1) u1).set (k * 4 + 2) u2).set (k * 4 + 3) u3 = (l.set k y).flatMap f
  | [], k, h => by simp at h
  | z :: r, 0, _ => by
    obtain ⟨z0, z1, z2, z3, e⟩ : ∃ z0 z1 z2 z3, f z = [z0, z1, z2, z3] := by
      match f z, hf z with
      | [z0, z1, z2, z3], _ => exact ⟨z0, z1, z2, z3, rfl⟩
    rw [List.flatMap_cons, List.set_cons_zero, List.flatMap_cons, e, hy]
    rfl
  | z :: r, k + 1, h => by
    have ih := flat_all4 y u0 u1 u2 u3 hy hf r k (by simpa using h)
    have e : (f z).length = 4 := hf z
    rw [List.flatMap_cons, List.set_cons_succ, List.flatMap_cons, ← ih, List.set_append_right _ _ (by rw [e]; omega), e, List.set_append_right _ _ (by rw [e]; omega), e, List.set_append_right _ _ (by rw [e]; omega), e, List.set_append_right _ _ (by rw [e]; omega), e,
      show (k + 1) * 4 - 4 = k * 4 by omega, show (k + 1) * 4 + 1 - 4 = k * 4 + 1 by omega, show (k + 1) * 4 + 2 - 4 = k * 4 + 2 by omega, show (k + 1) * 4 + 3 - 4 = k * 4 + 3 by omega]

abbrev setB (w : World) (bg i : Nat) (y : Lb) : World :=
  (((w.setCell ⟨bg, i * 4, none⟩ (.int .i64 y.b.n)).setCell ⟨bg, i * 4 + 1, none⟩ (.int .i64 y.b.fr)).setCell ⟨bg, i * 4 + 2, none⟩ (.int .i64 y.b.to)).setCell ⟨bg, i * 4 + 3, none⟩ (.slice y.a y.b.bits.length y.c)

/-- All four cells of one block are written. -/
theorem Blk.setB {w : World} {bg : Nat} {bl : List Lb} {t : TypeId} (B : Blk w bg (bl.flatMap Lb.cells) t) (i : Nat) (hi : i < bl.length) (y : Lb) :
    Blk (setB w bg i y) bg ((bl.set i y).flatMap Lb.cells) t ∧ w.grownBy (setB w bg i y) (some bg) := by
  have B2 := (((B.set (i * 4) (.int .i64 y.b.n)).set (i * 4 + 1) (.int .i64 y.b.fr)).set (i * 4 + 2) (.int .i64 y.b.to)).set (i * 4 + 3) (.slice y.a y.b.bits.length y.c)
  rw [flat_all4 y _ _ _ _ rfl Lb.four bl i hi] at B2
  exact ⟨B2, grownSet (grownSet (grownSet (grownSet (grownRefl w (some bg)) _ _) _ _) _ _) _ _⟩

end Go.Proofs.Ytnpikbpngohimaa

/-
  copy of a whole slice into a row that the call itself made, whatever the width of an element.
-/
namespace Go.Proofs.Ytnpikbpngohimaa
open Go.RowKit

theorem run_copy_whole {P : Program} (w : World) (dT sT ty elem : TypeId) (size g n dCap : Nat) (a : Addr) (sCap : Nat) (cur : List Value) (t : TypeId) (cs : List Value)
    (hu : P.underlying dT = some (.slice elem)) (hs : (P.info? elem).map (·.size) = some size)
    (hg : w.heap[g]? = some (.cells cur.toArray t (0, 0))) (hn : cs.length = n * size)
    (hsrc : ∀ j v, cs[j]? = some v → w.cell? (a.add j) = some v) (hfit : cs.length = cur.length) (h1 : ∀ v ∈ cs, v.oneCell' = true) :
    (Builtin.copy_ #[dT, sT] ty #[.slice (some ⟨g, 0, none⟩) n dCap, .slice (some a) n sCap]).run P w =
      .ok (goInt n) (w.setRow g cs.toArray) := by
  have hl := run_loadCells_list (P := P) w a cs hsrc
  have hst := run_storeCells_at P g 0 t cs 0 cur.toArray w hg (by simp; omega) h1
  have hsp : splice cur 0 cs = cs := by simp [splice, hfit]
  cases hq : P.info? elem with
  | none => simp [hq] at hs
  | some i =>
    have hi : i.size = size := by simpa [hq] using hs
    subst hi
    simp [Builtin.copy_, run_underlying hu, Builtin.lenOf, Builtin.firstCells, sizeOf, typeInfo, hq, ← hn, hl, hst]
    congr 1
    have := hsp
    simpa [splice] using this

theorem wpList_copy_whole {P : Program} {w : World} {ops : Array Oper} {rest : List Oper} {o : Oper} {a : Act} {Q : Exit → Act → World → Prop} (hgd : o.guard = none) (d s : Operand) (dT sT : TypeId)
    (ho : o.op = .call { callee := .builtin .copy, args := #[d, s], argTypes := #[dT, sT] }) (elem : TypeId) (size : Nat) (hu : P.underlying dT = some (.slice elem)) (hsz : (P.info? elem).map (·.size) = some size)
    (g n dCap : Nat) (ad : Addr) (sCap : Nat) (hd : a.eval d = .slice (some ⟨g, 0, none⟩) n dCap) (hs : a.eval s = .slice (some ad) n sCap)
    (cur : List Value) (t : TypeId) (hg : Blk w g cur t) (cs : List Value) (hn : cs.length = n * size)
    (hsrc : ∀ j v, cs[j]? = some v → w.cell? (ad.add j) = some v) (hfit : cs.length = cur.length) (h1 : ∀ v ∈ cs, v.oneCell' = true) (B : Nat) (w0 : World) (hb : Below B w0 w) (hBg : B ≤ g)
    (h : ∀ w', Blk w' g cs t → Below B w0 w' → wpList P ops Q rest (a.put o.dst (goInt n)) w') : wpList P ops Q (o :: rest) a w := by
  refine wpList_plain hgd fun K hK => ?_
  have hrun := run_copy_whole (P := P) w dT sT o.type elem size g n dCap ad sCap cur t cs hu hsz hg hn hsrc hfit h1
  unfold Oper.wp
  simp [execOp, ho, resolve, invoke, builtin, hd, hs, hrun, Result.andThen]
  exact hK _ _ (h _ (setRow_heap w g _ _ t _ hg) (below_setRow hb hBg _))

theorem run_copy_nil {P : Program} (w : World) (dT sT ty elem : TypeId) (size g dCap : Nat) (hu : P.underlying dT = some (.slice elem)) (hs : (P.info? elem).map (·.size) = some size) :
    (Builtin.copy_ #[dT, sT] ty #[.slice (some ⟨g, 0, none⟩) 0 dCap, .slice none 0 0]).run P w = .ok (goInt 0) w := by
  cases hq : P.info? elem with
  | none => simp [hq] at hs
  | some i =>
    simp [Builtin.copy_, run_underlying hu, Builtin.lenOf, Builtin.firstCells, sizeOf, typeInfo, hq, storeCells]

theorem wpList_copy_nil {P : Program} {w : World} {ops : Array Oper} {rest : List Oper} {o : Oper} {a : Act} {Q : Exit → Act → World → Prop} (hgd : o.guard = none) (d s : Operand) (dT sT : TypeId)
    (ho : o.op = .call { callee := .builtin .copy, args := #[d, s], argTypes := #[dT, sT] }) (elem : TypeId) (size : Nat) (hu : P.underlying dT = some (.slice elem)) (hsz : (P.info? elem).map (·.size) = some size)
    (g dCap : Nat) (hd : a.eval d = .slice (some ⟨g, 0, none⟩) 0 dCap) (hs : a.eval s = .slice none 0 0)
    (h : wpList P ops Q rest (a.put o.dst (goInt 0)) w) : wpList P ops Q (o :: rest) a w := by
  refine wpList_plain hgd fun K hK => ?_
  have hrun := run_copy_nil (P := P) w dT sT o.type elem size g dCap hu hsz
  unfold Oper.wp
  simp [execOp, ho, resolve, invoke, builtin, hd, hs, hrun, Result.andThen]
  exact hK _ _ h

/-- What make has laid, as a block. -/
theorem madeW {w' : World} {g n size : Nat} {cs : List Value} {t : TypeId} (h : w'.ownsRow g t size (.slice (some ⟨g, 0, none⟩) n n) n cs) : ∃ L : List Value, L.length = n * size ∧ Blk w' g L t := by
  rcases h.2 with ⟨h', _⟩ | ⟨g', cap', cur, h', _, hg, _, _, hs, htake⟩
  · simp at h'
  · simp only [Value.slice.injEq, Option.some.injEq, Addr.mk.injEq, and_true, true_and] at h'
    obtain ⟨rfl, rfl⟩ := h'
    exact ⟨cur.toList, by simp [hs], by unfold Blk; simpa using hg⟩

end Go.Proofs.Ytnpikbpngohimaa

/-
  shelf.copyOfList at rows, blocks, points and bits, whatever is handed: a slice of the call's own with the same cells.
-/
namespace Go.Proofs.Ytnpikbpngohimaa
open Go.RowKit

theorem infoCpR : (Try.prog.info? 41).map (fun i => (i.zero, i.size, i.bytes)) = some (some (.agg #[.slice none 0 0, .slice none 0 0]), 2, 48) := by kernel_rfl

set_option maxHeartbeats 400000 in
set_option maxRecDepth 100000 in
theorem copyR (ao : Option Addr) (cap : Nat) (C : List Value) (n : Nat) (w : World) (hrow : Row w ao C) (hle : n ≤ cap) (hnil : ao = none → cap = 0) (hlen : C.length = n * 2) (one : ∀ v ∈ C, v.oneCell' = true) (hl : n ≤ 1000000000000) :
    Calls Try.prog 108 #[.slice ao n cap] w fun e w' => ∃ g, e = .returned (.slice (some ⟨g, 0, none⟩) n n) ∧ Blk w' g C 41 ∧ w.heap.size ≤ g ∧ Below w.heap.size w w' := by
  obtain ⟨i0, hi, hz0, hz1, hz2⟩ := info_parts infoCpR
  have hsz : (Try.prog.info? 41).map (·.size) = some 2 := by rw [hi]; exact congrArg some hz1
  replace hlen := hide hlen
  cases ao with
  | none =>
    obtain rfl := hnil rfl
    obtain rfl : n = 0 := by omega
    obtain rfl : C = [] := List.eq_nil_of_length_eq_zero (by rw [hlen.out])
    clear hlen
    go_enter Try.func108, Try.ntmps108
    go_wp2_with (at_make; refine wpList_make_full _ rfl (.tmp 5) (.tmp 5) 22 rfl w.heap.size 41 i0 (.agg #[.slice none 0 0, .slice none 0 0]) 2 Try.underlying22 hi hz0 hz1 _ _ _ _ 0 rfl rfl rfl rfl (by rw [hz2]; omega) (by unfold maxLen; omega) (Nat.le_refl _) ?_)
    intro w1 own grow
    have bel : Below w.heap.size w w1 := (Below.refl _ _).grown grow (Nat.le_refl _) (fun k h => by cases h)
    obtain ⟨L, hL, B⟩ := madeW own
    obtain rfl : L = [] := List.eq_nil_of_length_eq_zero (by rw [hL])
    clear own grow
    go_wp2_with (refine wpList_copy_nil rfl (.tmp 7) (.tmp 8) 22 22 rfl 41 2 Try.underlying22 hsz w.heap.size 0 rfl rfl ?_)
    go_ret
    exact ⟨_, rfl, B, Nat.le_refl _, bel⟩
  | some ad =>
    go_enter Try.func108, Try.ntmps108
    go_wp2_with (at_make; refine wpList_make_full _ rfl (.tmp 5) (.tmp 5) 22 rfl w.heap.size 41 i0 (.agg #[.slice none 0 0, .slice none 0 0]) 2 Try.underlying22 hi hz0 hz1 _ _ _ _ n rfl rfl rfl rfl (by rw [hz2]; omega) (by unfold maxLen; omega) (Nat.le_refl _) ?_)
    intro w1 own grow
    have bel : Below w.heap.size w w1 := (Below.refl _ _).grown grow (Nat.le_refl _) (fun k h => by cases h)
    obtain ⟨L, hL, B⟩ := madeW own
    have hr := hrow.keep bel (Nat.le_refl _)
    have hsrc : ∀ j u, C[j]? = some u → w1.cell? (ad.add j) = some u := by
      intro j u hu
      obtain ⟨b', off', e, _, hc⟩ := hr.at (by intro e; rw [e] at hu; simp at hu)
      obtain rfl := Option.some.inj e
      rw [Addr.add_lit]
      exact hc j u hu
    have hfit : C.length = L.length := by rw [hlen.out, hL]
    replace hfit := hide hfit
    replace hL := hide hL
    clear own grow hr hrow
    generalize hg : w.heap.size = g at *
    go_wp2_with (refine wpList_copy_whole rfl (.tmp 7) (.tmp 8) 22 22 rfl 41 2 Try.underlying22 hsz g n n ad cap rfl rfl L 41 B C hlen.out hsrc hfit.out one g w bel (Nat.le_refl _) ?_)
    intro w2 B2 bel2
    go_wp2_with fail
    go_ret
    exact ⟨g, rfl, B2, by omega, by rw [hg]; exact bel2⟩

theorem infoCpB : (Try.prog.info? 83).map (fun i => (i.zero, i.size, i.bytes)) = some (some (.agg #[.int .i64 0, .int .i64 0, .int .i64 0, .slice none 0 0]), 4, 48) := by kernel_rfl

set_option maxHeartbeats 400000 in
set_option maxRecDepth 100000 in
theorem copyB (ao : Option Addr) (cap : Nat) (C : List Value) (n : Nat) (w : World) (hrow : Row w ao C) (hle : n ≤ cap) (hnil : ao = none → cap = 0) (hlen : C.length = n * 4) (one : ∀ v ∈ C, v.oneCell' = true) (hl : n ≤ 1000000000000) :
    Calls Try.prog 109 #[.slice ao n cap] w fun e w' => ∃ g, e = .returned (.slice (some ⟨g, 0, none⟩) n n) ∧ Blk w' g C 83 ∧ w.heap.size ≤ g ∧ Below w.heap.size w w' := by
  obtain ⟨i0, hi, hz0, hz1, hz2⟩ := info_parts infoCpB
  have hsz : (Try.prog.info? 83).map (·.size) = some 4 := by rw [hi]; exact congrArg some hz1
  replace hlen := hide hlen
  cases ao with
  | none =>
    obtain rfl := hnil rfl
    obtain rfl : n = 0 := by omega
    obtain rfl : C = [] := List.eq_nil_of_length_eq_zero (by rw [hlen.out])
    clear hlen
    go_enter Try.func109, Try.ntmps109
    go_wp2_with (at_make; refine wpList_make_full _ rfl (.tmp 5) (.tmp 5) 39 rfl w.heap.size 83 i0 (.agg #[.int .i64 0, .int .i64 0, .int .i64 0, .slice none 0 0]) 4 Try.underlying39 hi hz0 hz1 _ _ _ _ 0 rfl rfl rfl rfl (by rw [hz2]; omega) (by unfold maxLen; omega) (Nat.le_refl _) ?_)
    intro w1 own grow
    have bel : Below w.heap.size w w1 := (Below.refl _ _).grown grow (Nat.le_refl _) (fun k h => by cases h)
    obtain ⟨L, hL, B⟩ := madeW own
    obtain rfl : L = [] := List.eq_nil_of_length_eq_zero (by rw [hL])
    clear own grow
    go_wp2_with (refine wpList_copy_nil rfl (.tmp 7) (.tmp 8) 39 39 rfl 83 4 Try.underlying39 hsz w.heap.size 0 rfl rfl ?_)
    go_ret
    exact ⟨_, rfl, B, Nat.le_refl _, bel⟩
  | some ad =>
    go_enter Try.func109, Try.ntmps109
    go_wp2_with (at_make; refine wpList_make_full _ rfl (.tmp 5) (.tmp 5) 39 rfl w.heap.size 83 i0 (.agg #[.int .i64 0, .int .i64 0, .int .i64 0, .slice none 0 0]) 4 Try.underlying39 hi hz0 hz1 _ _ _ _ n rfl rfl rfl rfl (by rw [hz2]; omega) (by unfold maxLen; omega) (Nat.le_refl _) ?_)
    intro w1 own grow
    have bel : Below w.heap.size w w1 := (Below.refl _ _).grown grow (Nat.le_refl _) (fun k h => by cases h)
    obtain ⟨L, hL, B⟩ := madeW own
    have hr := hrow.keep bel (Nat.le_refl _)
    have hsrc : ∀ j u, C[j]? = some u → w1.cell? (ad.add j) = some u := by
      intro j u hu
      obtain ⟨b', off', e, _, hc⟩ := hr.at (by intro e; rw [e] at hu; simp at hu)
      obtain rfl := Option.some.inj e
      rw [Addr.add_lit]
      exact hc j u hu
    have hfit : C.length = L.length := by rw [hlen.out, hL]
    replace hfit := hide hfit
    replace hL := hide hL
    clear own grow hr hrow
    generalize hg : w.heap.size = g at *
    go_wp2_with (refine wpList_copy_whole rfl (.tmp 7) (.tmp 8) 39 39 rfl 83 4 Try.underlying39 hsz g n n ad cap rfl rfl L 83 B C hlen.out hsrc hfit.out one g w bel (Nat.le_refl _) ?_)
    intro w2 B2 bel2
    go_wp2_with fail
    go_ret
    exact ⟨g, rfl, B2, by omega, by rw [hg]; exact bel2⟩

theorem infoCpP : (Try.prog.info? 44).map (fun i => (i.zero, i.size, i.bytes)) = some (some (.agg #[.int .i64 0, .int .i64 0]), 2, 16) := by kernel_rfl

set_option maxHeartbeats 400000 in
set_option maxRecDepth 100000 in
theorem copyP (ao : Option Addr) (cap : Nat) (C : List Value) (n : Nat) (w : World) (hrow : Row w ao C) (hle : n ≤ cap) (hnil : ao = none → cap = 0) (hlen : C.length = n * 2) (one : ∀ v ∈ C, v.oneCell' = true) (hl : n ≤ 1000000000000) :
    Calls Try.prog 110 #[.slice ao n cap] w fun e w' => ∃ g, e = .returned (.slice (some ⟨g, 0, none⟩) n n) ∧ Blk w' g C 44 ∧ w.heap.size ≤ g ∧ Below w.heap.size w w' := by
  obtain ⟨i0, hi, hz0, hz1, hz2⟩ := info_parts infoCpP
  have hsz : (Try.prog.info? 44).map (·.size) = some 2 := by rw [hi]; exact congrArg some hz1
  replace hlen := hide hlen
  cases ao with
  | none =>
    obtain rfl := hnil rfl
    obtain rfl : n = 0 := by omega
    obtain rfl : C = [] := List.eq_nil_of_length_eq_zero (by rw [hlen.out])
    clear hlen
    go_enter Try.func110, Try.ntmps110
    go_wp2_with (at_make; refine wpList_make_full _ rfl (.tmp 5) (.tmp 5) 26 rfl w.heap.size 44 i0 (.agg #[.int .i64 0, .int .i64 0]) 2 Try.underlying26 hi hz0 hz1 _ _ _ _ 0 rfl rfl rfl rfl (by rw [hz2]; omega) (by unfold maxLen; omega) (Nat.le_refl _) ?_)
    intro w1 own grow
    have bel : Below w.heap.size w w1 := (Below.refl _ _).grown grow (Nat.le_refl _) (fun k h => by cases h)
    obtain ⟨L, hL, B⟩ := madeW own
    obtain rfl : L = [] := List.eq_nil_of_length_eq_zero (by rw [hL])
    clear own grow
    go_wp2_with (refine wpList_copy_nil rfl (.tmp 7) (.tmp 8) 26 26 rfl 44 2 Try.underlying26 hsz w.heap.size 0 rfl rfl ?_)
    go_ret
    exact ⟨_, rfl, B, Nat.le_refl _, bel⟩
  | some ad =>
    go_enter Try.func110, Try.ntmps110
    go_wp2_with (at_make; refine wpList_make_full _ rfl (.tmp 5) (.tmp 5) 26 rfl w.heap.size 44 i0 (.agg #[.int .i64 0, .int .i64 0]) 2 Try.underlying26 hi hz0 hz1 _ _ _ _ n rfl rfl rfl rfl (by rw [hz2]; omega) (by unfold maxLen; omega) (Nat.le_refl _) ?_)
    intro w1 own grow
    have bel : Below w.heap.size w w1 := (Below.refl _ _).grown grow (Nat.le_refl _) (fun k h => by cases h)
    obtain ⟨L, hL, B⟩ := madeW own
    have hr := hrow.keep bel (Nat.le_refl _)
    have hsrc : ∀ j u, C[j]? = some u → w1.cell? (ad.add j) = some u := by
      intro j u hu
      obtain ⟨b', off', e, _, hc⟩ := hr.at (by intro e; rw [e] at hu; simp at hu)
      obtain rfl := Option.some.inj e
      rw [Addr.add_lit]
      exact hc j u hu
    have hfit : C.length = L.length := by rw [hlen.out, hL]
    replace hfit := hide hfit
    replace hL := hide hL
    clear own grow hr hrow
    generalize hg : w.heap.size = g at *
    go_wp2_with (refine wpList_copy_whole rfl (.tmp 7) (.tmp 8) 26 26 rfl 44 2 Try.underlying26 hsz g n n ad cap rfl rfl L 44 B C hlen.out hsrc hfit.out one g w bel (Nat.le_refl _) ?_)
    intro w2 B2 bel2
    go_wp2_with fail
    go_ret
    exact ⟨g, rfl, B2, by omega, by rw [hg]; exact bel2⟩

theorem infoCpO : (Try.prog.info? 4).map (fun i => (i.zero, i.size, i.bytes)) = some (some (.bool false), 1, 1) := by kernel_rfl

set_option maxHeartbeats 400000 in
set_option maxRecDepth 100000 in
theorem copyO (ao : Option Addr) (cap : Nat) (C : List Value) (n : Nat) (w : World) (hrow : Row w ao C) (hle : n ≤ cap) (hnil : ao = none → cap = 0) (hlen : C.length = n * 1) (one : ∀ v ∈ C, v.oneCell' = true) (hl : n ≤ 140737488355328) :
    Calls Try.prog 111 #[.slice ao n cap] w fun e w' => ∃ g, e = .returned (.slice (some ⟨g, 0, none⟩) n n) ∧ Blk w' g C 4 ∧ w.heap.size ≤ g ∧ Below w.heap.size w w' := by
  obtain ⟨i0, hi, hz0, hz1, hz2⟩ := info_parts infoCpO
  have hsz : (Try.prog.info? 4).map (·.size) = some 1 := by rw [hi]; exact congrArg some hz1
  replace hlen := hide hlen
  cases ao with
  | none =>
    obtain rfl := hnil rfl
    obtain rfl : n = 0 := by omega
    obtain rfl : C = [] := List.eq_nil_of_length_eq_zero (by rw [hlen.out])
    clear hlen
    go_enter Try.func111, Try.ntmps111
    go_wp2_with (at_make; refine wpList_make_full _ rfl (.tmp 5) (.tmp 5) 81 rfl w.heap.size 4 i0 (.bool false) 1 Try.underlying81 hi hz0 hz1 _ _ _ _ 0 rfl rfl rfl rfl (by rw [hz2]; omega) (by unfold maxLen; omega) (Nat.le_refl _) ?_)
    intro w1 own grow
    have bel : Below w.heap.size w w1 := (Below.refl _ _).grown grow (Nat.le_refl _) (fun k h => by cases h)
    obtain ⟨L, hL, B⟩ := madeW own
    obtain rfl : L = [] := List.eq_nil_of_length_eq_zero (by rw [hL])
    clear own grow
    go_wp2_with (refine wpList_copy_nil rfl (.tmp 7) (.tmp 8) 81 81 rfl 4 1 Try.underlying81 hsz w.heap.size 0 rfl rfl ?_)
    go_ret
    exact ⟨_, rfl, B, Nat.le_refl _, bel⟩
  | some ad =>
    go_enter Try.func111, Try.ntmps111
    go_wp2_with (at_make; refine wpList_make_full _ rfl (.tmp 5) (.tmp 5) 81 rfl w.heap.size 4 i0 (.bool false) 1 Try.underlying81 hi hz0 hz1 _ _ _ _ n rfl rfl rfl rfl (by rw [hz2]; omega) (by unfold maxLen; omega) (Nat.le_refl _) ?_)
    intro w1 own grow
    have bel : Below w.heap.size w w1 := (Below.refl _ _).grown grow (Nat.le_refl _) (fun k h => by cases h)
    obtain ⟨L, hL, B⟩ := madeW own
    have hr := hrow.keep bel (Nat.le_refl _)
    have hsrc : ∀ j u, C[j]? = some u → w1.cell? (ad.add j) = some u := by
      intro j u hu
      obtain ⟨b', off', e, _, hc⟩ := hr.at (by intro e; rw [e] at hu; simp at hu)
      obtain rfl := Option.some.inj e
      rw [Addr.add_lit]
      exact hc j u hu
    have hfit : C.length = L.length := by rw [hlen.out, hL]
    replace hfit := hide hfit
    replace hL := hide hL
    clear own grow hr hrow
    generalize hg : w.heap.size = g at *
    go_wp2_with (refine wpList_copy_whole rfl (.tmp 7) (.tmp 8) 81 81 rfl 4 1 Try.underlying81 hsz g n n ad cap rfl rfl L 4 B C hlen.out hsrc hfit.out one g w bel (Nat.le_refl _) ?_)
    intro w2 B2 bel2
    go_wp2_with fail
    go_ret
    exact ⟨g, rfl, B2, by omega, by rw [hg]; exact bel2⟩

end Go.Proofs.Ytnpikbpngohimaa
