/-
  What is packed is unpacked, and the other way; the first points are the beginning of all; steady points take 8 bits: facts of lists, no program is named.
-/
import Derived.Test.YtpeeeealbfmklacPack
namespace Go.Proofs.Ytpeeeealbfmklac
open Go.RowKit

theorem zig_of {v : Int} (r : List Bool) (h : zigOk v = true) : zigN (code 8 (foldN v) ++ r) = v ∧ zigR (code 8 (foldN v) ++ r) = r ∧ zigF (code 8 (foldN v) ++ r) = 0 := by
  unfold zigN zigR zigF
  rw [zig_taken v r h]
  exact ⟨rfl, rfl, rfl⟩

/-- One step of unp, on bits that were packed. -/
theorem unp_pk (n : Nat) {t v s last : Int} {p : Pt} {r : List Pt} (h : chk last (p :: r) = 0) (ht : 0 ≤ t ∧ t ≤ 100000) (hl : t ≤ last + 1) (hv : -1000000 ≤ v ∧ v ≤ 1000000) (hs : 0 ≤ s ∧ s ≤ 100000) :
    unp (n + 1) t v s last (pk t v s (p :: r)) = (if (unp n p.1 p.2 (p.1 - t) p.1 (pk p.1 p.2 (p.1 - t) r)).2 = 0 then p :: (unp n p.1 p.2 (p.1 - t) p.1 (pk p.1 p.2 (p.1 - t) r)).1 else [], (unp n p.1 p.2 (p.1 - t) p.1 (pk p.1 p.2 (p.1 - t) r)).2) := by
  obtain ⟨z1, z2, _, _, _⟩ := zig_fits h ht hl hv hs
  obtain ⟨h1, h2, _⟩ := chk_cons h
  rw [unp, pk, List.append_assoc]
  obtain ⟨a1, a2, a3⟩ := zig_of (code 8 (foldN (p.2 - v)) ++ pk p.1 p.2 (p.1 - t) r) z1
  obtain ⟨b1, b2, b3⟩ := zig_of (pk p.1 p.2 (p.1 - t) r) z2
  rw [a3, if_neg (fun h => h rfl), a2, b3, if_neg (fun h => h rfl), a1, b1, b2]
  have e1 : t + (s + (p.1 - t - s)) = p.1 := by omega
  have e2 : v + (p.2 - v) = p.2 := by omega
  have e3 : s + (p.1 - t - s) = p.1 - t := by omega
  rw [e1, e2, e3, if_neg (by rw [show (p.1, p.2) = p from rfl, h1]; decide), if_neg (by omega)]

theorem unp_all : ∀ (r : List Pt) (t v s last : Int), chk last r = 0 → (0 ≤ t ∧ t ≤ 100000) → t ≤ last + 1 → (-1000000 ≤ v ∧ v ≤ 1000000) → (0 ≤ s ∧ s ≤ 100000) → unp r.length t v s last (pk t v s r) = (r, 0)
  | [], t, v, s, last, _, _, _, _, _ => by simp [unp, pk]
  | p :: r, t, v, s, last, h, ht, hl, hv, hs => by
    rw [List.length_cons, unp_pk r.length h ht hl hv hs]
    obtain ⟨_, _, hx, hy, hz⟩ := zig_fits h ht hl hv hs
    rw [unp_all r p.1 p.2 (p.1 - t) p.1 (chk_cons h).2.2 hx (by omega) hy hz]
    rfl

theorem code_pos (n : Nat) : 4 ≤ (code 8 n).length := by
  rw [code]
  simp [grp]

theorem unp_few : ∀ (r : List Pt) (n : Nat) (t v s last : Int), n < r.length → chk last r = 0 → (0 ≤ t ∧ t ≤ 100000) → t ≤ last + 1 → (-1000000 ≤ v ∧ v ≤ 1000000) → (0 ≤ s ∧ s ≤ 100000) → (unp n t v s last (pk t v s r)).2 = 8
  | [], n, t, v, s, last, hn, _, _, _, _, _ => absurd hn (Nat.not_lt_zero _)
  | p :: r, 0, t, v, s, last, _, _, _, _, _, _ => by
    rw [unp]
    have h1 := code_pos (foldN (p.1 - t - s))
    have : ¬ (pk t v s (p :: r)).length = 0 := by rw [pk, List.length_append, List.length_append]; omega
    simp only
    rw [if_neg this]
  | p :: r, n + 1, t, v, s, last, hn, h, ht, hl, hv, hs => by
    rw [unp_pk n h ht hl hv hs]
    obtain ⟨_, _, hx, hy, hz⟩ := zig_fits h ht hl hv hs
    exact unp_few r n p.1 p.2 (p.1 - t) p.1 (by simpa using hn) (chk_cons h).2.2 hx (by omega) hy hz

theorem pack_unpack {l : List Pt} (h : checkE l = 0) : unpL (packL l) l.length = l ∧ unpE (packL l) l.length = 0 := by
  obtain ⟨h40, hc⟩ := checkE_zero h
  have hi : unpIn (l.length : Int) = true := decide_eq_true (by omega)
  have e : packL l = pk 0 0 0 l := if_pos h
  have := unp_all l 0 0 0 (-1) hc (by omega) (by omega) (by omega) (by omega)
  unfold unpL unpE
  rw [if_pos hi, if_pos hi, e, Int.toNat_natCast, this]
  exact ⟨rfl, rfl⟩

theorem pack_few {l : List Pt} (h : checkE l = 0) (hl : 0 < l.length) : ¬ unpE (packL l) ((l.length : Int) - 1) = 0 := by
  obtain ⟨h40, hc⟩ := checkE_zero h
  have hi : unpIn ((l.length : Int) - 1) = true := decide_eq_true (by omega)
  have e : packL l = pk 0 0 0 l := if_pos h
  have := unp_few l ((l.length : Int) - 1).toNat 0 0 0 (-1) (by omega) hc (by omega) (by omega) (by omega) (by omega)
  unfold unpE
  rw [if_pos hi, e, this]
  decide

theorem unp_back : ∀ (n : Nat) (t v s last : Int) (b : List Bool), (unp n t v s last b).2 = 0 → (unp n t v s last b).1.length = n ∧ chk last (unp n t v s last b).1 = 0 ∧ pk t v s (unp n t v s last b).1 = b
  | 0, t, v, s, last, b, h => by
    rw [unp] at h ⊢
    by_cases h0 : b.length = 0
    · obtain rfl := List.eq_nil_of_length_eq_zero h0
      exact ⟨rfl, rfl, rfl⟩
    · simp only at h
      rw [if_neg h0] at h
      cases h
  | n + 1, t, v, s, last, b, h => by
    rw [unp] at h ⊢
    by_cases h1 : zigF b = 0
    · rw [if_neg (fun h => h h1)] at h ⊢
      by_cases h2 : zigF (zigR b) = 0
      · rw [if_neg (fun h => h h2)] at h ⊢
        by_cases h3 : ptOk (t + (s + zigN b), v + zigN (zigR b)) = false
        · rw [if_pos h3] at h; cases h
        rw [if_neg h3] at h ⊢
        by_cases h4 : t + (s + zigN b) ≤ last
        · rw [if_pos h4] at h; cases h
        rw [if_neg h4] at h ⊢
        simp only at h ⊢
        obtain ⟨i1, i2, i3⟩ := unp_back n (t + (s + zigN b)) (v + zigN (zigR b)) (s + zigN b) (t + (s + zigN b)) (zigR (zigR b)) h
        rw [if_pos h]
        refine ⟨by rw [List.length_cons, i1], ?_, ?_⟩
        · rw [chk, if_neg h3, if_neg h4]; exact i2
        · rw [pk]
          simp only
          have e1 : t + (s + zigN b) - t - s = zigN b := by omega
          have e2 : v + zigN (zigR b) - v = zigN (zigR b) := by omega
          have e3 : t + (s + zigN b) - t = s + zigN b := by omega
          rw [e1, e2, e3, i3, List.append_assoc, (zig_put _ h2).2, (zig_put _ h1).2]
      · rw [if_pos h2] at h; exact absurd h h2
    · rw [if_pos h1] at h; exact absurd h h1

theorem unpack_pack {b : List Bool} {n : Int} (h : unpE b n = 0) : checkE (unpL b n) = 0 ∧ packL (unpL b n) = b ∧ ((unpL b n).length : Int) = n := by
  unfold unpE at h
  unfold unpL
  cases hi : unpIn n with
  | false => rw [hi] at h; cases h
  | true =>
    have hn := (of_decide_eq_true hi : 0 ≤ n ∧ n ≤ 40)
    rw [hi, if_pos rfl] at h
    rw [if_pos rfl]
    obtain ⟨i1, i2, i3⟩ := unp_back n.toNat 0 0 0 (-1) b h
    have hc : checkE (unp n.toNat 0 0 0 (-1) b).1 = 0 := by
      unfold checkE
      rw [if_neg (by omega)]
      exact i2
    refine ⟨hc, ?_, by rw [i1]; omega⟩
    unfold packL
    rw [if_pos hc]
    exact i3

/-- The place behind some points. -/
def placeOf : Int → Int → Int → List Pt → Int × Int × Int
  | t, v, s, [] => (t, v, s)
  | t, _, _, p :: r => placeOf p.1 p.2 (p.1 - t) r

theorem pk_append : ∀ (a c : List Pt) (t v s : Int), pk t v s (a ++ c) = pk t v s a ++ pk (placeOf t v s a).1 (placeOf t v s a).2.1 (placeOf t v s a).2.2 c
  | [], c, t, v, s => rfl
  | p :: r, c, t, v, s => by
    rw [List.cons_append, pk, pk, placeOf, pk_append r c p.1 p.2 (p.1 - t), List.append_assoc, List.append_assoc, List.append_assoc]

theorem pk_length_ge : ∀ (t v s : Int) (l : List Pt), 8 * l.length ≤ (pk t v s l).length
  | _, _, _, [] => by simp [pk]
  | t, v, s, p :: r => by
    have h1 := code_pos (foldN (p.1 - t - s))
    have h2 := code_pos (foldN (p.2 - v))
    have h3 := pk_length_ge p.1 p.2 (p.1 - t) r
    simp only [pk, List.length_append, List.length_cons]
    omega

theorem check_take {l : List Pt} (h : checkE l = 0) (k : Nat) : checkE (l.take k) = 0 := by
  obtain ⟨h40, hc⟩ := checkE_zero h
  unfold checkE
  rw [if_neg (by rw [List.length_take]; omega)]
  rw [← List.take_append_drop k l, chk_append] at hc
  split at hc
  · assumption
  · exact absurd hc (by assumption)

theorem begins {l : List Pt} (h : checkE l = 0) (k : Nat) : ∃ c, packL l = packL (l.take k) ++ c ∧ 8 * (l.length - k) ≤ c.length ∧ c.length ≤ 64 * (l.length - k) := by
  refine ⟨pk (placeOf 0 0 0 (l.take k)).1 (placeOf 0 0 0 (l.take k)).2.1 (placeOf 0 0 0 (l.take k)).2.2 (l.drop k), ?_, ?_, ?_⟩
  · unfold packL
    rw [if_pos h, if_pos (check_take h k), ← pk_append, List.take_append_drop]
  · have := pk_length_ge (placeOf 0 0 0 (l.take k)).1 (placeOf 0 0 0 (l.take k)).2.1 (placeOf 0 0 0 (l.take k)).2.2 (l.drop k)
    rw [List.length_drop] at this
    exact this
  · have := pk_length (placeOf 0 0 0 (l.take k)).1 (placeOf 0 0 0 (l.take k)).2.1 (placeOf 0 0 0 (l.take k)).2.2 (l.drop k)
    rw [List.length_drop] at this
    exact this

/-- Points a step apart. -/
def steady (t st v : Int) : Nat → List Pt
  | 0 => []
  | m + 1 => (t, v) :: steady (t + st) st v m

theorem steady_length : ∀ (m : Nat) (t st v : Int), (steady t st v m).length = m
  | 0, _, _, _ => rfl
  | m + 1, t, st, v => by rw [steady, List.length_cons, steady_length m]

theorem steady_snoc : ∀ (m : Nat) (t st v : Int), steady t st v (m + 1) = steady t st v m ++ [(t + m * st, v)]
  | 0, t, st, v => by simp [steady]
  | m + 1, t, st, v => by
    rw [steady, steady_snoc m, steady, List.cons_append]
    have : t + st + (m : Int) * st = t + ((m + 1 : Nat) : Int) * st := by
      rw [Int.natCast_add, Int.add_mul, Int.add_assoc, Int.add_comm st]
      simp
    rw [this]

theorem steady_chk : ∀ (m : Nat) (t st v last : Int), last < t → 0 ≤ t → 1 ≤ st → st ≤ 1000 → t + 1000 * 0 + st * m ≤ 100000 → (-1000000 ≤ v ∧ v ≤ 1000000) → chk last (steady t st v m) = 0
  | 0, _, _, _, _, _, _, _, _, _, _ => rfl
  | m + 1, t, st, v, last, hl, ht, hs, hs2, hm, hv => by
    have hm2 : st * ((m + 1 : Nat) : Int) = st * m + st := by rw [Int.natCast_add, Int.mul_add]; simp
    have h0 : 0 ≤ st * (m : Int) := Int.mul_nonneg (by omega) (by omega)
    rw [hm2] at hm
    rw [steady, chk, if_neg (by rw [show ptOk (t, v) = true from decide_eq_true ⟨ht, by show t ≤ 100000; omega, hv⟩]; decide), if_neg (by simp only; omega)]
    exact steady_chk m (t + st) st v t (by omega) (by omega) hs hs2 (by omega) hv

theorem steady_pk : ∀ (m : Nat) (t st v : Int), (pk t v st (steady (t + st) st v m)).length = 8 * m
  | 0, _, _, _ => rfl
  | m + 1, t, st, v => by
    have e1 : t + st - t - st = 0 := by omega
    have e2 : v - v = 0 := by omega
    have e3 : t + st - t = st := by omega
    have h0 : (code 8 (foldN 0)).length = 4 := by decide +kernel
    rw [steady, pk, e1, e2, e3, List.length_append, List.length_append, steady_pk m (t + st) st v, h0]
    omega

theorem steady_bits {f st v : Int} (m : Nat) (hf : 0 ≤ f) (hs : 1 ≤ st) (hs2 : st ≤ 1000) (hm : f + st * ((m + 2 : Nat) : Int) ≤ 100000) (h40 : m + 2 ≤ 40) (hv : -1000000 ≤ v ∧ v ≤ 1000000) :
    checkE (steady f st v (m + 2)) = 0 ∧ checkE ((steady f st v (m + 2)).take 2) = 0 ∧ (packL (steady f st v (m + 2))).length = (packL ((steady f st v (m + 2)).take 2)).length + 8 * m := by
  have h : checkE (steady f st v (m + 2)) = 0 := by
    unfold checkE
    rw [if_neg (by rw [steady_length]; omega)]
    exact steady_chk (m + 2) f st v (-1) (by omega) hf hs hs2 (by omega) hv
  have h2 := check_take h 2
  refine ⟨h, h2, ?_⟩
  have e : steady f st v (m + 2) = [(f, v), (f + st, v)] ++ steady (f + st + st) st v m := rfl
  have e' : (steady f st v (m + 2)).take 2 = [(f, v), (f + st, v)] := rfl
  unfold packL
  rw [if_pos h, if_pos h2, e', e, pk_append, List.length_append]
  have e3 : f + st - f = st := by omega
  have : placeOf 0 0 0 [(f, v), (f + st, v)] = (f + st, v, st) := by simp [placeOf, e3]
  rw [this, steady_pk]

end Go.Proofs.Ytpeeeealbfmklac
