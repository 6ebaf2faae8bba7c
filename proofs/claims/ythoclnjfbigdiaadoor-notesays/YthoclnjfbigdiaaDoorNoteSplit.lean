/-
  Texts cut at blanks, as plain lists: strings.Split and strings.Cut at one blank; what is cut and what is laid together. No program is named.
-/
import Derived.Test.YthoclnjfbigdiaaDoorNoteParse
import Derived.Lib.Split
namespace Go.Proofs.YthoclnjfbigdiaaDoor
open Go.Lib (index splitK count)

/-- The words between blanks. -/
def sp : List UInt8 → List (List UInt8)
  | [] => [[]]
  | c :: r => if c = 32 then [] :: sp r else (c :: (sp r).headD []) :: (sp r).tail

theorem sp_ne (l : List UInt8) : sp l ≠ [] := by
  cases l with
  | nil => simp [sp]
  | cons c r => unfold sp; split <;> simp

theorem sp_none : ∀ l : List UInt8, (∀ c ∈ l, c ≠ 32) → sp l = [l]
  | [], _ => rfl
  | c :: r, h => by
    rw [sp, if_neg (h c List.mem_cons_self), sp_none r (fun x hx => h x (List.mem_cons_of_mem _ hx))]
    rfl

theorem sp_some : ∀ (p q : List UInt8), (∀ c ∈ p, c ≠ 32) → sp (p ++ 32 :: q) = p :: sp q
  | [], q, _ => by rw [List.nil_append, sp, if_pos rfl]
  | c :: r, q, h => by
    rw [List.cons_append, sp, if_neg (h c List.mem_cons_self), sp_some r q (fun x hx => h x (List.mem_cons_of_mem _ hx))]
    rfl

/-- Where the first blank is. -/
theorem index_blank : ∀ l : List UInt8, (index l [32] = -1 ∧ ∀ c ∈ l, c ≠ 32) ∨ (∃ p q, l = p ++ 32 :: q ∧ (∀ c ∈ p, c ≠ 32) ∧ index l [32] = p.length)
  | [] => .inl ⟨rfl, fun c h => by simp at h⟩
  | c :: r => by
    by_cases hc : c = 32
    · subst hc
      exact .inr ⟨[], r, rfl, fun c h => by simp at h, by simp [index]⟩
    · have hp : ([32] : List UInt8).isPrefixOf (c :: r) = false := by simp [List.isPrefixOf, Ne.symm hc]
      rcases index_blank r with ⟨h1, h2⟩ | ⟨p, q, rfl, h2, h3⟩
      · left
        refine ⟨by rw [index, hp, h1]; rfl, fun x hx => ?_⟩
        rcases List.mem_cons.1 hx with rfl | hx
        · exact hc
        · exact h2 x hx
      · right
        refine ⟨c :: p, q, rfl, fun x hx => ?_, ?_⟩
        · rcases List.mem_cons.1 hx with rfl | hx
          · exact hc
          · exact h2 x hx
        · rw [index, hp, h3]
          have : ((p.length : Int) == -1) = false := by simp
          simp [this]

theorem split_sp : ∀ (n : Nat) (l : List UInt8), l.length ≤ n → splitK [32] 0 (count l [32]) l = sp l := by
  intro n
  induction n with
  | zero =>
    intro l h
    obtain rfl := List.length_eq_zero_iff.1 (Nat.le_zero.1 h)
    rw [Lib.count_miss rfl]
    rfl
  | succ n ih =>
    intro l h
    rcases index_blank l with ⟨h1, h2⟩ | ⟨p, q, rfl, h2, h3⟩
    · rw [Lib.count_miss h1, sp_none l h2]
      rfl
    · have hd : (p ++ 32 :: q).drop (p.length + 1) = q := by
        rw [show p.length + 1 = (p ++ [32]).length by simp, show p ++ 32 :: q = (p ++ [32]) ++ q by simp, List.drop_left]
      rw [Lib.count_hit (by simp) h3, Nat.add_comm 1, splitK, h3, sp_some p q h2]
      have hne : ((p.length : Int) == -1) = false := by simp
      rw [hne]
      simp only [Bool.false_eq_true, if_false, Int.toNat_natCast, List.length_cons, List.length_nil, Nat.zero_add, Nat.add_zero]
      rw [hd, ih q (by simp at h; omega), List.take_left]

theorem words_sp (s : ByteArray) : (wordsB s).map bytes = sp (bytes s) := by
  unfold wordsB
  have h := Lib.splitB_data blank 0 (Lib.countB s blank) s
  exact h.trans (split_sp _ (bytes s) (Nat.le_refl _))

theorem textR_sp (s : ByteArray) : textR s = readR (sp (bytes s)) := by
  unfold textR
  rw [words_sp]

/-- Words laid together, a blank between them. -/
def jn32 : List (List UInt8) → List UInt8
  | [] => []
  | w :: r => w ++ r.flatMap (fun x => 32 :: x)

theorem jn_sp : ∀ l : List UInt8, jn32 (sp l) = l
  | [] => rfl
  | c :: r => by
    have ih := jn_sp r
    obtain ⟨w, ws, hw⟩ := List.exists_cons_of_ne_nil (sp_ne r)
    rw [hw] at ih
    unfold sp
    split
    · rename_i h
      subst h
      rw [hw, jn32, List.nil_append, List.flatMap_cons, ← ih]
      simp [jn32]
    · rw [hw, ← ih]
      simp [jn32]

theorem sp_jn : ∀ (ws : List (List UInt8)) (w : List UInt8), (∀ x ∈ w :: ws, ∀ c ∈ x, c ≠ 32) → sp (jn32 (w :: ws)) = w :: ws
  | [], w, h => by
    rw [jn32, List.flatMap_nil, List.append_nil]
    exact sp_none w (h w List.mem_cons_self)
  | x :: r, w, h => by
    have ih := sp_jn r x (fun y hy => h y (List.mem_cons_of_mem _ hy))
    rw [jn32] at ih
    rw [jn32, List.flatMap_cons, List.cons_append, sp_some w _ (h w List.mem_cons_self), ih]

end Go.Proofs.YthoclnjfbigdiaaDoor
