/-
  copy between slices of points (two cells an element), the target a row that the call itself made; and what two copies, one behind the other, leave of such a row.
-/
import Derived.Test.YtpeeeealbfmklacPoints
import Derived.Laws.CopyOwn
namespace Go.Proofs.Ytpeeeealbfmklac
open Go.RowKit

theorem run_copy_two {P : Program} (w : World) (dT sT ty elem : TypeId) (g o dLen dCap : Nat) (a : Addr) (sLen sCap : Nat) (cur : List Value) (t : TypeId) (cs : List Value)
    (hu : P.underlying dT = some (.slice elem)) (hs : (P.info? elem).map (·.size) = some 2)
    (hg : w.heap[g]? = some (.cells cur.toArray t (0, 0))) (hn : cs.length = Nat.min sLen dLen * 2)
    (hsrc : ∀ j v, cs[j]? = some v → w.cell? (a.add j) = some v) (hfit : o + cs.length ≤ cur.length) (h1 : ∀ v ∈ cs, v.oneCell' = true) :
    (Builtin.copy_ #[dT, sT] ty #[.slice (some ⟨g, o, none⟩) dLen dCap, .slice (some a) sLen sCap]).run P w =
      .ok (goInt (Nat.min sLen dLen)) (w.setRow g (splice cur o cs).toArray) := by
  have hl := run_loadCells_list (P := P) w a cs hsrc
  have hst := run_storeCells_at P g o t cs 0 cur.toArray w hg (by simpa using hfit) h1
  cases hq : P.info? elem with
  | none => simp [hq] at hs
  | some i =>
    have hi : i.size = 2 := by simpa [hq] using hs
    simp [Builtin.copy_, run_underlying hu, Builtin.lenOf, Builtin.firstCells, sizeOf, typeInfo, hq, hi, ← hn, hl, hst, splice]

theorem wpList_copy_two {P : Program} {w : World} {ops : Array Oper} {rest : List Oper} {o : Oper} {a : Act} {Q : Exit → Act → World → Prop} (hgd : o.guard = none) (d s : Operand) (dT sT : TypeId)
    (ho : o.op = .call { callee := .builtin .copy, args := #[d, s], argTypes := #[dT, sT] }) (elem : TypeId) (hu : P.underlying dT = some (.slice elem)) (hsz : (P.info? elem).map (·.size) = some 2)
    (g off dLen dCap : Nat) (ad : Addr) (sLen sCap : Nat) (hd : a.eval d = .slice (some ⟨g, off, none⟩) dLen dCap) (hs : a.eval s = .slice (some ad) sLen sCap)
    (cur : List Value) (t : TypeId) (hg : Blk w g cur t) (l : List Pt) (hn : l.length = Nat.min sLen dLen)
    (hsrc : ∀ j v, (cellsP l)[j]? = some v → w.cell? (ad.add j) = some v) (hfit : off + l.length * 2 ≤ cur.length) (B : Nat) (w0 : World) (hb : Below B w0 w) (hBg : B ≤ g)
    (h : ∀ w', Blk w' g (splice cur off (cellsP l)) t → Below B w0 w' → w.grownBy w' (some g) → wpList P ops Q rest (a.put o.dst (goInt l.length)) w') : wpList P ops Q (o :: rest) a w := by
  refine wpList_plain hgd fun K hK => ?_
  have hrun := run_copy_two (P := P) w dT sT o.type elem g off dLen dCap ad sLen sCap cur t (cellsP l) hu hsz hg (by rw [cellsP_length, hn]) hsrc (by rw [cellsP_length]; exact hfit) (cellsP_one l)
  rw [← hn] at hrun
  unfold Oper.wp
  simp [execOp, ho, resolve, invoke, builtin, hd, hs, hrun, Result.andThen]
  refine hK _ _ (h _ (setRow_heap w g _ _ t _ hg) (below_setRow hb hBg _) ?_)
  have b0 : Below 0 w (w.setRow g (splice cur off (cellsP l)).toArray) := below_setRow (Below.refl 0 w) (Nat.zero_le _) _
  refine ⟨b0.os, b0.tape, b0.output, b0.size, fun k hk hne => ?_⟩
  have b1 : Below g w (w.setRow g (splice cur off (cellsP l)).toArray) := below_setRow (Below.refl g w) (Nat.le_refl _) _
  unfold World.setRow
  simp only [Array.getElem?_modify]
  rw [if_neg (by intro e; exact hne (by rw [e]))]

/-- Two copies that fill a row. -/
theorem splice2 {α : Type} (Z X Y : List α) (k : Nat) (hk : X.length = k) (hZ : Z.length = k + Y.length) : splice (splice Z 0 X) k Y = X ++ Y := by
  subst hk
  have e1 : splice Z 0 X = X ++ Z.drop X.length := by simp [splice]
  rw [e1]
  unfold splice
  rw [List.take_left' rfl, List.drop_eq_nil_of_le (by simp; omega), List.append_nil]

/-- What make has laid of points, as a block. -/
theorem madePts {w' : World} {g n : Nat} {cs : List Value} {t : TypeId} (h : w'.ownsRow g t 2 (.slice (some ⟨g, 0, none⟩) n n) n cs) : ∃ L : List Value, L.length = n * 2 ∧ Blk w' g L t := by
  rcases h.2 with ⟨h', _⟩ | ⟨g', cap', cur, h', _, hg, _, _, hs, htake⟩
  · simp at h'
  · simp only [Value.slice.injEq, Option.some.injEq, Addr.mk.injEq, and_true, true_and] at h'
    obtain ⟨rfl, rfl⟩ := h'
    exact ⟨cur.toList, by simp [hs], by unfold Blk; simpa using hg⟩

theorem SlP.src {w : World} {ao : Option Addr} {cap : Nat} {l : List Pt} (h : SlP w ao cap l) : ∀ ad, ao = some ad → ∀ j u, (cellsP l)[j]? = some u → w.cell? (ad.add j) = some u := by
  intro ad had j u hu
  obtain ⟨b, off, e, _, hc⟩ := h.row.at (by intro e; rw [e] at hu; simp at hu)
  rw [e] at had
  obtain rfl := Option.some.inj had
  rw [Addr.add_lit]
  exact hc j u hu

theorem SlP.ofBlk {w : World} {g : Nat} {l : List Pt} {t : TypeId} (h : Blk w g (cellsP l) t) (n : Nat) (hn : l.length = n) (hm : n ≤ 9223372036854775807) : SlP w (some ⟨g, 0, none⟩) n l :=
  ⟨h.row 0 (cellsP l) (fun i v hv => by rw [Nat.zero_add]; exact hv), by omega, hm, fun e => by cases e⟩

end Go.Proofs.Ytpeeeealbfmklac
