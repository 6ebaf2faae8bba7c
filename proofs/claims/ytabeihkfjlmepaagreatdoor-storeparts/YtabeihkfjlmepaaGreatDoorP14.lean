/-
  The contracts of package disk, and of the reference, over disks in boxes: what they answer as it is laid into a box.
-/
import Derived.Deep.RegionHeld3
import Derived.Deep.Cut
import Derived.Deep.CutRange
import Derived.Test.YtabeihkfjlmepaaGreatDoorRows
import Derived.Test.YtabeihkfjlmepaaGreatDoorCards
import Derived.Test.YtabeihkfjlmepaaGreatDoorTie
import Derived.ProofKit
import Derived.ChangeMaps5
import Derived.LaidMore
import Derived.Stop.Joined
import Derived.SevenTiedAt
import Derived.Test.YtabeihkfjlmepaaGreatDoorP09
import Derived.Test.YtabeihkfjlmepaaGreatDoorP10
import Derived.Test.YtabeihkfjlmepaaGreatDoorP12
import Derived.Test.YtabeihkfjlmepaaGreatDoorP13
import Derived.Test.YtabeihkfjlmepaaGreatDoorP01
import Derived.Test.YtabeihkfjlmepaaGreatDoorP03
import Derived.Test.YtabeihkfjlmepaaGreatDoorP07
namespace Go.Proofs.YtabeihkfjlmepaaGreatDoor
open Go.RowKit
open Go.Lib (byteCells)

/-- A disk that was answered, in a box just laid. -/
def LaidD (W : World) (D : Dk) (E : Int) (e : Ending) (w' : World) : Prop :=
  ∃ (a1 : Option Addr) (n1 c1 : Nat) (a2 : Option Addr) (n2 c2 : Nat), e = .returned (.tuple #[.agg #[.slice a1 n1 c1, .slice a2 n2 c2], .int .i64 E]) ∧
    DkB (w'.alloc (.cells #[.slice a1 n1 c1, .slice a2 n2 c2] 24)) w'.heap.size a1 n1 c1 a2 n2 c2 D ∧ Below W.heap.size W (w'.alloc (.cells #[.slice a1 n1 c1, .slice a2 n2 c2] 24))

theorem AnsD.laid {W w' : World} {D : Dk} {E : Int} {e : Ending} (h : AnsD W D E e w') : LaidD W D E e w' := by
  obtain ⟨a1, a2, n1, n2, c1, c2, he, h1, h2, s1, s2, b⟩ := h
  exact ⟨a1, n1, c1, a2, n2, c2, he, ⟨Blk.laid w' [.slice a1 n1 c1, .slice a2 n2 c2] _ _ rfl, h1, h2, s1.alloc _, s2.alloc _⟩, newB b _⟩

def LaidR (W : World) (D : Dk) (L : List Rc) (E : Int) (e : Ending) (w' : World) : Prop :=
  ∃ (a1 : Option Addr) (n1 c1 : Nat) (a2 : Option Addr) (n2 c2 : Nat) (a3 : Option Addr) (n3 G3 : Nat) (l : List Lrc), e = .returned (.tuple #[.agg #[.slice a1 n1 c1, .slice a2 n2 c2], .slice a3 n3 G3, .int .i64 E]) ∧
    DkB (w'.alloc (.cells #[.slice a1 n1 c1, .slice a2 n2 c2] 24)) w'.heap.size a1 n1 c1 a2 n2 c2 D ∧ SlRec (w'.alloc (.cells #[.slice a1 n1 c1, .slice a2 n2 c2] 24)) a3 G3 l ∧ Hid (n3 = l.length) ∧ Hid (l.map (·.r) = L) ∧ Below W.heap.size W (w'.alloc (.cells #[.slice a1 n1 c1, .slice a2 n2 c2] 24))

theorem AnsR.laid {W w' : World} {D : Dk} {L : List Rc} {E : Int} {e : Ending} (h : AnsR W D L E e w') : LaidR W D L E e w' := by
  obtain ⟨a1, a2, a3, n1, n2, c1, c2, n3, G3, l, he, h1, h2, s1, s2, R, hl, b⟩ := h
  exact ⟨a1, n1, c1, a2, n2, c2, a3, n3, G3, l, he, ⟨Blk.laid w' [.slice a1 n1 c1, .slice a2 n2 c2] _ _ rfl, h1, h2, s1.alloc _, s2.alloc _⟩, R.sl.call (newB (Below.refl _ _) _), R.len, hl, newB b _⟩

def LaidQ (W : World) (D : Dk) (L : List Rc) (e : Ending) (w' : World) : Prop :=
  ∃ (a1 : Option Addr) (n1 c1 : Nat) (a2 : Option Addr) (n2 c2 : Nat) (a3 : Option Addr) (n3 G3 : Nat) (l : List Lrc), e = .returned (.tuple #[.agg #[.slice a1 n1 c1, .slice a2 n2 c2], .slice a3 n3 G3]) ∧
    DkB (w'.alloc (.cells #[.slice a1 n1 c1, .slice a2 n2 c2] 24)) w'.heap.size a1 n1 c1 a2 n2 c2 D ∧ SlRec (w'.alloc (.cells #[.slice a1 n1 c1, .slice a2 n2 c2] 24)) a3 G3 l ∧ Hid (n3 = l.length) ∧ Hid (l.map (·.r) = L) ∧ Below W.heap.size W (w'.alloc (.cells #[.slice a1 n1 c1, .slice a2 n2 c2] 24))

theorem AnsQ.laid {W w' : World} {D : Dk} {L : List Rc} {e : Ending} (h : AnsQ W D L e w') : LaidQ W D L e w' := by
  obtain ⟨a1, a2, a3, n1, n2, c1, c2, n3, G3, l, he, h1, h2, s1, s2, R, hn, hl, b⟩ := h
  exact ⟨a1, n1, c1, a2, n2, c2, a3, n3, G3, l, he, ⟨Blk.laid w' [.slice a1 n1 c1, .slice a2 n2 c2] _ _ rfl, h1, h2, s1.alloc _, s2.alloc _⟩, R.call (newB (Below.refl _ _) _), hn, hl, newB b _⟩

variable {W : World} {g : Nat} {a1 : Option Addr} {n1 c1 : Nat} {a2 : Option Addr} {n2 c2 : Nat} {d : Dk}

theorem put_box (D : DkB W g a1 n1 c1 a2 n2 c2 d) (hg : Gl W) (few : d.safe.length + d.wait.length ≤ 9223372036854775807) (r : Rc) {a3 : Option Addr} {c3 n3 : Nat} (s3 : SlW ec W a3 c3 r.e) (h3 : Hid (n3 = r.e.length)) :
    Calls Tryz.prog 5 #[.agg #[.slice a1 n1 c1, .slice a2 n2 c2], .agg #[.int .i64 r.k, .int .i64 r.s, .int .i64 r.n, .slice a3 n3 c3]] W (LaidD W (dputD d r) (dputE d r)) :=
  (dput_any d r a1 a2 a3 c1 c2 c3 n1 n2 n3 W hg D.s1 D.s2 s3 D.e1 D.e2 h3 (by rw [D.e1, D.e2]; exact few)).mono fun _ _ h => h.laid

theorem sync_box (D : DkB W g a1 n1 c1 a2 n2 c2 d) (hg : Gl W) (few : d.safe.length + d.wait.length ≤ 9223372036854775807) :
    Calls Tryz.prog 6 #[.agg #[.slice a1 n1 c1, .slice a2 n2 c2]] W (LaidD W (syncD d) (syncE d)) :=
  (sync_any d a1 a2 c1 c2 n1 n2 W hg D.s1 D.s2 D.e1 D.e2 (by rw [D.e1, D.e2]; exact few)).mono fun _ _ h => h.laid

theorem crash_box (D : DkB W g a1 n1 c1 a2 n2 c2 d) (hg : Gl W) (few : d.safe.length + d.wait.length ≤ 9223372036854775807) (n : Int) :
    Calls Tryz.prog 7 #[.agg #[.slice a1 n1 c1, .slice a2 n2 c2], .int .i64 n] W (LaidD W (crashD d n) (crashE d n)) :=
  (crash_any d n a1 a2 c1 c2 n1 n2 W hg D.s1 D.s2 D.e1 D.e2 (by rw [D.e1, D.e2]; exact few)).mono fun _ _ h => h.laid

theorem recover_box (D : DkB W g a1 n1 c1 a2 n2 c2 d) (hg : Gl W) (few : d.safe.length + d.wait.length ≤ 9223372036854775807) :
    Calls Tryz.prog 8 #[.agg #[.slice a1 n1 c1, .slice a2 n2 c2]] W (LaidR W (recD d) (recL d) (dkE d)) :=
  (recover_any d a1 a2 c1 c2 n1 n2 W hg D.s1 D.s2 D.e1 D.e2 (by rw [D.e1, D.e2]; exact few)).mono fun _ _ h => h.laid

theorem check_box (D : DkB W g a1 n1 c1 a2 n2 c2 d) (hg : Gl W) (few : d.safe.length + d.wait.length ≤ 9223372036854775807) :
    Calls Tryz.prog 11 #[.agg #[.slice a1 n1 c1, .slice a2 n2 c2]] W fun e w' => e = .returned (.int .i64 (dkE d)) ∧ Below W.heap.size W w' :=
  dcheck_any d a1 a2 c1 c2 n1 n2 W hg D.s1 D.e1 D.e2 (by rw [D.e1, D.e2]; exact few)

theorem rcheck_box (D : DkB W g a1 n1 c1 a2 n2 c2 d) (hg : Gl W) :
    Calls Tryz.prog 9 #[.agg #[.slice a1 n1 c1, .slice a2 n2 c2]] W fun e w' => e = .returned (.int .i64 (dkE d)) ∧ Below W.heap.size W w' :=
  rcheckD_any d a1 a2 c1 c2 n1 n2 W hg D.s1 D.e1 D.e2

theorem same_box {h : Nat} {b1 : Option Addr} {m1 e1 : Nat} {b2 : Option Addr} {m2 e2 : Nat} {x : Dk} (D : DkB W g a1 n1 c1 a2 n2 c2 d) (X : DkB W h b1 m1 e1 b2 m2 e2 x) :
    Calls Tryz.prog 12 #[.agg #[.slice a1 n1 c1, .slice a2 n2 c2], .agg #[.slice b1 m1 e1, .slice b2 m2 e2]] W fun e w' => e = .returned (.bool (decide (d.safe = x.safe ∧ d.wait = x.wait))) ∧ Below W.heap.size W w' :=
  dsame_any d x a1 a2 b1 b2 c1 c2 e1 e2 n1 n2 m1 m2 W D.s1 D.s2 X.s1 X.s2 D.e1 D.e2 X.e1 X.e2

theorem rsame_box {h : Nat} {b1 : Option Addr} {m1 e1 : Nat} {b2 : Option Addr} {m2 e2 : Nat} {x : Dk} (D : DkB W g a1 n1 c1 a2 n2 c2 d) (X : DkB W h b1 m1 e1 b2 m2 e2 x) :
    Calls Tryz.prog 13 #[.agg #[.slice a1 n1 c1, .slice a2 n2 c2], .agg #[.slice b1 m1 e1, .slice b2 m2 e2]] W fun e w' => e = .returned (.bool (decide (d.safe = x.safe ∧ d.wait = x.wait))) ∧ Below W.heap.size W w' :=
  rsameD_any d x a1 a2 b1 b2 c1 c2 e1 e2 n1 n2 m1 m2 W D.s1 D.s2 X.s1 X.s2 D.e1 D.e2 X.e1 X.e2

theorem rself_box {h : Nat} {b1 : Option Addr} {m1 e1 : Nat} {b2 : Option Addr} {m2 e2 : Nat} (D : DkB W g a1 n1 c1 a2 n2 c2 d) (X : DkB W h b1 m1 e1 b2 m2 e2 d) :
    Calls Tryz.prog 13 #[.agg #[.slice a1 n1 c1, .slice a2 n2 c2], .agg #[.slice b1 m1 e1, .slice b2 m2 e2]] W fun e w' => e = .returned (.bool true) ∧ Below W.heap.size W w' := by
  have := rsame_box D X
  simpa only [and_self, decide_true] using this

theorem rput_box (D : DkB W g a1 n1 c1 a2 n2 c2 d) (hg : Gl W) (h0 : dkE d = 0) (r : Rc) {a3 : Option Addr} {c3 n3 : Nat} (s3 : SlW ec W a3 c3 r.e) (h3 : Hid (n3 = r.e.length)) :
    Calls Tryz.prog 14 #[.agg #[.slice a1 n1 c1, .slice a2 n2 c2], .agg #[.int .i64 r.k, .int .i64 r.s, .int .i64 r.n, .slice a3 n3 c3]] W (LaidD W (dputD d r) (dputE d r)) :=
  (rput_any d r a1 a2 a3 c1 c2 c3 n1 n2 n3 W hg D.s1 D.s2 s3 D.e1 D.e2 h3 h0).mono fun _ _ h => h.laid

theorem rsync_box (D : DkB W g a1 n1 c1 a2 n2 c2 d) (hg : Gl W) (h0 : dkE d = 0) :
    Calls Tryz.prog 15 #[.agg #[.slice a1 n1 c1, .slice a2 n2 c2]] W (LaidD W (syncD d) (syncE d)) :=
  (rsync_any d a1 a2 c1 c2 n1 n2 W hg D.s1 D.s2 D.e1 D.e2 h0).mono fun _ _ h => h.laid

theorem rrecov_box (D : DkB W g a1 n1 c1 a2 n2 c2 d) (hg : Gl W) (h0 : dkE d = 0) :
    Calls Tryz.prog 16 #[.agg #[.slice a1 n1 c1, .slice a2 n2 c2]] W (LaidQ W (recD d) (recL d)) :=
  (rrecov_any d a1 a2 c1 c2 n1 n2 W hg D.s1 D.s2 D.e1 D.e2 h0).mono fun _ _ h => h.laid

end Go.Proofs.YtabeihkfjlmepaaGreatDoor

/-
  DiskSays: the walk (written by gen/disksays.py).
-/
namespace Go.Proofs.YtabeihkfjlmepaaGreatDoor.diskSays
open Go.RowKit
open Go.Lib (byteCells)
set_option linter.unusedVariables false

theorem bads {d : Dk} (h : dkE d ≠ 0) (r : Rc) (n : Int) : dputE d r = dkE d ∧ dputD d r = dk0 ∧ syncE d = dkE d ∧ syncD d = dk0 ∧ crashE d n = dkE d ∧ crashD d n = dk0 ∧ recD d = dk0 ∧ recL d = [] := by
  have e1 : dputE d r = dkE d := if_pos h
  have e2 : syncE d = dkE d := if_pos h
  have e3 : crashE d n = dkE d := if_pos h
  exact ⟨e1, if_neg (by rw [e1]; exact h), e2, if_neg (by rw [e2]; exact h), e3, if_neg (by rw [e3]; exact h), if_neg h, if_neg h⟩

set_option maxHeartbeats 8000000 in
set_option maxRecDepth 100000 in
theorem walk (w : World) (hg : Gl w) (d x : Dk) (r : Rc) (n : Int) (a1 a2 a3 b1 b2 : Option Addr) (c1 c2 c3 e1 e2 n1 n2 n3 m1 m2 : Nat) (s1 : Sl w a1 c1 (byteCells d.safe)) (s2 : Sl w a2 c2 (byteCells d.wait)) (s3 : SlW ec w a3 c3 r.e) (t1 : Sl w b1 e1 (byteCells x.safe)) (t2 : Sl w b2 e2 (byteCells x.wait))
    (h1 : n1 = d.safe.length) (h2 : n2 = d.wait.length) (h3 : n3 = r.e.length) (k1 : m1 = x.safe.length) (k2 : m2 = x.wait.length) (few : d.safe.length + d.wait.length ≤ 9223372036854775807) :
    Calls Tryz.prog 3 #[.agg #[.slice a1 n1 c1, .slice a2 n2 c2], .agg #[.int .i64 r.k, .int .i64 r.s, .int .i64 r.n, .slice a3 n3 c3], .int .i64 n, .agg #[.slice b1 m1 e1, .slice b2 m2 e2]] w fun e w' => e = .returned (.bool true) ∧ Below w.heap.size w w' := by
  have bel := newB (newB (newB (Below.refl w.heap.size w) (.cells #[.slice a1 n1 c1, .slice a2 n2 c2] 24)) (.cells #[.int .i64 r.k, .int .i64 r.s, .int .i64 r.n, .slice a3 n3 c3] 27)) (.cells #[.slice b1 m1 e1, .slice b2 m2 e2] 24)
  have DD : DkB (((w.alloc (.cells #[.slice a1 n1 c1, .slice a2 n2 c2] 24)).alloc (.cells #[.int .i64 r.k, .int .i64 r.s, .int .i64 r.n, .slice a3 n3 c3] 27)).alloc (.cells #[.slice b1 m1 e1, .slice b2 m2 e2] 24)) w.heap.size a1 n1 c1 a2 n2 c2 d := ⟨((Blk.laid w [.slice a1 n1 c1, .slice a2 n2 c2] 24 _ rfl).alc _).alc _, h1, h2, s1.keep bel (Nat.le_refl _), s2.keep bel (Nat.le_refl _)⟩
  have BC : Blk (((w.alloc (.cells #[.slice a1 n1 c1, .slice a2 n2 c2] 24)).alloc (.cells #[.int .i64 r.k, .int .i64 r.s, .int .i64 r.n, .slice a3 n3 c3] 27)).alloc (.cells #[.slice b1 m1 e1, .slice b2 m2 e2] 24)) (w.heap.size + 1) [.int .i64 r.k, .int .i64 r.s, .int .i64 r.n, .slice a3 n3 c3] 27 := (Blk.laid (w.alloc (.cells #[.slice a1 n1 c1, .slice a2 n2 c2] 24)) [.int .i64 r.k, .int .i64 r.s, .int .i64 r.n, .slice a3 n3 c3] 27 (w.heap.size + 1) (by simp)).alc _
  have DX : DkB (((w.alloc (.cells #[.slice a1 n1 c1, .slice a2 n2 c2] 24)).alloc (.cells #[.int .i64 r.k, .int .i64 r.s, .int .i64 r.n, .slice a3 n3 c3] 27)).alloc (.cells #[.slice b1 m1 e1, .slice b2 m2 e2] 24)) (w.heap.size + 1 + 1) b1 m1 e1 b2 m2 e2 x := ⟨Blk.laid ((w.alloc (.cells #[.slice a1 n1 c1, .slice a2 n2 c2] 24)).alloc (.cells #[.int .i64 r.k, .int .i64 r.s, .int .i64 r.n, .slice a3 n3 c3] 27)) [.slice b1 m1 e1, .slice b2 m2 e2] 24 (w.heap.size + 1 + 1) (by simp), k1, k2, t1.keep bel (Nat.le_refl _), t2.keep bel (Nat.le_refl _)⟩
  have SC := s3.keep bel (Nat.le_refl _)
  have h3' := hide h3
  replace h1 := hide h1
  clear h3 k1 k2 s1 s2 s3 t1 t2
  have hl2 := hide h2
  clear h2
  have hBad := bads (d := d)
  have hNb : Hid (crashE d n = if dkE d ≠ 0 then dkE d else if n < 0 ∨ (d.wait.length : Int) < n then 3 else 0) := rfl
  have hNd : Hid (crashD d n = if crashE d n = 0 then ⟨d.safe, d.wait.take n.toNat⟩ else dk0) := rfl
  have hRl : Hid True := hide trivial
  obtain ⟨K, s', m', l⟩ := r
  simp only at DD BC DX SC h3' bel
  go_enter Tryz.func3, Tryz.ntmps3
  go_upto_region 1 with fail
  generalize World.alloc (World.alloc (World.alloc w _) _) _ = w3 at *
  have x00 := DD.blk.cell 0
  have x01 := DD.blk.cell 1
  have x0l := DD.blk.lt
  have x10 := BC.cell 0
  have x11 := BC.cell 1
  have x12 := BC.cell 2
  have x13 := BC.cell 3
  have x1l := BC.lt
  have gl := hg.call bel
  go_wp2_with fail
  go_at_call 5
  refine (put_box DD gl few ⟨K, s', m', l⟩ SC h3').mono ?_
  rintro e w4 ⟨p1DA, q1DA, z1DA, p2DA, q2DA, z2DA, rfl, DA, bb⟩
  clear x00 x01 x0l x10 x11 x12 x13 x1l gl
  replace DD := DD.call bb
  replace BC := BC.keep bb BC.lt
  replace DX := DX.call bb
  replace SC := SC.call bb
  replace bel := belowCall bel bb
  clear bb
  go_upto_region 2 with fail
  generalize w4.heap.size = gDA at *
  generalize World.alloc w4 _ = v4 at *
  generalize hPE : dputE d ⟨K, s', m', l⟩ = PE at *
  replace hPE := hide hPE
  generalize hPD : dputD d ⟨K, s', m', l⟩ = PD at *
  replace hPD := hide hPD
  have x00 := DD.blk.cell 0
  have x01 := DD.blk.cell 1
  have x0l := DD.blk.lt
  have gl := hg.call bel
  go_wp2_with fail
  go_at_call 6
  refine (sync_box DD gl few).mono ?_
  rintro e w5 ⟨p1DB, q1DB, z1DB, p2DB, q2DB, z2DB, rfl, DB, bb⟩
  clear x00 x01 x0l gl
  replace DD := DD.call bb
  replace BC := BC.keep bb BC.lt
  replace DX := DX.call bb
  replace SC := SC.call bb
  replace DA := DA.call bb
  replace bel := belowCall bel bb
  clear bb
  go_upto_region 3 with fail
  generalize w5.heap.size = gDB at *
  generalize World.alloc w5 _ = v5 at *
  generalize hSE : syncE d = SE at *
  replace hSE := hide hSE
  generalize hSD : syncD d = SD at *
  replace hSD := hide hSD
  have x00 := DD.blk.cell 0
  have x01 := DD.blk.cell 1
  have x0l := DD.blk.lt
  have gl := hg.call bel
  go_wp2_with fail
  go_at_call 7
  refine (crash_box DD gl few n).mono ?_
  rintro e w6 ⟨p1DK, q1DK, z1DK, p2DK, q2DK, z2DK, rfl, DK, bb⟩
  clear x00 x01 x0l gl
  replace DD := DD.call bb
  replace BC := BC.keep bb BC.lt
  replace DX := DX.call bb
  replace SC := SC.call bb
  replace DA := DA.call bb
  replace DB := DB.call bb
  replace bel := belowCall bel bb
  clear bb
  go_upto_region 4 with fail
  generalize w6.heap.size = gDK at *
  generalize World.alloc w6 _ = v6 at *
  generalize hCE : crashE d n = CE at *
  replace hCE := hide hCE
  generalize hCD : crashD d n = CD at *
  replace hCD := hide hCD
  have x00 := DD.blk.cell 0
  have x01 := DD.blk.cell 1
  have x0l := DD.blk.lt
  have gl := hg.call bel
  go_wp2_with fail
  go_at_call 8
  refine (recover_box DD gl few).mono ?_
  rintro e w7 ⟨p1DR, q1DR, z1DR, p2DR, q2DR, z2DR, a4, n4, G4, l4, rfl, DR, LR, hn4, hl4, bb⟩
  clear x00 x01 x0l gl
  replace DD := DD.call bb
  replace BC := BC.keep bb BC.lt
  replace DX := DX.call bb
  replace SC := SC.call bb
  replace DA := DA.call bb
  replace DB := DB.call bb
  replace DK := DK.call bb
  replace bel := belowCall bel bb
  clear bb
  go_upto_region 5 with fail
  generalize w7.heap.size = gDR at *
  generalize World.alloc w7 _ = v7 at *
  generalize hRD : recD d = RD at *
  replace hRD := hide hRD
  generalize hRL : recL d = RL at *
  replace hRL := hide hRL
  generalize hE : dkE d = E at *
  replace hE := hide hE
  have x00 := DD.blk.cell 0
  have x01 := DD.blk.cell 1
  have x0l := DD.blk.lt
  have gl := hg.call bel
  have cK := rcheck_box DD gl
  rw [hE.out] at cK
  go_wp2_with fail
  go_at_call 9
  refine cK.mono ?_
  rintro e w8 ⟨rfl, bb⟩
  clear x00 x01 x0l gl cK
  replace DD := DD.call bb
  replace BC := BC.keep bb BC.lt
  replace DX := DX.call bb
  replace SC := SC.call bb
  replace DA := DA.call bb
  replace DB := DB.call bb
  replace DK := DK.call bb
  replace DR := DR.call bb
  replace LR := LR.call bb
  replace bel := belowCall bel bb
  clear bb
  have DN : DkB (w8.alloc (.cells #[.slice none 0 0, .slice none 0 0] 24)) w8.heap.size none 0 0 none 0 0 dk0 := ⟨Blk.laid w8 [.slice none 0 0, .slice none 0 0] _ _ rfl, rfl, rfl, Sl.ofNil _, Sl.ofNil _⟩
  have bb := newB (Below.refl w8.heap.size w8) (.cells #[.slice none 0 0, .slice none 0 0] 24)
  replace DD := DD.call bb
  replace BC := BC.keep bb BC.lt
  replace DX := DX.call bb
  replace SC := SC.call bb
  replace DA := DA.call bb
  replace DB := DB.call bb
  replace DK := DK.call bb
  replace DR := DR.call bb
  replace LR := LR.call bb
  replace bel := belowCall bel bb
  clear bb
  go_upto_region 7 with fail
  generalize w8.heap.size = gDN at *
  generalize World.alloc w8 _ = v8 at *
  have x00 := DD.blk.cell 0
  have x01 := DD.blk.cell 1
  have x0l := DD.blk.lt
  have x10 := DX.blk.cell 0
  have x11 := DX.blk.cell 1
  have x1l := DX.blk.lt
  have gl := hg.call bel
  obtain ⟨D, hD⟩ : ∃ D, D = decide (d.safe = x.safe ∧ d.wait = x.wait) := ⟨_, rfl⟩
  have cells : ∀ w', Below v8.heap.size v8 w' → w'.cell? ⟨w.heap.size, 0, none⟩ = some (.slice a1 n1 c1) ∧ w'.cell? ⟨w.heap.size, 1, none⟩ = some (.slice a2 n2 c2) ∧ w'.cell? ⟨w.heap.size + 1 + 1, 0, none⟩ = some (.slice b1 m1 e1) ∧ w'.cell? ⟨w.heap.size + 1 + 1, 1, none⟩ = some (.slice b2 m2 e2) ∧ Below v8.heap.size v8 w' := fun W h => ⟨(DD.call h).blk.cell 0, (DD.call h).blk.cell 1, (DX.call h).blk.cell 0, (DX.call h).blk.cell 1, h⟩
  have kN : ∀ W, Below v8.heap.size v8 W → Calls Tryz.prog 10 #[] W fun e w' => e = .returned (.bool true) ∧ w'.cell? ⟨w.heap.size, 0, none⟩ = some (.slice a1 n1 c1) ∧ w'.cell? ⟨w.heap.size, 1, none⟩ = some (.slice a2 n2 c2) ∧ w'.cell? ⟨w.heap.size + 1 + 1, 0, none⟩ = some (.slice b1 m1 e1) ∧ w'.cell? ⟨w.heap.size + 1 + 1, 1, none⟩ = some (.slice b2 m2 e2) ∧ Below v8.heap.size v8 w' := by
    intro W h
    refine (filed_any W (gl.call h)).mono ?_
    rintro e w' ⟨rfl, b⟩
    exact ⟨rfl, cells _ (belowCall h b)⟩
  have kC : ∀ W, Below v8.heap.size v8 W → Calls Tryz.prog 11 #[.agg #[.slice a1 n1 c1, .slice a2 n2 c2]] W fun e w' => e = .returned (.int .i64 E) ∧ w'.cell? ⟨w.heap.size, 0, none⟩ = some (.slice a1 n1 c1) ∧ w'.cell? ⟨w.heap.size, 1, none⟩ = some (.slice a2 n2 c2) ∧ w'.cell? ⟨w.heap.size + 1 + 1, 0, none⟩ = some (.slice b1 m1 e1) ∧ w'.cell? ⟨w.heap.size + 1 + 1, 1, none⟩ = some (.slice b2 m2 e2) ∧ Below v8.heap.size v8 w' := by
    intro W h
    have c := check_box (DD.call h) (gl.call h) few
    rw [hE.out] at c
    refine c.mono ?_
    rintro e w' ⟨rfl, b⟩
    exact ⟨rfl, cells _ (belowCall h b)⟩
  have kS : ∀ W, Below v8.heap.size v8 W → Calls Tryz.prog 12 #[.agg #[.slice a1 n1 c1, .slice a2 n2 c2], .agg #[.slice b1 m1 e1, .slice b2 m2 e2]] W fun e w' => e = .returned (.bool D) ∧ w'.cell? ⟨w.heap.size, 0, none⟩ = some (.slice a1 n1 c1) ∧ w'.cell? ⟨w.heap.size, 1, none⟩ = some (.slice a2 n2 c2) ∧ w'.cell? ⟨w.heap.size + 1 + 1, 0, none⟩ = some (.slice b1 m1 e1) ∧ w'.cell? ⟨w.heap.size + 1 + 1, 1, none⟩ = some (.slice b2 m2 e2) ∧ Below v8.heap.size v8 w' := by
    intro W h
    rw [hD]
    refine (same_box (DD.call h) (DX.call h)).mono ?_
    rintro e w' ⟨rfl, b⟩
    exact ⟨rfl, cells _ (belowCall h b)⟩
  have kR : ∀ W, Below v8.heap.size v8 W → Calls Tryz.prog 13 #[.agg #[.slice a1 n1 c1, .slice a2 n2 c2], .agg #[.slice b1 m1 e1, .slice b2 m2 e2]] W fun e w' => e = .returned (.bool D) ∧ w'.cell? ⟨w.heap.size, 0, none⟩ = some (.slice a1 n1 c1) ∧ w'.cell? ⟨w.heap.size, 1, none⟩ = some (.slice a2 n2 c2) ∧ w'.cell? ⟨w.heap.size + 1 + 1, 0, none⟩ = some (.slice b1 m1 e1) ∧ w'.cell? ⟨w.heap.size + 1 + 1, 1, none⟩ = some (.slice b2 m2 e2) ∧ Below v8.heap.size v8 w' := by
    intro W h
    rw [hD]
    refine (rsame_box (DD.call h) (DX.call h)).mono ?_
    rintro e w' ⟨rfl, b⟩
    exact ⟨rfl, cells _ (belowCall h b)⟩
  have k0 : Below v8.heap.size v8 v8.drew := belowDrew (Below.refl _ _)
  replace hD := hide hD
  clear cells gl
  go_cut [68] from 52 to 67 (fun s68 wx => s68 = .bool false ∧ Below v8.heap.size v8 wx)
  case first =>
    go_region_held3 (fun w' => w'.cell? ⟨w.heap.size, 0, none⟩ = some (.slice a1 n1 c1) ∧ w'.cell? ⟨w.heap.size, 1, none⟩ = some (.slice a2 n2 c2) ∧ w'.cell? ⟨w.heap.size + 1 + 1, 0, none⟩ = some (.slice b1 m1 e1) ∧ w'.cell? ⟨w.heap.size + 1 + 1, 1, none⟩ = some (.slice b2 m2 e2) ∧ Below v8.heap.size v8 w') (simp [*])
      (first
        | (go_at_call 10; refine (kN _ (by assumption)).mono ?_; rintro e wA ⟨rfl, i0, i1, i2, i3, zA⟩)
        | (go_at_call 11; refine (kC _ zA).mono ?_; rintro e wB ⟨rfl, j0, j1, j2, j3, zB⟩)
        | (go_at_call 12; refine (kS _ zB).mono ?_; rintro e wC ⟨rfl, r0, r1, r2, r3, zC⟩)
        | (go_at_call 13; refine (kR _ zC).mono ?_; rintro e wD ⟨rfl, u0, u1, u2, u3, zD⟩))
    all_goals (
      go_wp2_with fail
      go_meet
      case rel => exact ⟨rfl, zD⟩)
  case rest =>
    obtain ⟨rfl, hcut⟩ := hcut
    clear x00 x01 x0l x10 x11 x1l kN kC kS kR k0
    replace DD := DD.call hcut
    replace BC := BC.keep hcut BC.lt
    replace DX := DX.call hcut
    replace SC := SC.call hcut
    replace DA := DA.call hcut
    replace DB := DB.call hcut
    replace DK := DK.call hcut
    replace DR := DR.call hcut
    replace LR := LR.call hcut
    replace DN := DN.call hcut
    replace bel := belowCall bel hcut
    clear hcut hD
    by_cases hz : E = 0
    · subst hz
      have hz := hE.out
      clear hBad
      have x00 := DD.blk.cell 0
      have x01 := DD.blk.cell 1
      have x0l := DD.blk.lt
      have x10 := BC.cell 0
      have x11 := BC.cell 1
      have x12 := BC.cell 2
      have x13 := BC.cell 3
      have x1l := BC.lt
      have gl := hg.call bel
      have cc := rput_box DD gl hz ⟨K, s', m', l⟩ SC h3'
      rw [hPE.out, hPD.out] at cc
      go_wp2_with fail
      go_at_call 14
      refine cc.mono ?_
      rintro e w11 ⟨p1DP, q1DP, z1DP, p2DP, q2DP, z2DP, rfl, DP, bb⟩
      clear x00 x01 x0l x10 x11 x12 x13 x1l gl cc
      replace DD := DD.call bb
      replace BC := BC.keep bb BC.lt
      replace DX := DX.call bb
      replace SC := SC.call bb
      replace DA := DA.call bb
      replace DB := DB.call bb
      replace DK := DK.call bb
      replace DR := DR.call bb
      replace LR := LR.call bb
      replace DN := DN.call bb
      replace bel := belowCall bel bb
      clear bb
      go_upto_region 12 with fail
      generalize w11.heap.size = gDP at *
      generalize World.alloc w11 _ = v11 at *
      have x00 := DD.blk.cell 0
      have x01 := DD.blk.cell 1
      have x0l := DD.blk.lt
      have gl := hg.call bel
      have cc := rsync_box DD gl hz
      rw [hSE.out, hSD.out] at cc
      go_wp2_with fail
      go_at_call 15
      refine cc.mono ?_
      rintro e w12 ⟨p1DS, q1DS, z1DS, p2DS, q2DS, z2DS, rfl, DS, bb⟩
      clear x00 x01 x0l gl cc
      replace DD := DD.call bb
      replace BC := BC.keep bb BC.lt
      replace DX := DX.call bb
      replace SC := SC.call bb
      replace DA := DA.call bb
      replace DB := DB.call bb
      replace DK := DK.call bb
      replace DR := DR.call bb
      replace LR := LR.call bb
      replace DN := DN.call bb
      replace DP := DP.call bb
      replace bel := belowCall bel bb
      clear bb
      go_upto_region 13 with fail
      generalize w12.heap.size = gDS at *
      generalize World.alloc w12 _ = v12 at *
      have x00 := DD.blk.cell 0
      have x01 := DD.blk.cell 1
      have x0l := DD.blk.lt
      have gl := hg.call bel
      have cc := rrecov_box DD gl hz
      rw [hRD.out, hRL.out] at cc
      go_wp2_with fail
      go_at_call 16
      refine cc.mono ?_
      rintro e w13 ⟨p1DQ, q1DQ, z1DQ, p2DQ, q2DQ, z2DQ, a9, n9, G9, l9, rfl, DQ, LQ, hn9, hl9, bb⟩
      clear x00 x01 x0l gl cc
      replace DD := DD.call bb
      replace BC := BC.keep bb BC.lt
      replace DX := DX.call bb
      replace SC := SC.call bb
      replace DA := DA.call bb
      replace DB := DB.call bb
      replace DK := DK.call bb
      replace DR := DR.call bb
      replace LR := LR.call bb
      replace DN := DN.call bb
      replace DP := DP.call bb
      replace DS := DS.call bb
      replace bel := belowCall bel bb
      clear bb
      go_upto_region 14 with fail
      generalize w13.heap.size = gDQ at *
      generalize World.alloc w13 _ = v13 at *
      have x00 := DA.blk.cell 0
      have x01 := DA.blk.cell 1
      have x0l := DA.blk.lt
      have x10 := DP.blk.cell 0
      have x11 := DP.blk.cell 1
      have x1l := DP.blk.lt
      go_wp2_with fail
      go_at_call 13
      refine (rself_box DA DP).mono ?_
      rintro e t1 ⟨rfl, bb⟩
      clear x00 x01 x0l x10 x11 x1l
      replace DD := DD.call bb
      replace BC := BC.keep bb BC.lt
      replace DX := DX.call bb
      replace SC := SC.call bb
      replace DA := DA.call bb
      replace DB := DB.call bb
      replace DK := DK.call bb
      replace DR := DR.call bb
      replace LR := LR.call bb
      replace DN := DN.call bb
      replace DP := DP.call bb
      replace DS := DS.call bb
      replace DQ := DQ.call bb
      replace LQ := LQ.call bb
      replace bel := belowCall bel bb
      clear bb
      have x00 := DB.blk.cell 0
      have x01 := DB.blk.cell 1
      have x0l := DB.blk.lt
      have x10 := DS.blk.cell 0
      have x11 := DS.blk.cell 1
      have x1l := DS.blk.lt
      go_wp2_with fail
      go_at_call 13
      refine (rself_box DB DS).mono ?_
      rintro e t2 ⟨rfl, bb⟩
      clear x00 x01 x0l x10 x11 x1l
      replace DD := DD.call bb
      replace BC := BC.keep bb BC.lt
      replace DX := DX.call bb
      replace SC := SC.call bb
      replace DA := DA.call bb
      replace DB := DB.call bb
      replace DK := DK.call bb
      replace DR := DR.call bb
      replace LR := LR.call bb
      replace DN := DN.call bb
      replace DP := DP.call bb
      replace DS := DS.call bb
      replace DQ := DQ.call bb
      replace LQ := LQ.call bb
      replace bel := belowCall bel bb
      clear bb
      have x00 := DR.blk.cell 0
      have x01 := DR.blk.cell 1
      have x0l := DR.blk.lt
      have x10 := DQ.blk.cell 0
      have x11 := DQ.blk.cell 1
      have x1l := DQ.blk.lt
      go_wp2_with fail
      go_at_call 13
      refine (rself_box DR DQ).mono ?_
      rintro e t3 ⟨rfl, bb⟩
      clear x00 x01 x0l x10 x11 x1l
      replace DD := DD.call bb
      replace BC := BC.keep bb BC.lt
      replace DX := DX.call bb
      replace SC := SC.call bb
      replace DA := DA.call bb
      replace DB := DB.call bb
      replace DK := DK.call bb
      replace DR := DR.call bb
      replace LR := LR.call bb
      replace DN := DN.call bb
      replace DP := DP.call bb
      replace DS := DS.call bb
      replace DQ := DQ.call bb
      replace LQ := LQ.call bb
      replace bel := belowCall bel bb
      clear bb
      go_wp2_with fail
      go_at_call 17
      refine (eqFuncR l4 l9 a4 a9 G4 G9 n4 n9 _ LR LQ hn4.out hn9.out).mono ?_
      rintro e t4 ⟨b, rfl, hb, bb⟩
      obtain rfl : b = true := hb.2 (hl4.out.trans hl9.out.symm)
      clear hb
      replace DD := DD.call bb
      replace BC := BC.keep bb BC.lt
      replace DX := DX.call bb
      replace SC := SC.call bb
      replace DA := DA.call bb
      replace DB := DB.call bb
      replace DK := DK.call bb
      replace DR := DR.call bb
      replace LR := LR.call bb
      replace DN := DN.call bb
      replace DP := DP.call bb
      replace DS := DS.call bb
      replace DQ := DQ.call bb
      replace LQ := LQ.call bb
      replace bel := belowCall bel bb
      clear bb hPE hPD hSE hSD hRD hRL hl4 hl9 hn4 hn9
      replace hz := hide hz
      have hNb' : CE = if n < 0 ∨ (d.wait.length : Int) < n then 3 else 0 := by
        have := hNb.out
        rwa [if_neg (by simp)] at this
      replace hNb' := hide hNb'
      by_cases hn0 : n < 0
      · obtain rfl : CE = 3 := by rw [hNb'.out, if_pos (.inl hn0)]
        obtain rfl : CD = dk0 := by rw [hNd.out, if_neg (by decide)]
        clear hNb hNd hNb' hCE hCD
        have x00 := DD.blk.cell 0
        have x01 := DD.blk.cell 1
        have x0l := DD.blk.lt
        have x00 := DK.blk.cell 0
        have x01 := DK.blk.cell 1
        have x0l := DK.blk.lt
        have x10 := DN.blk.cell 0
        have x11 := DN.blk.cell 1
        have x1l := DN.blk.lt
        go_wp2_with fail
        go_at_call 13
        refine (rself_box DK DN).mono ?_
        rintro e t5 ⟨rfl, bb⟩
        clear x00 x01 x0l x10 x11 x1l
        replace DD := DD.call bb
        replace BC := BC.keep bb BC.lt
        replace DX := DX.call bb
        replace SC := SC.call bb
        replace DA := DA.call bb
        replace DB := DB.call bb
        replace DK := DK.call bb
        replace DR := DR.call bb
        replace LR := LR.call bb
        replace DN := DN.call bb
        replace DP := DP.call bb
        replace DS := DS.call bb
        replace DQ := DQ.call bb
        replace LQ := LQ.call bb
        replace bel := belowCall bel bb
        clear bb
        go_wp2_with fail
        go_ret
        exact ⟨rfl, bel⟩
      · obtain ⟨m, rfl⟩ := Int.eq_ofNat_of_zero_le (Int.not_lt.1 hn0)
        by_cases hn1 : n2 < m
        · have hn1' : (n2 : Int) < (m : Int) := Int.ofNat_lt.2 hn1
          obtain rfl : CE = 3 := by rw [hNb'.out, if_pos (.inr (by rw [← hl2.out]; exact hn1'))]
          obtain rfl : CD = dk0 := by rw [hNd.out, if_neg (by decide)]
          clear hNb hNd hNb' hCE hCD
          have y00 := DD.blk.cell 0
          have y01 := DD.blk.cell 1
          have y0l := DD.blk.lt
          have x00 := DK.blk.cell 0
          have x01 := DK.blk.cell 1
          have x0l := DK.blk.lt
          have x10 := DN.blk.cell 0
          have x11 := DN.blk.cell 1
          have x1l := DN.blk.lt
          go_wp2_with fail
          go_at_call 13
          refine (rself_box DK DN).mono ?_
          rintro e t5 ⟨rfl, bb⟩
          clear y00 y01 y0l x00 x01 x0l x10 x11 x1l
          replace DD := DD.call bb
          replace BC := BC.keep bb BC.lt
          replace DX := DX.call bb
          replace SC := SC.call bb
          replace DA := DA.call bb
          replace DB := DB.call bb
          replace DK := DK.call bb
          replace DR := DR.call bb
          replace LR := LR.call bb
          replace DN := DN.call bb
          replace DP := DP.call bb
          replace DS := DS.call bb
          replace DQ := DQ.call bb
          replace LQ := LQ.call bb
          replace bel := belowCall bel bb
          clear bb
          go_wp2_with fail
          go_ret
          exact ⟨rfl, bel⟩
        · have hn1' : ¬ (n2 : Int) < (m : Int) := fun h => hn1 (Int.ofNat_lt.1 h)
          have hw : ¬ ((m : Int) < 0 ∨ (d.wait.length : Int) < (m : Int)) := by rw [← hl2.out]; exact fun h => h.elim hn0 hn1'
          obtain rfl : CE = 0 := by rw [hNb'.out, if_neg hw]
          obtain rfl : CD = ⟨d.safe, d.wait.take m⟩ := by rw [hNd.out, if_pos rfl]; rfl
          have hm2 : m ≤ c2 := by
              have := DD.s2.le
              rw [Lib.byteCells_length, ← hl2.out] at this
              exact Nat.le_trans (Nat.le_of_not_lt hn1) this
          have hml : m = (d.wait.take m).length := by rw [List.length_take, ← hl2.out]; exact (Nat.min_eq_left (Nat.le_of_not_lt hn1)).symm
          replace hml := hide hml
          have hm63 : m ≤ 9223372036854775807 := by
              have := DD.s2.max
              exact Nat.le_trans hm2 this
          clear hNb hNd hNb' hCE hCD hw
          have x00 := DK.blk.cell 0
          have x01 := DK.blk.cell 1
          have x0l := DK.blk.lt
          have x10 := DD.blk.cell 0
          have x11 := DD.blk.cell 1
          have x1l := DD.blk.lt
          have kS : ∀ W, Below t4.heap.size t4 W → Calls Tryz.prog 13 #[.agg #[.slice p1DK q1DK z1DK, .slice p2DK q2DK z2DK], .agg #[.slice a1 n1 c1, .slice a2 m c2]] W fun e w' => e = .returned (.bool true) ∧ w'.cell? ⟨gDK, 0, none⟩ = some (.slice p1DK q1DK z1DK) ∧ w'.cell? ⟨gDK, 1, none⟩ = some (.slice p2DK q2DK z2DK) ∧ w'.cell? ⟨w.heap.size, 0, none⟩ = some (.slice a1 n1 c1) ∧ w'.cell? ⟨w.heap.size, 1, none⟩ = some (.slice a2 n2 c2) ∧ Below t4.heap.size t4 w' := by
            intro W h
            have D1 := DK.call h
            have D2 := DD.call h
            have c := rsameD_any ⟨d.safe, d.wait.take m⟩ ⟨d.safe, d.wait.take m⟩ _ _ a1 a2 _ _ c1 c2 _ _ n1 m W D1.s1 D1.s2 D2.s1 (D2.s2.takeU m) D1.e1 D1.e2 h1.out hml.out
            simp only [and_self, decide_true] at c
            refine c.mono ?_
            rintro e w' ⟨rfl, b⟩
            have bb := belowCall h b
            exact ⟨rfl, (DK.call bb).blk.cell 0, (DK.call bb).blk.cell 1, (DD.call bb).blk.cell 0, (DD.call bb).blk.cell 1, bb⟩
          have k0 : Below t4.heap.size t4 t4.drew := belowDrew (Below.refl _ _)
          go_upto_region 18 with fail
          go_region_held3 (fun w' => w'.cell? ⟨gDK, 0, none⟩ = some (.slice p1DK q1DK z1DK) ∧ w'.cell? ⟨gDK, 1, none⟩ = some (.slice p2DK q2DK z2DK) ∧ w'.cell? ⟨w.heap.size, 0, none⟩ = some (.slice a1 n1 c1) ∧ w'.cell? ⟨w.heap.size, 1, none⟩ = some (.slice a2 n2 c2) ∧ Below t4.heap.size t4 w') (simp [*])
            (first | (go_at_call 13; refine (kS _ (by assumption)).mono ?_; rintro e wA ⟨rfl, i0, i1, i2, i3, zA⟩))
          all_goals (
            go_wp2_with fail
            go_ret
            exact ⟨rfl, belowCall bel zA⟩)
    · obtain ⟨y1, y2, y3, y4, y5, y6, y7, y8⟩ := hBad hz ⟨K, s', m', l⟩ n
      obtain rfl : E = PE := (hPE.out.symm.trans y1).symm
      obtain rfl : E = SE := (y3).symm
      obtain rfl : E = CE := (hCE.out.symm.trans y5).symm
      obtain rfl : PD = dk0 := hPD.out.symm.trans y2
      obtain rfl : SD = dk0 := y4
      obtain rfl : CD = dk0 := hCD.out.symm.trans y6
      obtain rfl : RD = dk0 := y7
      have hn0 : n4 = 0 := by
        have := hl4.out
        rw [y8] at this
        rw [hn4.out, ← List.length_map (f := fun x : Lrc => x.r), this]
        rfl
      subst hn0
      have hzd : decide (E = 0) = false := decide_eq_false hz
      clear hPE hPD hSE hSD hCE hCD hRD hRL y8 hBad hNb hNd hl4 hn4
      have x00 := DA.blk.cell 0
      have x01 := DA.blk.cell 1
      have x0l := DA.blk.lt
      have x10 := DN.blk.cell 0
      have x11 := DN.blk.cell 1
      have x1l := DN.blk.lt
      go_wp2_with fail
      go_at_call 13
      refine (rself_box DA DN).mono ?_
      rintro e u0 ⟨rfl, bb⟩
      clear x00 x01 x0l x10 x11 x1l
      replace DD := DD.call bb
      replace BC := BC.keep bb BC.lt
      replace DX := DX.call bb
      replace SC := SC.call bb
      replace DA := DA.call bb
      replace DB := DB.call bb
      replace DK := DK.call bb
      replace DR := DR.call bb
      replace LR := LR.call bb
      replace DN := DN.call bb
      replace bel := belowCall bel bb
      clear bb
      have x00 := DB.blk.cell 0
      have x01 := DB.blk.cell 1
      have x0l := DB.blk.lt
      have x10 := DN.blk.cell 0
      have x11 := DN.blk.cell 1
      have x1l := DN.blk.lt
      go_wp2_with fail
      go_at_call 13
      refine (rself_box DB DN).mono ?_
      rintro e u1 ⟨rfl, bb⟩
      clear x00 x01 x0l x10 x11 x1l
      replace DD := DD.call bb
      replace BC := BC.keep bb BC.lt
      replace DX := DX.call bb
      replace SC := SC.call bb
      replace DA := DA.call bb
      replace DB := DB.call bb
      replace DK := DK.call bb
      replace DR := DR.call bb
      replace LR := LR.call bb
      replace DN := DN.call bb
      replace bel := belowCall bel bb
      clear bb
      have x00 := DK.blk.cell 0
      have x01 := DK.blk.cell 1
      have x0l := DK.blk.lt
      have x10 := DN.blk.cell 0
      have x11 := DN.blk.cell 1
      have x1l := DN.blk.lt
      go_wp2_with fail
      go_at_call 13
      refine (rself_box DK DN).mono ?_
      rintro e u2 ⟨rfl, bb⟩
      clear x00 x01 x0l x10 x11 x1l
      replace DD := DD.call bb
      replace BC := BC.keep bb BC.lt
      replace DX := DX.call bb
      replace SC := SC.call bb
      replace DA := DA.call bb
      replace DB := DB.call bb
      replace DK := DK.call bb
      replace DR := DR.call bb
      replace LR := LR.call bb
      replace DN := DN.call bb
      replace bel := belowCall bel bb
      clear bb
      have x00 := DR.blk.cell 0
      have x01 := DR.blk.cell 1
      have x0l := DR.blk.lt
      have x10 := DN.blk.cell 0
      have x11 := DN.blk.cell 1
      have x1l := DN.blk.lt
      go_wp2_with fail
      go_at_call 13
      refine (rself_box DR DN).mono ?_
      rintro e u3 ⟨rfl, bb⟩
      clear x00 x01 x0l x10 x11 x1l
      replace DD := DD.call bb
      replace BC := BC.keep bb BC.lt
      replace DX := DX.call bb
      replace SC := SC.call bb
      replace DA := DA.call bb
      replace DB := DB.call bb
      replace DK := DK.call bb
      replace DR := DR.call bb
      replace LR := LR.call bb
      replace DN := DN.call bb
      replace bel := belowCall bel bb
      clear bb
      go_wp2_with fail
      go_ret
      exact ⟨rfl, bel⟩

end Go.Proofs.YtabeihkfjlmepaaGreatDoor.diskSays

/-
  Proved: for any two disks, any record and any number, DiskSays returns true and leaves its arguments as they were: any disk is checked, has any record put, is synced, crashes, recovers, as the document says, errors too. Conditions: the listed variables of Go's library start as the program's text lays them (tied by the card).
-/
namespace Go.Proofs.YtabeihkfjlmepaaGreatDoor.diskSays
open Go.ChangeShapes Go.WideShapes Go.ChangeAt Go.RowKit Go.ChangeMaps
set_option linter.unusedVariables false

def laidL : List (String × DataW Unit) := Rows.diskSaysRow.laid

set_option maxRecDepth 100000 in
theorem lifted (os : Os) (started : os.Started) (H : Type) (enc : TypeId × Value → H) :
    ReturnsInHanded {} Tryz.checked os 3 .any (fun w args => (Rows.diskSaysSpec.pre enc Tryz.prog Tryz.f3 [] false w args ∧ laidMetH Tryz.prog laidL w) ∧ sizedMet enc Tryz.prog Tryz.f3 (OpenSpec.ofChange Rows.diskSaysSpec) false w args)
      (Rows.diskSaysSpec.post enc Tryz.prog Tryz.f3 false true false false) := by
  refine returns_both (C := Tryz.checked) (X := fun w _ => laidMetH Tryz.prog laidL w) (fun _ _ _ hh h => h.of_heap hh) own started (by kernel_rfl) Tryz.func3
    (ChangeSpec.witness_shaped (enc := enc) (C := Tryz.checked) (os := os) (X := fun w _ => laidMetH Tryz.prog laidL w) false (World.laidAll Tryz.prog os laidL) #[.agg #[.slice none 0 0, .slice none 0 0], .agg #[.int .i64 0, .int .i64 0, .int .i64 0, .slice none 0 0], .int .i64 0, .agg #[.slice none 0 0, .slice none 0 0]] 8 (World.laidAll_os _ _ _)
      (World.shaped_of_ZipB (by kernel_rfl) (by kernel_rfl)) (by kernel_rfl) (by kernel_rfl) (by kernel_rfl)
      (by rw [MakeChecks.laidMetH_plain _ _ _ (by kernel_rfl)]; exact laidMet_laidAll _ (by kernel_rfl) (by kernel_rfl))) ?_
  intro W base args ds gs before hval0 hW hsz0 hL hsh
  have hsz : (DataW.weightsEach Tryz.prog (Tryz.f3.params.toList ++ Rows.diskSaysSpec.plain.varTypes Tryz.prog) (ds ++ gs)).all (· ≤ reachBytes) = true := hsz0
  have hval : ∀ (j : Nat) t v, Tryz.f3.params[j]? = some t → args[j]? = some v → Value.okWide Tryz.prog W .any base t v := hval0
  have hW' := hW
  obtain ⟨p, q, hA0, hV, rfl, hfz, hnd⟩ := hW
  have hA : DataW.TrodAll enc Tryz.prog W 0 (fun _ => true) true Tryz.f3.params.toList args.toList ds p := hA0
  rw [Tryz.params3] at hA hval hsz
  obtain ⟨v0, vs0, d0, ds0, p0, q0, hargs, rfl, rfl, h0, r0⟩ := trodAll_cons hA
  obtain ⟨v1, vs1, d1, ds1, p1, q1, rfl, rfl, rfl, h1, r1⟩ := trodAll_cons r0
  obtain ⟨v2, vs2, d2, ds2, p2, q2, rfl, rfl, rfl, h2, r2⟩ := trodAll_cons r1
  obtain ⟨v3, vs3, d3, ds3, p3, q3, rfl, rfl, rfl, h3, r3⟩ := trodAll_cons r2
  obtain ⟨rfl, rfl, rfl⟩ := trodAll_nil r3
  obtain rfl : args = #[v0, v1, v2, v3] := by cases args; simp_all
  obtain ⟨rfl, rfl⟩ := trodVars_none hV
  have k0 := h0
  have k1 := h1
  have lt0 : ∀ x ∈ p0, x.block < W.heap.size := by obtain ⟨m, hm⟩ := k0; exact DataW.trod_lt m _ _ _ hm
  have lt1 : ∀ x ∈ p1, x.block < W.heap.size := by obtain ⟨m, hm⟩ := k1; exact DataW.trod_lt m _ _ _ hm
  have k3 := h3
  have lt3 : ∀ x ∈ p3, x.block < W.heap.size := by obtain ⟨m, hm⟩ := k3; exact DataW.trod_lt m _ _ _ hm
  obtain ⟨qa, a1, a2, c1, c2, rfl, s1, s2, few⟩ := open_disk (hval 0 24 v0 rfl rfl) h0 (rec_light (j := 0) hsz rfl rfl)
  obtain ⟨ra, a3, c3, rfl, s3⟩ := open_rec (hval 1 27 v1 rfl rfl) h1 (rec_light (j := 1) hsz rfl rfl)
  obtain ⟨n, rfl, rfl, rfl, wn⟩ := open_int Tryz.underlying3 (hval 2 3 v2 rfl rfl) h2
  obtain ⟨qb, b1, b2, e1, e2, rfl, t1, t2, _⟩ := open_disk (hval 3 24 v3 rfl rfl) h3 (rec_light (j := 3) hsz rfl rfl)
  rw [MakeChecks.laidMetH_plain _ _ _ (by kernel_rfl)] at hL
  have g := glob_of hL hsh
  refine (walk W g qa qb ra n a1 a2 a3 b1 b2 c1 c2 c3 e1 e2 _ _ _ _ _ s1 s2 s3 t1 t2 rfl rfl rfl rfl rfl few).mono fun e W' ⟨he, bel⟩ => ?_
  subst he
  exact ⟨_, rfl, _, _, _, [], _, [], hW', trodAll_mk1 (shut_bool Tryz.underlying4 _), trodAll_cons_mk (Below.trod laidOut (by kernel_rfl) (of_decide_eq_true (by kernel_rfl)) k0 bel lt0) (trodAll_cons_mk (Below.trod laidOut (by kernel_rfl) (of_decide_eq_true (by kernel_rfl)) k1 bel lt1) (trodAll_cons_mk (shut_int Tryz.underlying3 wn) (trodAll_cons_mk (Below.trod laidOut (by kernel_rfl) (of_decide_eq_true (by kernel_rfl)) k3 bel lt3) trodAll_mk0))), rfl, bel.frame _, fun h => by cases h⟩

theorem row_holds : Rows.DiskSaysSaid :=
  OpenClaim.holds_of_wide 3 Tryz.f3 rfl rfl rfl rfl rfl rfl rfl ⟨rfl, rfl, rfl, rfl, rfl⟩ rfl rfl rfl rfl rfl (by kernel_rfl) Tryz.func3 (by kernel_rfl)
    (of_decide_eq_true (by kernel_rfl)) (by unfold Func.isWrapper; first | (rw [if_pos (by decide +kernel)]; kernel_rfl) | (rw [if_neg (by decide +kernel)]; exact ⟨rfl, rfl⟩))
    (fun os started H enc _ => lifted os started H enc)
end Go.Proofs.YtabeihkfjlmepaaGreatDoor.diskSays
