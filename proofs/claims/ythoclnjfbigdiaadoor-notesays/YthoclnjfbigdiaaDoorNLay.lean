/-
  The shelf's contracts of strings.Builder's WriteByte and WriteString at this seat, laid by hand out of the laying of strings.Join. (The text <Seat>Shelf is the shelf's contracts in plain words: NOTES.md says how it is laid.)
-/
import Derived.Test.YthoclnjfbigdiaaDoorShelf
namespace Go.Proofs.YthoclnjfbigdiaaDoor
open Go.RowKit Go.Shelf

theorem laysWs : Go.Proofs.Lays.n166 Tryd.prog Tryd.lays156_ren := { Tryd.lays156 with }
theorem extraWs : Builder.Extra Tryd.prog Tryd.lays156_ren := Tryd.Builder_Extra_156

def renWb : Go.Shelf.Ren := ⟨fun | 167 => 46 | n => Tryd.lays156_ren.f n, Tryd.lays156_ren.t, Tryd.lays156_ren.g⟩

theorem laysWb : Go.Proofs.Lays.n167 Tryd.prog renWb := {
  mixed := Tryd.lays156.mixed
  f167 := Tryd.func46.trans (congrArg some (by kernel_rfl))
  f240 := Tryd.lays156.f240
  f276 := Tryd.lays156.f276
  t0 := Tryd.lays156.t0
  a0 := Tryd.lays156.a0
  z0 := Tryd.lays156.z0
  v0 := Tryd.lays156.v0
  t4 := Tryd.lays156.t4
  a4 := Tryd.lays156.a4
  z4 := Tryd.lays156.z4
  v4 := Tryd.lays156.v4
  t5 := extraWs.t5
  a5 := extraWs.a5
  z5 := extraWs.z5
  v5 := extraWs.v5
  t9 := Tryd.lays156.t9
  a9 := Tryd.lays156.a9
  z9 := Tryd.lays156.z9
  v9 := Tryd.lays156.v9
  t20 := Tryd.lays156.t20
  a20 := Tryd.lays156.a20
  z20 := Tryd.lays156.z20
  v20 := Tryd.lays156.v20
  t37 := Tryd.lays156.t37
  a37 := Tryd.lays156.a37
  z37 := Tryd.lays156.z37
  v37 := Tryd.lays156.v37
  t70 := Tryd.lays156.t70
  a70 := Tryd.lays156.a70
  z70 := Tryd.lays156.z70
  v70 := Tryd.lays156.v70
  t72 := Tryd.lays156.t72
  a72 := Tryd.lays156.a72
  z72 := Tryd.lays156.z72
  v72 := Tryd.lays156.v72
  t75 := Tryd.lays156.t75
  a75 := Tryd.lays156.a75
  z75 := Tryd.lays156.z75
  v75 := Tryd.lays156.v75
  t164 := Tryd.lays156.t164
  a164 := Tryd.lays156.a164
  z164 := Tryd.lays156.z164
  v164 := Tryd.lays156.v164 }

set_option maxRecDepth 100000 in
theorem extraWb : Builder.Extra Tryd.prog renWb := {
  sizeBuilder := extraWs.sizeBuilder
  liesBuilder := extraWs.liesBuilder
  t5 := extraWs.t5
  a5 := extraWs.a5
  z5 := extraWs.z5
  v5 := extraWs.v5
  infoByte := extraWs.infoByte
  cellsByte := extraWs.cellsByte
  sizeByte := extraWs.sizeByte
  neB5 := extraWs.neB5 }

theorem writeByte (B b : Nat) (bs : List Value) (c : Int) (w : World) (h : Lib.IsBuilderF 83 5 B b bs w) (hlen : bs.length + 1 ≤ 140737488355328) (hBw : B ≤ w.heap.size) :
    Calls Tryd.prog 46 #[.pointer (some ⟨b, 0, none⟩), .int .u8 c] w fun e w' => e = .returned .nilIface ∧ (Lib.BuilderAtF 83 5 B b (.pointer (some ⟨b, 0, none⟩)) (bs ++ [.int .u8 c]) w' ∧ Below B w w' ∧ Lib.OthersKept 5 (some b) w w') := Any.Builder_WriteByte_k laysWb extraWb B b bs c w h hlen hBw

theorem writeString (B b : Nat) (bs : List Value) (s : ByteArray) (w : World) (h : Lib.IsBuilderF 83 5 B b bs w) (hlen : bs.length + s.size ≤ 140737488355328) (hBw : B ≤ w.heap.size) :
    Calls Tryd.prog 45 #[.pointer (some ⟨b, 0, none⟩), .string s] w fun e w' => e = .returned (.tuple #[.int .i64 s.size, .nilIface]) ∧ (Lib.BuilderAtF 83 5 B b (.pointer (some ⟨b, 0, none⟩)) (bs ++ Lib.strCells s) w' ∧ Below B w w' ∧ Lib.OthersKept 5 (some b) w w') := Any.Builder_WriteString_k laysWs extraWs B b bs s w h hlen hBw

end Go.Proofs.YthoclnjfbigdiaaDoor
