/-
  The shelf's contracts of strings.Builder's WriteByte and WriteString at this seat, laid by hand out of the laying of strings.Join. (The text <Seat>Shelf is the shelf's contracts in plain words: NOTES.md says how it is laid.)
-/
import Derived.Test.YtoonnbhoiocoeaaGreatDoorQShelfP
import Derived.Test.YtoonnbhoiocoeaaGreatDoorChecked
import Derived.WalkKit
import Derived.ProofKit
import Derived.OpenShut
import Derived.Deep.QuietTactic
import Derived.BigQuiet
import Derived.Deep.Draws
import Derived.Deep.LoopGhost
import Derived.WalkLawsBesides
import Derived.WalkSpells
import Derived.Lib.AppendIntMem
import Derived.Lib.AtoiErrMem
import Derived.Test.YtoonnbhoiocoeaaGreatDoorRows
import Derived.Stop.LaidErr
import Derived.Lib.LaidTab
import Derived.Lib.LaidU8
import Derived.Shelf.Vars
import Derived.HandedShaped
import Derived.LaidLaws
import Derived.Lay
import Derived.SizedLaws
import Derived.ChangeOld
import Derived.Below
import Derived.Deep.Slices
set_option maxHeartbeats 40000000
set_option maxRecDepth 100000
set_option linter.unusedVariables false
namespace Go.Proofs.YtoonnbhoiocoeaaGreatDoor
open Go.RowKit Go.Shelf
theorem Qr:Go.Proofs.Lays.n166 Tryz.prog Tryz.lays156_ren:= {Tryz.lays156 with}
theorem fI:Builder.Extra Tryz.prog Tryz.lays156_ren:=Tryz.Builder_Extra_156
def NH:Go.Shelf.Ren:=⟨fun|167=>231|n=>Tryz.lays156_ren.f n,Tryz.lays156_ren.t,Tryz.lays156_ren.g⟩
theorem QT:Go.Proofs.Lays.n167 Tryz.prog NH:= {
 mixed:=Tryz.lays156.mixed
 f167:=Tryz.func231.trans (congrArg some (by kernel_rfl))
 f240:=Tryz.lays156.f240
 f276:=Tryz.lays156.f276
 t0:=Tryz.lays156.t0
 a0:=Tryz.lays156.a0
 z0:=Tryz.lays156.z0
 v0:=Tryz.lays156.v0
 t4:=Tryz.lays156.t4
 a4:=Tryz.lays156.a4
 z4:=Tryz.lays156.z4
 v4:=Tryz.lays156.v4
 t5:=fI.t5
 a5:=fI.a5
 z5:=fI.z5
 v5:=fI.v5
 t9:=Tryz.lays156.t9
 a9:=Tryz.lays156.a9
 z9:=Tryz.lays156.z9
 v9:=Tryz.lays156.v9
 t20:=Tryz.lays156.t20
 a20:=Tryz.lays156.a20
 z20:=Tryz.lays156.z20
 v20:=Tryz.lays156.v20
 t37:=Tryz.lays156.t37
 a37:=Tryz.lays156.a37
 z37:=Tryz.lays156.z37
 v37:=Tryz.lays156.v37
 t70:=Tryz.lays156.t70
 a70:=Tryz.lays156.a70
 z70:=Tryz.lays156.z70
 v70:=Tryz.lays156.v70
 t72:=Tryz.lays156.t72
 a72:=Tryz.lays156.a72
 z72:=Tryz.lays156.z72
 v72:=Tryz.lays156.v72
 t75:=Tryz.lays156.t75
 a75:=Tryz.lays156.a75
 z75:=Tryz.lays156.z75
 v75:=Tryz.lays156.v75
 t164:=Tryz.lays156.t164
 a164:=Tryz.lays156.a164
 z164:=Tryz.lays156.z164
 v164:=Tryz.lays156.v164}
theorem Ot:Builder.Extra Tryz.prog NH:= {
 sizeBuilder:=fI.sizeBuilder
 liesBuilder:=fI.liesBuilder
 t5:=fI.t5
 a5:=fI.a5
 z5:=fI.z5
 v5:=fI.v5
 infoByte:=fI.infoByte
 cellsByte:=fI.cellsByte
 sizeByte:=fI.sizeByte
 neB5:=fI.neB5}
theorem Ij (B b:Nat)(bs:List Value)(c:Int)(w:World)(h:Lib.IsBuilderF 192 5 B b bs w)(hlen:bs.length+1<=140737488355328)(hBw:B<=w.heap.size):
  Calls Tryz.prog 231 #[.pointer (some ⟨b,0,none⟩),.int .u8 c] w fun e w'=>e=.returned .nilIface/\(Lib.BuilderAtF 192 5 B b (.pointer (some ⟨b,0,none⟩)) (bs++[.int .u8 c]) w'/\Below B w w'/\Lib.OthersKept 5 (some b) w w'):=Any.Builder_WriteByte_k QT Ot B b bs c w h hlen hBw
theorem uz (B b:Nat)(bs:List Value)(s:ByteArray)(w:World)(h:Lib.IsBuilderF 192 5 B b bs w)(hlen:bs.length+s.size<=140737488355328)(hBw:B<=w.heap.size):
  Calls Tryz.prog 146 #[.pointer (some ⟨b,0,none⟩),.string s] w fun e w'=>e=.returned (.tuple #[.int .i64 s.size,.nilIface])/\(Lib.BuilderAtF 192 5 B b (.pointer (some ⟨b,0,none⟩)) (bs++Lib.strCells s) w'/\Below B w w'/\Lib.OthersKept 5 (some b) w w'):=Any.Builder_WriteString_k Qr fI B b bs s w h hlen hBw
open Go.RowKit
def Row (w:World)(ao:Option Addr)(cs:List Value):Prop:=
 cs=[]\/∃b off,ao=some ⟨b,off,none⟩/\b<w.heap.size/\∀i v,cs[i]? =some v->w.cell? ⟨b,off+i,none⟩=some v
theorem Row.keep {w w':World}{ao:Option Addr}{cs:List Value}{B:Nat}(h:Row w ao cs)(hb:Below B w w')(hB:w.heap.size<=B):Row w' ao cs:=by
 rcases h with h| ⟨b,off,e,aE,hc⟩
 .exact .inl h
 refine .inr ⟨b,off,e,Nat.lt_of_lt_of_le aE hb.size,fun i v hv=>?_⟩
 rw[hb.cell (p:=⟨b,off+i,none⟩) (by show b<B;omega)]
 exact hc i v hv
theorem Row.drewN {w:World}{ao:Option Addr}{cs:List Value}(h:Row w ao cs)(n:Nat):Row (w.drewN n) ao cs:=h
theorem bt {B:Nat}{a w:World}(h:Below B a w)(n:Nat):Below B a (w.drewN n):=⟨h.os,h.tape,h.output,h.size,h.block⟩
theorem ak {B:Nat}{a w:World}(h:Below B a w):Below B a w.drew:=⟨h.os,h.tape,h.output,h.size,h.block⟩
theorem Row.at {w:World}{ao:Option Addr}{cs:List Value}(h:Row w ao cs)(aF:cs≠[]):∃b off,ao=some ⟨b,off,none⟩/\b<w.heap.size/\∀i v,cs[i]? =some v->w.cell? ⟨b,off+i,none⟩=some v:=by
 rcases h with h|h
 .exact absurd h aF
 exact h
theorem CD {w:World}{b off:Nat}{l:List Bool}(hc:∀i v,(l.map Value.bool)[i]? =some v->w.cell? ⟨b,off+i,none⟩=some v)(k:Nat)(hk:k<l.length):w.cell? ⟨b,off+k,none⟩=some (.bool (l.getD k false)):=
 hc k _ (by simp[hk])
theorem DB {w:World}{b off:Nat}{l:List Int}(hc:∀i v,(l.map (Value.int .i64))[i]? =some v->w.cell? ⟨b,off+i,none⟩=some v)(k:Nat)(hk:k<l.length):w.cell? ⟨b,off+k,none⟩=some (.int .i64 (l.getD k 0)):=
 hc k _ (by simp[hk])
theorem DM {α:Type}{l m:List α}{d:α}(hl:l.length=m.length)(h:∀j,j<l.length->l.getD j d=m.getD j d):l=m:=by
 apply List.ext_getElem hl
 intro i h1 h2
 have:=h i h1
 simpa[List.getD,List.getElem?_eq_getElem h1,List.getElem?_eq_getElem h2] using this
theorem CZ {α:Type}{l m:List α}{d:α}{k:Nat}(h:l.getD k d≠m.getD k d):l≠m:=fun e=>h (by rw[e])
theorem Row.alloc {w:World}{ao:Option Addr}{cs:List Value}(h:Row w ao cs)(o:Obj):Row (w.alloc o) ao cs:=
 h.keep ((Below.refl w.heap.size w).alloc (Nat.le_refl _) o) (Nat.le_refl _)
theorem Row.laid (w:World)(cs:List Value)(t:TypeId)(n:Nat)(hn:n=w.heap.size):Row (w.alloc (.cells cs.toArray t)) (some ⟨n,0,none⟩) cs:=by
 subst hn
 refine .inr ⟨w.heap.size,0,rfl,by simp,fun i v hv=>?_⟩
 rw[World.cell?_alloc_at (hn:=rfl)]
 simpa using hv
def ag (w:World)(g:Nat)(cs:List Value)(t:TypeId):Prop:=w.heap[g]? =some (.cells cs.toArray t (0,0))
theorem ag.lt {w:World}{g:Nat}{cs:List Value}{t:TypeId}(h:ag w g cs t):g<w.heap.size:=by
 unfold ag at h
 exact(Array.getElem?_eq_some_iff.1 h).1
theorem ag.cell {w:World}{g:Nat}{cs:List Value}{t:TypeId}(h:ag w g cs t)(i:Nat):w.cell? ⟨g,i,none⟩=cs[i]? :=by
 rw[cell_of_row w g i cs.toArray t (0,0) h]
 simp
theorem ag.free {w:World}{g:Nat}{cs:List Value}{t:TypeId}(h:ag w g cs t)(i:Nat):w.frozen? ⟨g,i,none⟩=false:=
 frozen_of_row w g i cs.toArray t h
theorem ag.c2 {w:World}{g:Nat}{c0 c1:Value}{t:TypeId}(B:ag w g [c0,c1] t):w.cell? ⟨g,0,none⟩=some c0/\w.cell? ⟨g,1,none⟩=some c1/\g<w.heap.size:=
 ⟨B.cell 0,B.cell 1,B.lt⟩
theorem ag.c3 {w:World}{g:Nat}{c0 c1 c2:Value}{t:TypeId}(B:ag w g [c0,c1,c2] t):w.cell? ⟨g,0,none⟩=some c0/\w.cell? ⟨g,1,none⟩=some c1/\w.cell? ⟨g,2,none⟩=some c2/\g<w.heap.size:=
 ⟨B.cell 0,B.cell 1,B.cell 2,B.lt⟩
theorem ag.c4 {w:World}{g:Nat}{c0 c1 c2 c3:Value}{t:TypeId}(B:ag w g [c0,c1,c2,c3] t):w.cell? ⟨g,0,none⟩=some c0/\w.cell? ⟨g,1,none⟩=some c1/\w.cell? ⟨g,2,none⟩=some c2/\w.cell? ⟨g,3,none⟩=some c3/\g<w.heap.size:=
 ⟨B.cell 0,B.cell 1,B.cell 2,B.cell 3,B.lt⟩
theorem ag.c5 {w:World}{g:Nat}{c0 c1 c2 c3 c4:Value}{t:TypeId}(B:ag w g [c0,c1,c2,c3,c4] t):w.cell? ⟨g,0,none⟩=some c0/\w.cell? ⟨g,1,none⟩=some c1/\w.cell? ⟨g,2,none⟩=some c2/\w.cell? ⟨g,3,none⟩=some c3/\w.cell? ⟨g,4,none⟩=some c4/\g<w.heap.size:=
 ⟨B.cell 0,B.cell 1,B.cell 2,B.cell 3,B.cell 4,B.lt⟩
theorem ag.f3 {w:World}{g:Nat}{cs:List Value}{t:TypeId}(B:ag w g cs t):w.frozen? ⟨g,0,none⟩=false/\w.frozen? ⟨g,1,none⟩=false/\w.frozen? ⟨g,2,none⟩=false:=
 ⟨B.free 0,B.free 1,B.free 2⟩
theorem ag.f4 {w:World}{g:Nat}{cs:List Value}{t:TypeId}(B:ag w g cs t):w.frozen? ⟨g,0,none⟩=false/\w.frozen? ⟨g,1,none⟩=false/\w.frozen? ⟨g,2,none⟩=false/\w.frozen? ⟨g,3,none⟩=false:=
 ⟨B.free 0,B.free 1,B.free 2,B.free 3⟩
theorem ag.f5 {w:World}{g:Nat}{cs:List Value}{t:TypeId}(B:ag w g cs t):w.frozen? ⟨g,0,none⟩=false/\w.frozen? ⟨g,1,none⟩=false/\w.frozen? ⟨g,2,none⟩=false/\w.frozen? ⟨g,3,none⟩=false/\w.frozen? ⟨g,4,none⟩=false:=
 ⟨B.free 0,B.free 1,B.free 2,B.free 3,B.free 4⟩
theorem ag.set {w:World}{g:Nat}{cs:List Value}{t:TypeId}(h:ag w g cs t)(i:Nat)(u:Value):ag (w.setCell ⟨g,i,none⟩ u) g (cs.set i u) t:=by
 unfold ag
 rw[heap_setCell_same w g i cs.toArray t u h]
 simp
theorem ag.keep {w w':World}{g B:Nat}{cs:List Value}{t:TypeId}(h:ag w g cs t)(hb:Below B w w')(hg:g<B):ag w' g cs t:=
 (hb.block g hg).trans h
theorem ag.laid (w:World)(cs:List Value)(t:TypeId)(n:Nat)(hn:n=w.heap.size):ag (w.alloc (.cells cs.toArray t)) n cs t:=by
 subst hn
 exact heap_alloc_new w _
theorem ag.row {w:World}{g:Nat}{cs:List Value}{t:TypeId}(h:ag w g cs t)(off:Nat)(l:List Value)(hl:∀i v,l[i]? =some v->cs[off+i]? =some v):Row w (some ⟨g,off,none⟩) l:=
 .inr ⟨g,off,rfl,h.lt,fun i v hv=>by rw[h.cell];exact hl i v hv⟩
structure Sl (w:World)(ao:Option Addr)(cap:Nat)(cs:List Value):Prop where
 row:Row w ao cs
 le:cs.length<=cap
 max:cap<=9223372036854775807
 nil:ao=none->cap=0
theorem Sl.keep {w w':World}{ao:Option Addr}{cap:Nat}{cs:List Value}{B:Nat}(h:Sl w ao cap cs)(hb:Below B w w')(hB:w.heap.size<=B):Sl w' ao cap cs:=
 ⟨h.row.keep hb hB,h.le,h.max,h.nil⟩
theorem Sl.ofBlk {w:World}{g:Nat}{cs:List Value}{t:TypeId}(h:ag w g cs t)(hm:cs.length<=9223372036854775807):Sl w (some ⟨g,0,none⟩) cs.length cs:=
 ⟨h.row 0 cs (fun i v hv=>by rw[Nat.zero_add];exact hv),Nat.le_refl _,hm,fun e=>by cases e⟩
theorem Sl.ofNil (w:World):Sl w none 0 []:=⟨.inl rfl,Nat.le_refl _,by decide,fun _=>rfl⟩
theorem Sl.src {w:World}{ao:Option Addr}{cap:Nat}{cs:List Value}(h:Sl w ao cap cs):∀ad,ao=some ad->∀j u,cs[j]? =some u->w.cell? (ad.add j)=some u:=by
 intro ad yA j u hu
 obtain⟨b,off,e,_,hc⟩:=h.row.at (by intro e;rw[e] at hu;simp at hu)
 rw[e] at yA
 obtain rfl:=Option.some.inj yA
 rw[Addr.add_lit]
 exact hc j u hu
theorem Sl.src0 {w:World}{ao:Option Addr}{cap:Nat}{cs:List Value}(h:Sl w ao cap cs):ao=none->cs.length=0/\cap=0:=by
 intro e
 have h1:=h.nil e
 have h2:=h.le
 exact⟨by omega,h1⟩
theorem vm {w:World}{g:Nat}{cs:List Value}{t:TypeId}(h:ag w g cs t)(base:Nat)(hb:base<=g)(n:Nat)(hn:n<=cs.length)(hm:cs.length<=maxLen):w.ownsRow base t 1 (.slice (some ⟨g,0,none⟩) n cs.length) n (cs.take n):=
 ⟨by simp;omega,.inr ⟨g,cs.length,cs.toArray,rfl,hb,h,hn,hm,by simp,by simp⟩⟩
theorem Gc {w:World}{base g n cap:Nat}{xs:List Value}{t:TypeId}(h:w.ownsRow base t 1 (.slice (some ⟨g,0,none⟩) n cap) n xs):Sl w (some ⟨g,0,none⟩) cap xs/\xs.length=n:=by
 have hx:xs.length=n:=by simpa using h.1
 rcases h.2 with⟨h',_⟩| ⟨g',rZ,cur,h',_,hg,LT,tj,_,_⟩
 .simp at h'
 simp only[Value.slice.injEq,Option.some.injEq,Addr.mk.injEq,and_true,true_and] at h'
 obtain⟨rfl,rfl⟩:=h'
 refine⟨⟨.inr ⟨g,0,rfl,(Array.getElem?_eq_some_iff.1 hg).1,fun i v hv=>?_⟩,by omega,by unfold maxLen at tj;exact tj,fun e=>by cases e⟩,hx⟩
 rw[Nat.zero_add,h.cellAt i (by have:=(List.getElem?_eq_some_iff.1 hv).1;omega)]
 exact hv
theorem Sl.alloc {w:World}{ao:Option Addr}{cap:Nat}{cs:List Value}(h:Sl w ao cap cs)(o:Obj):Sl (w.alloc o) ao cap cs:=
 ⟨h.row.alloc o,h.le,h.max,h.nil⟩
theorem Sl.drewN {w:World}{ao:Option Addr}{cap:Nat}{cs:List Value}(h:Sl w ao cap cs)(n:Nat):Sl (w.drewN n) ao cap cs:=
 ⟨h.row.drewN n,h.le,h.max,h.nil⟩
theorem Sl.call {w w':World}{ao:Option Addr}{cap:Nat}{cs:List Value}(h:Sl w ao cap cs)(hb:Below w.heap.size w w'):Sl w' ao cap cs:=h.keep hb (Nat.le_refl _)
theorem ac {w W w':World}(h:Below w.heap.size w W)(hb:Below W.heap.size W w'):Below w.heap.size w w':=h.trans (hb.mono h.size)
theorem Sl.int {w:World}{b off cap:Nat}{l:List Int}(h:Sl w (some ⟨b,off,none⟩) cap (l.map (Value.int .i64)))(k:Nat)(hk:k<l.length):w.cell? ⟨b,off+k,none⟩=some (.int .i64 (l.getD k 0)):=by
 have:=h.src ⟨b,off,none⟩ rfl k (.int .i64 (l.getD k 0)) (by simp[hk])
 rw[Addr.add_lit] at this
 exact this
def iH (B:Nat)(ao a':Option Addr):Prop:=a'=ao\/∀ad,a'=some ad->B<=ad.block
def Off (g:Nat)(ao:Option Addr):Prop:=∀ad,ao=some ad->ad.block≠g
theorem iH.refl (B:Nat)(ao:Option Addr):iH B ao ao:=.inl rfl
theorem iH.nil (B:Nat)(ao:Option Addr):iH B ao none:=.inr (fun _ h=>by cases h)
theorem iH.new (B off:Nat)(ao:Option Addr):iH B ao (some ⟨B,off,none⟩):=.inr (fun _ h=>by cases h;exact Nat.le_refl _)
theorem iH.fresh {B B0:Nat}{ao a':Option Addr}(h:iH B none a')(hb:B0<=B):iH B0 ao a':=by
 rcases h with rfl|h
 .exact iH.nil _ _
 exact .inr (fun ad e=>Nat.le_trans hb (h ad e))
theorem iH.trans {B B':Nat}{ao a1 a2:Option Addr}(h:iH B ao a1)(h2:iH B' a1 a2)(hb:B<=B'):iH B ao a2:=by
 rcases h2 with rfl|h2
 .exact h
 exact .inr (fun ad e=>Nat.le_trans hb (h2 ad e))
theorem Off.kin {g B:Nat}{ao a':Option Addr}(h:Off g ao)(hk:iH B ao a')(hg:g<B):Off g a':=by
 intro ad e
 rcases hk with rfl|hk
 .exact h ad e
 have:=hk ad e
 omega
theorem Off.nil (g:Nat):Off g none:=fun _ h=>by cases h
theorem Row.off {w w':World}{ao:Option Addr}{cs:List Value}{g:Nat}(h:Row w ao cs)(hg:w.grownBy w' (some g))(ho:Off g ao):Row w' ao cs:=by
 rcases h with h| ⟨b,off,rfl,hb,hc⟩
 .exact .inl h
 refine .inr ⟨b,off,rfl,Nat.lt_of_lt_of_le hb hg.size,fun i u hu=>?_⟩
 exact hg.cell (hc i u hu) (fun e=>ho _ rfl (Option.some.inj e))
theorem Sl.off {w w':World}{ao:Option Addr}{cap:Nat}{cs:List Value}{g:Nat}(h:Sl w ao cap cs)(hg:w.grownBy w' (some g))(ho:Off g ao):Sl w' ao cap cs:=
 ⟨h.row.off hg ho,h.le,h.max,h.nil⟩
theorem Sl.offNew {w:World}{ao:Option Addr}{cap:Nat}{cs:List Value}{g:Nat}(h:Sl w ao cap cs)(hg:w.heap.size<=g)(aF:cs≠[]):Off g ao:=by
 obtain⟨b,off,rfl,hb,_⟩:=h.row.at aF
 intro ad e
 cases e
 show b≠g
 omega
def okW (gi:Int):Bool:=decide (0<=gi/\gi<=40)
def Ao (n gi:Int):Bool:=decide (0<=n/\n<2 ^ gi.toNat)
def sY (n:Int)(j:Nat):Bool:=decide (n / 2 ^ j % 2=1)
def bitsOf (n:Int)(w:Nat):List Bool:=(List.range w).map fun i=>sY n (w-1-i)
def numOf:List Bool->Nat
 | []=>0
 |b::l=>b.toNat*2 ^ l.length+numOf l
theorem mR (n:Int)(w:Nat):(bitsOf n w).length=w:=by simp[bitsOf]
theorem Em (n:Int)(w i:Nat)(h:i<w):(bitsOf n w)[i]? =some (sY n (w-1-i)):=by
 simp[bitsOf,h]
theorem Cc {w:Int}(h:okW w=true):0<=w/\w<=40:=of_decide_eq_true h
theorem Hk {w:Int}(h:okW w=false):w<0\/40<w:=by
 have:=of_decide_eq_false h
 omega
theorem HZ (k:Nat)(h:k<=40):(2:Int) ^ k<=1099511627776:=by
 have:(2:Nat) ^ k<=2 ^ 40:=Nat.pow_le_pow_right (by decide) h
 have h2:((2 ^ k:Nat):Int)<=((2 ^ 40:Nat):Int):=Int.ofNat_le.2 this
 simpa using h2
theorem pow_pos (k:Nat):(0:Int)<2 ^ k:=Int.pow_pos (by decide)
theorem IV {n w:Int}(h0:0<=n):Ao n w=(n / 2 ^ w.toNat==0):=by
 have hp:=pow_pos w.toNat
 unfold Ao
 rw[Bool.eq_iff_iff]
 simp only[decide_eq_true_eq,beq_iff_eq]
 constructor
 .intro h;exact Int.ediv_eq_zero_of_lt h0 h.2
 intro h
 refine⟨h0,?_⟩
 have:=Int.mul_ediv_add_emod n (2 ^ w.toNat)
 rw[h] at this
 have h3:=Int.emod_lt_of_pos n hp
 omega
theorem Fb (l:List Bool)(b:Bool):numOf (l++[b])=2*numOf l+b.toNat:=by
 induction l with
 |nil=>simp[numOf]
 |cons a l ih=>
  simp only[List.cons_append,numOf,ih,List.length_append,List.length_singleton,Nat.pow_succ]
  rw[Nat.mul_add,<-Nat.add_assoc]
  congr 2
  rw[<-Nat.mul_assoc,Nat.mul_comm _ 2]
theorem AO (l:List Bool):numOf l<2 ^ l.length:=by
 induction l with
 |nil=>simp[numOf]
 |cons b l ih=>
  simp only[numOf,List.length_cons,Nat.pow_succ]
  cases b<;>simp<;>omega
theorem ju {k:IntKind}{a b:Int}(h:a=b):Ending.returned (.int k a)=.returned (.int k b):=by rw[h]
theorem and_one (x:Int)(h0:0<=x)(h1:x<=9223372036854775807):bits BinOp.and IntKind.i64 x 1=x % 2:=by
 obtain⟨n,rfl⟩:=Int.eq_ofNat_of_zero_le h0
 have e:(BitVec.ofInt 64 (n:Int)).toNat=n:=by
  simp only[BitVec.toNat_ofInt]
  omega
 have e1:(BitVec.ofInt 64 1).toNat=1:=by decide
 show IntKind.i64.wrap ((BitVec.ofInt 64 (n:Int)&&& BitVec.ofInt 64 1).toNat:Nat)=_
 rw[BitVec.toNat_and,e,e1,Nat.and_one_is_mod,IntKind.wrap_i64]
 omega
theorem wP (n:Int)(j:Nat)(h0:0<=n)(h1:n<=9223372036854775807):0<=n / 2 ^ j/\n / 2 ^ j<=9223372036854775807:=by
 have hp:=pow_pos j
 refine⟨Int.ediv_nonneg h0 (Int.le_of_lt hp),?_⟩
 have:=Int.ediv_le_self (b:=(2:Int) ^ j) (a:=n) h0
 omega
theorem Ek (n:Int)(j:Nat)(h0:0<=n)(h1:n<=9223372036854775807):(bits BinOp.and IntKind.i64 (n / 2 ^ j) 1==1)=sY n j:=by
 have hb:=wP n j h0 h1
 rw[and_one _ hb.1 hb.2]
 unfold sY
 rw[Bool.eq_iff_iff]
 simp
theorem Lm (P:List Bool)(n:Int)(k i:Nat)(h:i<k):
  ((P++(bitsOf n k).take i).map Value.bool++List.replicate (k-i) (Value.bool false)).set (P.length+i) (.bool (sY n (k-1-i)))=(P++(bitsOf n k).take (i+1)).map Value.bool++List.replicate (k-(i+1)) (Value.bool false):=by
 have hl:((P++(bitsOf n k).take i).map Value.bool).length=P.length+i:=by simp[mR];omega
 rw[List.set_append_right _ _ (by rw[hl];exact Nat.le_refl _),hl,Nat.sub_self]
 obtain⟨m,hm⟩:∃m,k-i=m+1:=⟨k-i-1,by omega⟩
 have kH:k-(i+1)=m:=by omega
 rw[hm,kH,List.replicate_succ,List.set_cons_zero]
 have ht:(bitsOf n k).take (i+1)=(bitsOf n k).take i++[sY n (k-1-i)]:=by
  rw[List.take_add_one,Em n k i h]
  simp
 rw[ht]
 simp
theorem or_one (n:Nat)(h:n<1099511627776):bits BinOp.or IntKind.i64 ((n:Int)*2) 1=(n:Int)*2+1:=by
 have e:(BitVec.ofInt 64 ((n:Int)*2)).toNat=n*2:=by
  simp only[BitVec.toNat_ofInt]
  omega
 have e1:(BitVec.ofInt 64 1).toNat=1:=by decide
 show IntKind.i64.wrap ((BitVec.ofInt 64 ((n:Int)*2)|||BitVec.ofInt 64 1).toNat:Nat)=_
 have e2:(n*2)|||1=n*2+1:=by
  rw[Nat.mul_comm,<-Nat.two_pow_add_eq_or_of_lt (i:=1) (b:=1) (by decide) n]
 rw[BitVec.toNat_or,e,e1,e2,IntKind.wrap_i64]
 omega
theorem FJ (l:List Bool)(j:Nat)(h:j<l.length):numOf (l.take (j+1))=2*numOf (l.take j)+(l.getD j false).toNat:=by
 rw[List.take_add_one,List.getElem?_eq_getElem h]
 simp only[Option.toList_some]
 rw[Fb]
 simp[List.getD,List.getElem?_eq_getElem h]
theorem qB (l:List Bool)(j:Nat):numOf (l.take j)<2 ^ j:=by
 have h1:=AO (l.take j)
 have h2:(2:Nat) ^ (l.take j).length<=2 ^ j:=Nat.pow_le_pow_right (by decide) (List.length_take_le _ _)
 omega
theorem EH (k m:Nat)(h:k<=m):(2:Nat) ^ k<=2 ^ m:=Nat.pow_le_pow_right (by decide) h
theorem aa {p:Prop}(h:p):Hid p:=h
def iK (v:Int):Bool:=decide (-4000000<=v/\v<=4000000)
def bj (v:Int):Nat:=if v<0 then(-2*v-1).toNat else(2*v).toNat
def fw (n:Nat):Int:=if n % 2=1 then-(((n:Int)+1) / 2) else(n:Int) / 2
def me (m:Bool)(d:Nat):List Bool:=[m,decide (4<=d),decide (2<=d % 4),decide (d % 2=1)]
def code:Nat->Nat->List Bool
 |0,_=>[]
 |f+1,n=>me (decide (0<n / 8)) (n % 8)++(if n / 8=0 then [] else code f (n / 8))
def zo (l:List Bool)(v:Int):List Bool:=if iK v then l++code 8 (bj v) else []
def FN (v:Int):Int:=if iK v then 0 else 3
def decode:Nat->Nat->Nat->List Bool->Int × List Bool × Int
 |0,_,_,_=>(0,[],3)
 |f+1,i,n,l=>
  if l.length<4 then(0,[],8)
  else if 0<i/\numOf (l.take 4)=0 then(0,[],4)
  else if 8000000<n+numOf (l.take 4) % 8*8 ^ i then(0,[],3)
  else if numOf (l.take 4)<8 then(fw (n+numOf (l.take 4) % 8*8 ^ i),l.drop 4,0)
  else decode f (i+1) (n+numOf (l.take 4) % 8*8 ^ i) (l.drop 4)
def ci (l:List Bool):Int:=(decode 8 0 0 l).1
def cx (l:List Bool):List Bool:=(decode 8 0 0 l).2.1
def fs (l:List Bool):Int:=(decode 8 0 0 l).2.2
theorem fW (m:Bool)(d:Nat):(me m d).length=4:=rfl
theorem OL (d:Nat)(h:d<8):bitsOf (d:Int) 4=me false d:=by
 have:∀d:Fin 8,bitsOf ((d.val:Nat):Int) 4=me false d.val:=by decide
 exact this ⟨d,h⟩
theorem Lq (d:Nat)(h:d<8):bitsOf ((d:Int)+8) 4=me true d:=by
 have:∀d:Fin 8,bitsOf (((d.val:Nat):Int)+8) 4=me true d.val:=by decide
 exact this ⟨d,h⟩
theorem HU (m:Bool)(d:Nat)(h:d<8):numOf (me m d)=m.toNat*8+d:=by
 have:∀(m:Bool) (d:Fin 8),numOf (me m d.val)=m.toNat*8+d.val:=by decide
 exact this m ⟨d,h⟩
theorem four (l:List Bool)(h:¬l.length<4):∃a b c d r,l=a::b::c::d::r:=by
 match l,h with
 | [],h=>exact absurd (by simp) h
 | [_],h=>exact absurd (by simp) h
 | [_,_],h=>exact absurd (by simp) h
 | [_,_,_],h=>exact absurd (by simp) h
 |a::b::c::d::r,_=>exact⟨a,b,c,d,r,rfl⟩
theorem EG (a b c d:Bool):numOf [a,b,c,d]=8*a.toNat+(4*b.toNat+2*c.toNat+d.toNat):=by
 revert a b c d;decide
theorem Kv (a b c d:Bool):me (decide (8<=numOf [a,b,c,d])) (numOf [a,b,c,d] % 8)=[a,b,c,d]:=by
 revert a b c d;decide
theorem vw (v:Int)(h:iK v=true):bj v<=8000000:=by
 have:=of_decide_eq_true h
 unfold bj;split<;>omega
theorem DZ (v:Int):fw (bj v)=v:=by
 unfold fw bj
 by_cases h:v<0
 .rw[if_pos h]
  obtain⟨m,hm⟩:∃m:Nat,m=(-2*v-1).toNat:=⟨_,rfl⟩
  rw[<-hm]
  split<;>omega
 rw[if_neg h]
 obtain⟨m,hm⟩:∃m:Nat,m=(2*v).toNat:=⟨_,rfl⟩
 rw[<-hm]
 split<;>omega
theorem CT (n:Nat):bj (fw n)=n:=by
 unfold fw
 by_cases h:n % 2=1
 .rw[if_pos h]
  unfold bj
  split<;>omega
 rw[if_neg h]
 unfold bj
 split<;>omega
theorem Hb (n:Nat)(h:n<=8000000):iK (fw n)=true:=by
 unfold iK fw
 apply decide_eq_true
 split<;>omega
theorem fT:∀(f n:Nat),(code f n).length<=4*f
 |0,_=>by simp[code]
 |f+1,n=>by
  have:=fT f (n / 8)
  unfold code
  rw[List.length_append,fW]
  split
  .simp;omega
  omega
theorem Bm (m i:Nat):m % 8*8 ^ i+m / 8*8 ^ (i+1)=m*8 ^ i:=by
 rw[Nat.pow_succ,Nat.mul_comm (8 ^ i) 8,<-Nat.mul_assoc,<-Nat.add_mul]
 congr 1
 omega
theorem decode_code:∀(f i n m:Nat) (r:List Bool),m<8 ^ f->0<f->(0<i->0<m)->n+m*8 ^ i<=8000000->decode f i n (code f m++r)=(fw (n+m*8 ^ i),r,0)
 |0,_,_,_,_,_,h,_,_=>absurd h (by simp)
 |f+1,i,n,m,r,hm,_,hi,hb=>by
  have hstep:=Bm m i
  have hpi:0<8 ^ i:=Nat.pow_pos (by decide)
  have hg:=HU (decide (0<m / 8)) (m % 8) (Nat.mod_lt _ (by decide))
  have fE:n+m % 8*8 ^ i<=8000000:=by
   have:0<=m / 8*8 ^ (i+1):=Nat.zero_le _
   omega
  have nN:∀t:List Bool,(me (decide (0<m / 8)) (m % 8)++t).take 4=me (decide (0<m / 8)) (m % 8):=fun t=>rfl
  have DW:∀t:List Bool,(me (decide (0<m / 8)) (m % 8)++t).drop 4=t:=fun t=>rfl
  rw[code,List.append_assoc,decode,nN,DW,hg]
  rw[if_neg (by rw[List.length_append,fW];omega)]
  by_cases hz:m / 8=0
  .have h0:¬0<m / 8:=by omega
   have jX:m % 8=m:=by omega
   rw[decide_eq_false h0,if_pos hz,jX]
   simp only[Bool.toNat_false,Nat.zero_mul,Nat.zero_add,jX,List.nil_append]
   rw[if_neg (by rintro⟨h1,h2⟩;have:=hi h1;omega),if_neg (by omega),if_pos (by omega)]
  have h0:0<m / 8:=by omega
  rw[decide_eq_true h0,if_neg hz]
  simp only[Bool.toNat_true,Nat.one_mul]
  have h8:(8+m % 8) % 8=m % 8:=by omega
  rw[h8,if_neg (by rintro⟨h1,h2⟩;omega),if_neg (by omega),if_neg (by omega)]
  have hf:0<f:=by
   cases f with
   |zero=>simp at hm;omega
   |succ f=>omega
  have Tb:m / 8<8 ^ f:=by
   rw[Nat.pow_succ] at hm
   exact Nat.div_lt_of_lt_mul (by rw[Nat.mul_comm];exact hm)
  rw[decode_code f (i+1) _ (m / 8) r Tb hf (fun _=>h0) (by omega)]
  have:n+m % 8*8 ^ i+m / 8*8 ^ (i+1)=n+m*8 ^ i:=by omega
  rw[this]
theorem code_decode:∀(f i n:Nat) (l:List Bool) (z:Int) (r:List Bool),decode f i n l=(z,r,0)->∃m,m<8 ^ f/\(0<i->0<m)/\n+m*8 ^ i<=8000000/\z=fw (n+m*8 ^ i)/\l=code f m++r
 |0,_,_,_,_,_,h=>by simp[decode] at h
 |f+1,i,n,l,z,r,h=>by
  rw[decode] at h
  by_cases h4:l.length<4
  .rw[if_pos h4] at h;simp at h
  rw[if_neg h4] at h
  obtain⟨a,b,c,d,t,rfl⟩:=four l h4
  have ht:(a::b::c::d::t).take 4=[a,b,c,d]:=rfl
  have hd:(a::b::c::d::t).drop 4=t:=rfl
  rw[ht,hd] at h
  have hg:=Kv a b c d
  have aE:numOf [a,b,c,d]<16:=AO [a,b,c,d]
  have hl:a::b::c::d::t=[a,b,c,d]++t:=rfl
  rw[hl,<-hg]
  generalize numOf [a,b,c,d]=g at*
  by_cases h1:0<i/\g=0
  .rw[if_pos h1] at h;simp at h
  rw[if_neg h1] at h
  by_cases h2:8000000<n+g % 8*8 ^ i
  .rw[if_pos h2] at h;simp at h
  rw[if_neg h2] at h
  by_cases h3:g<8
  .rw[if_pos h3] at h
   simp only[Prod.mk.injEq,and_true] at h
   have J7:g % 8=g:=by omega
   rw[J7] at h2 h
   have hz:g / 8=0:=by omega
   refine⟨g,?_,fun hi=>?_,by omega,?_,?_⟩
   .rw[Nat.pow_succ]
    have:0<8 ^ f:=Nat.pow_pos (by decide)
    omega
   .by_cases g0:g=0
    .exact absurd ⟨hi,g0⟩ h1
    omega
   .exact h.1.symm
   rw[code,if_pos hz,decide_eq_false (show¬8<=g by omega),decide_eq_false (show¬0<g / 8 by omega),h.2]
   simp
  rw[if_neg h3] at h
  obtain⟨m,q1,q2,q3,q4,q5⟩:=code_decode f (i+1) _ t z r h
  have hm:=q2 (by omega)
  have e1:(g % 8+8*m) / 8=m:=by omega
  have e2:(g % 8+8*m) % 8=g % 8:=by omega
  have nU:=Bm (g % 8+8*m) i
  rw[e1,e2] at nU
  refine⟨g % 8+8*m,?_,fun _=>by omega,by omega,?_,?_⟩
  .rw[Nat.pow_succ];omega
  .rw[q4];congr 1;omega
  rw[code,e1,e2,if_neg (by omega),decide_eq_true (show 8<=g by omega),decide_eq_true hm,List.append_assoc,<-q5]
def mi:Nat->Nat->List Nat
 |0,_=>[]
 |f+1,n=>n % 8::(if n / 8=0 then [] else mi f (n / 8))
def enc:List Nat->List Bool
 | []=>[]
 |d::r=>me (decide (0<r.length)) d++enc r
theorem Be (f n:Nat)(h:0<f):0<(mi f n).length:=by
 cases f with
 |zero=>omega
 |succ f=>simp[mi]
theorem ut:∀(f n:Nat),(mi f n).length<=f
 |0,_=>by simp[mi]
 |f+1,n=>by
  have:=ut f (n / 8)
  unfold mi
  split
  .simp
  simp;omega
theorem Eo:∀(f n:Nat),∀d∈mi f n,d<8
 |0,_,d,h=>by simp[mi] at h
 |f+1,n,d,h=>by
  unfold mi at h
  rcases List.mem_cons.1 h with rfl|h
  .exact Nat.mod_lt _ (by decide)
  split at h
  .simp at h
  exact Eo f (n / 8) d h
theorem A6:∀(f n:Nat),n<8 ^ f->0<f->enc (mi f n)=code f n
 |0,_,_,h=>absurd h (by simp)
 |f+1,n,hn,_=>by
  rw[mi,enc,code]
  by_cases hz:n / 8=0
  .rw[if_pos hz,if_pos hz,decide_eq_false (show¬0<n / 8 by omega)]
   simp[enc]
  have hf:0<f:=by
   cases f with
   |zero=>simp at hn;omega
   |succ f=>omega
  have Tb:n / 8<8 ^ f:=by
   rw[Nat.pow_succ] at hn
   exact Nat.div_lt_of_lt_mul (by rw[Nat.mul_comm];exact hn)
  rw[if_neg hz,if_neg hz,A6 f _ Tb hf,decide_eq_true (Be f _ hf),decide_eq_true (show 0<n / 8 by omega)]
theorem pX:∀(f i n:Nat) (l:List Bool),(decode f i n l).2.1.length<=l.length
 |0,_,_,_=>by simp[decode]
 |f+1,i,n,l=>by
  have:=pX f (i+1) (n+numOf (l.take 4) % 8*8 ^ i) (l.drop 4)
  rw[decode]
  split
  .simp
  split
  .simp
  split
  .simp
  split
  .simp
  refine Nat.le_trans this ?_
  simp
theorem oU (l:List Bool):(cx l).length<=l.length:=pX 8 0 0 l
theorem GW (v:Int)(r:List Bool)(h:iK v=true):decode 8 0 0 (code 8 (bj v)++r)=(v,r,0):=by
 have hb:=vw v h
 rw[decode_code 8 0 0 (bj v) r (by omega) (by decide) (fun h=>absurd h (by decide)) (by omega)]
 simp[DZ]
theorem ym (l:List Bool)(h:fs l=0):iK (ci l)=true/\code 8 (bj (ci l))++cx l=l:=by
 obtain⟨m,_,_,q3,q4,q5⟩:=code_decode 8 0 0 l (ci l) (cx l) (by
  unfold ci cx
  rw[show(0:Int)=(decode 8 0 0 l).2.2 from h.symm])
 simp only[Nat.zero_add,Nat.pow_zero,Nat.mul_one] at q3 q4
 rw[q4,CT]
 exact⟨Hb m q3,q5.symm⟩
structure Gl (w:World):Prop where
 max:∃m,w.cell? ⟨0,0,none⟩=some (.int .i64 m)
 syn:∃te pe,w.cell? ⟨1,0,none⟩=some (.iface te pe)
 rng:∃te pe,w.cell? ⟨2,0,none⟩=some (.iface te pe)
 tab:Lib.TabIs Tryz.prog w "internal/strconv.uint64pow10" .u64 Lib.pow10Tab
 eight:8<=w.heap.size
theorem Gl.call {w w':World}(h:Gl w)(hb:Below w.heap.size w w'):Gl w':=by
 obtain⟨⟨m,h1⟩,⟨t2,p2,h2⟩,⟨t3,p3,h3⟩,h4,h5⟩:=h
 exact⟨⟨m,(hb.cell (p:=⟨0,0,none⟩) (by simp only;omega)).trans h1⟩,⟨t2,p2,(hb.cell (p:=⟨1,0,none⟩) (by simp only;omega)).trans h2⟩,⟨t3,p3,(hb.cell (p:=⟨2,0,none⟩) (by simp only;omega)).trans h3⟩,Lib.tabBelow_of_tabIs h4 w' hb,Nat.le_trans h5 hb.size⟩
theorem Gl.alloc {w:World}(h:Gl w)(o:Obj):Gl (w.alloc o):=h.call ((Below.refl _ _).alloc (Nat.le_refl _) o)
theorem K7 {T e:TypeId}{B b:Nat}{bs:List Value}{w w':World}(h:Lib.IsBuilderF T e B b bs w)(hb:Below w.heap.size w w'):Lib.IsBuilderF T e B b bs w':=by
 have one:∀p,Lib.BuilderAtF T e B b p bs w->Lib.BuilderAtF T e B b p bs w':=by
  rintro p ⟨h1,v,h2,h3,h4⟩
  have T':b<w.heap.size:=lt_of_block h2
  refine⟨h1,v,by rw[hb.block b T'];exact h2,?_,h4⟩
  obtain⟨q1,q2| ⟨g,cap,cur,fz,q3,q4,q5,q6⟩⟩:=h3
  .exact⟨q1,.inl q2⟩
  exact⟨q1,.inr ⟨g,cap,cur,fz,q3,q4,by rw[hb.block g (lt_of_block q5)];exact q5,q6⟩⟩
 exact h.elim (fun x=>.inl (one _ x)) (fun x=>.inr (one _ x))
open Go.ChangeShapes Go.WideShapes Go.ChangeAt Go.RowKit
theorem Ye:Tryz.prog.globalNamed "internal/strconv.uint64pow10" =some 3:=by kernel_rfl
theorem Rv:Tryz.prog.globalNamed "strconv.ErrRange" =some 2:=by kernel_rfl
theorem Rr:Tryz.prog.globalNamed "strconv.ErrSyntax" =some 1:=by kernel_rfl
theorem AN: "*" ++ "errors.errorString" = "*errors.errorString" :=by decide
theorem JN (u:TypeId)(h:Tryz.prog.typeName? 3 u=some "*errors.errorString"):u=273:=
 typeName_ptr_named (nm:= "errors.errorString") (by rw[AN];kernel_rfl) (by kernel_rfl) (by decide) u (by rw[AN];exact h)
theorem JJ {P:Program}{w:World}{n:String}{g:Nat}{cs:Array Value}(hg:P.globalNamed n=some g)(h:w.var? P n=some cs):g<w.heap.size:=by
 unfold World.var? at h
 rw[hg] at h
 simp only[Option.bind_some] at h
 by_cases aE:g<w.heap.size
 .exact aE
 rw[Array.getElem?_eq_none (by omega)] at h
 cases h
theorem NE {W:World}(hL:laidMet Tryz.prog [("math/bits.deBruijn32tab",Rows.laid_math_bits_deBruijn32tab),("math/bits.deBruijn64tab",Rows.laid_math_bits_deBruijn64tab),("internal/strconv.uint64pow10",Rows.laid_internal_strconv_uint64pow10),("unicode/utf8.acceptRanges",Rows.laid_unicode_utf8_acceptRanges),("strconv.ErrRange",Rows.laid_strconv_ErrRange),("strconv.ErrSyntax",Rows.laid_strconv_ErrSyntax),("unicode/utf8.first",Rows.laid_unicode_utf8_first)] W)(Cw:W.ShapedOpen Tryz.prog):Gl W:=by
 have h3:=hL.tail.tail
 have h5:=h3.tail.tail
 have h6:=h5.tail
 obtain⟨a5,s5,v5,-,-,-⟩:=laid_sentinel h5 Rv (by kernel_rfl) Tryz.underlying169 JN Tryz.underlying273 Tryz.underlying275 rfl rfl Tryz.underlying9 (by kernel_rfl) (by kernel_rfl)
 obtain⟨a6,s6,v6,-,-,-⟩:=laid_sentinel h6 Rr (by kernel_rfl) Tryz.underlying169 JN Tryz.underlying273 Tryz.underlying275 rfl rfl Tryz.underlying9 (by kernel_rfl) (by kernel_rfl)
 refine⟨?_,⟨_,_,by simpa using World.var?_cell Rr v6 0⟩,⟨_,_,by simpa using World.var?_cell Rv v5 0⟩,?_,?_⟩
 .exact cell_of_shapedOpen_int (zero:=#[.int .i64 0]) Cw (of_decide_eq_true (by kernel_rfl)) (by kernel_rfl) (by kernel_rfl) (by kernel_rfl) (by kernel_rfl) Tryz.underlying3
 .have e:Rows.laid_internal_strconv_uint64pow10=Lib.tabData (H:=Unit) .u64 Lib.pow10Tab:=by kernel_rfl
  rw[e] at h3
  exact Lib.tabIs_of_head (t:=262) (n:=20) Ye (by kernel_rfl) Tryz.underlying262 Tryz.underlying187 (by kernel_rfl) (by kernel_rfl) h3
 have g7:Tryz.prog.globalNamed "unicode/utf8.acceptRanges" =some 5:=by kernel_rfl
 obtain⟨g,t,cs,fuel,p,hg,ht,hv,hd⟩:=Lib.laidMet.reads hL (n:= "unicode/utf8.acceptRanges") (d:=Rows.laid_unicode_utf8_acceptRanges) (by simp)
 have l7:=JJ g7 hv
 have g8:Tryz.prog.globalNamed "math/bits.deBruijn64tab" =some 7:=by kernel_rfl
 obtain⟨g,t,cs,fuel,p,hg,ht,hv,hd⟩:=Lib.laidMet.reads hL (n:= "math/bits.deBruijn64tab") (d:=Rows.laid_math_bits_deBruijn64tab) (by simp)
 have l8:=JJ g8 hv
 omega
theorem zX {a:Assume}{C:Checked}{os:Os}{f:FuncId}{fn:Func}{s:ChangeSpec}{conds:List PathCond}{apart fresh handsOn again:Bool}{X:World->Array Value->Prop}{H:Type}{enc:TypeId × Value->H}
  (hX:∀(w w':World) (args:Array Value),w.heap=w'.heap->X w args->X w' args)
  (own:ownKnob C.prog.godebug=none) (started:os.Started) (PG:C.prog.inits.idxOf? f=none) (Sh:C.prog.funcs[f]? =some fn)
  (witness:∃(w:World) (tape:Tape) (i:Input),w.os=os/\(w.forCall tape i).Shaped C.prog/\i.vars=[]/\Input.okWide C.prog (w.forCall tape i) .any w.heap.size f i/\
   ((s.pre enc C.prog fn conds apart (w.forCall tape i).memory i.args/\X (w.forCall tape i).memory i.args)/\sizedMet enc C.prog fn (OpenSpec.ofChange s) apart (w.forCall tape i).memory i.args)/\a.holds C.prog (lone (Frame.enter C.prog f i.args .normal) [] (w.forCall tape i)))
  (contract:∀(W:World) (base:Nat) (args:Array Value) (ds gs:List (DataW H)) (before:List MemPlace),
   (∀(j:Nat) t v,fn.params[j]? =some t->args[j]? =some v->Value.okWide C.prog W .any base t v)->
   DataW.Whole enc C.prog fn.params.toList s.vars apart W args.toList ds gs before->
   (DataW.weightsEach C.prog (fn.params.toList++s.plain.varTypes C.prog) (ds++gs)).all (·<=reachBytes)=true->X W args->W.ShapedOpen C.prog->
   Calls C.prog f args W fun e W'=>∃v,e=.returned v/\s.post enc C.prog fn apart fresh handsOn again W args v W'):
  ReturnsInHanded a C os f .any (fun w args=>(s.pre enc C.prog fn conds apart w args/\X w args)/\sizedMet enc C.prog fn (OpenSpec.ofChange s) apart w args) (s.post enc C.prog fn apart fresh handsOn again):=by
 refine returnsInHanded_of_calls own started PG witness ?_
 intro w tape i _ Cw _ uK Gh _
 obtain⟨_,_,_,Yo,VH,_,_,_,_,BI⟩:=uK
 have e:Yo=fn:=Option.some.inj (VH.symm.trans Sh)
 subst e
 obtain⟨⟨⟨ds,gs,before,hw,_⟩,hx⟩,hz⟩:=Gh
 have UN:=DataW.Whole.of_heap (w':=w.forCall tape i) (by rfl) hw
 refine(contract (w.forCall tape i) w.heap.size i.args ds gs before BI UN (hz.weights hw) (hX _ _ _ (by rfl) hx) Cw).mono fun e W' ⟨v,he,hp⟩=>?_
 subst he
 exact ChangeSpec.post_blind hp
open Go.RowKit Go.ChangeShapes Go.WideShapes Go.ChangeAt
theorem own:ownKnob Tryz.prog.godebug=none:=by kernel_rfl
theorem laidOut:laidOutB Tryz.prog=true:=by kernel_rfl
theorem lt_of_cell {w:World}{a:Addr}{v:Value}(h:w.cell? a=some v):a.block<w.heap.size:=by
 unfold World.cell? at h
 cases hh:w.heap[a.block]? with
 |none=>rw[hh] at h;cases h
 |some o=>exact(Array.getElem?_eq_some_iff.1 hh).1
def DQ:Value->Bool
 | .bool b=>b
 |_=>false
theorem Ee {H:Type}{enc:TypeId × Value->H}{W:World}{t e:TypeId}{ao:Option Addr}{n cap:Nat}{d:DataW H}{ps:List MemPlace}(ht:Tryz.prog.underlying t=some (.slice e))(hc:Tryz.prog.cellsOf e=1)
  (h:DataW.Trod enc Tryz.prog W 0 (fun _=>true) true t (.slice ao n cap) d ps):
  ∃V:Nat->Value,Sl W ao cap ((List.range n).map V)/\(∀i,i<n->∃m D Pl,DataW.trod enc Tryz.prog W 0 (fun _=>true) true m e [V i]=some (D,Pl))/\((n=0/\cap=0)\/∃elems spare,d=.slice elems spare/\elems.length+spare.length=cap):=by
 obtain⟨fuel,hf⟩:=h
 rcases Go.Deep.open_slice1 ht hc hf with⟨jd,_⟩| ⟨a,len,cp,m,k,V,D,Pl,jd,_,hl,hm,jX,hx,hel⟩
 .simp[Value.cells] at jd
  obtain⟨rfl,rfl,rfl⟩:=jd
  exact⟨fun _=>undef,by simpa using Sl.ofNil W,fun i hi=>absurd hi (Nat.not_lt_zero _),.inl ⟨rfl,rfl⟩⟩
 simp[Value.cells] at jd
 obtain⟨rfl,rfl,rfl⟩:=jd
 simp only[if_true] at jX
 subst jX
 simp only[Prod.mk.injEq] at hx
 refine⟨V,⟨?_,by simpa using hl,by unfold maxLen at hm;exact hm,fun e=>by cases e⟩,fun i hi=>⟨k,_,_,(hel i (by omega)).2⟩,.inr ⟨_,_,hx.1,by simp;omega⟩⟩
 by_cases h0:n=0
 .subst h0;exact .inl rfl
 obtain⟨b,off,spot⟩:=a
 have c0:=(hel 0 (by omega)).1
 have zh:spot=none:=by simpa[Addr.add] using World.cell?_spot c0
 subst zh
 have aE:=lt_of_cell c0
 refine .inr ⟨b,off,rfl,by simpa[Addr.add] using aE,fun i v hv=>?_⟩
 obtain⟨hi,rfl⟩:=List.getElem?_eq_some_iff.1 hv
 have tg:i<n:=by simpa using hi
 have:=(hel i (by omega)).1
 rw[Addr.add_lit] at this
 simpa using this
theorem open_bools {H:Type}{enc:TypeId × Value->H}{W:World}{t e:TypeId}{ao:Option Addr}{n cap:Nat}{d:DataW H}{ps:List MemPlace}(ht:Tryz.prog.underlying t=some (.slice e))(he:Tryz.prog.underlying e=some .bool)(hc:Tryz.prog.cellsOf e=1)
  (h:DataW.Trod enc Tryz.prog W 0 (fun _=>true) true t (.slice ao n cap) d ps):
  ∃l:List Bool,l.length=n/\Sl W ao cap (l.map Value.bool)/\((n=0/\cap=0)\/∃elems spare,d=.slice elems spare/\elems.length+spare.length=cap):=by
 obtain⟨V,hs,hv,hd⟩:=Ee ht hc h
 refine⟨(List.range n).map fun i=>DQ (V i),by simp,?_,hd⟩
 have e:((List.range n).map fun i=>DQ (V i)).map Value.bool=(List.range n).map V:=by
  rw[List.map_map]
  apply List.map_congr_left
  intro i hi
  obtain⟨m,D,Pl,hb⟩:=hv i (by simpa using hi)
  obtain⟨b,m7,_⟩:=DataW.trod_bool he hb
  simp at m7
  simp[m7,DQ]
 rw[e]
 exact hs
end Go.Proofs.YtoonnbhoiocoeaaGreatDoor
