/-
  Lines of a log as plain lists: what package disk reckons. No program is named.
-/
import Derived.Lib.IndexMore
import Derived.Laws.CopyOwn
import Derived.Shelf.Bytes.SlEqualAll
import Derived.Lib.SmallJoins
import Derived.Test.YtoonnbhoiocoeaaGreatDoorP06
import Derived.Test.YtoonnbhoiocoeaaGreatDoorP05
import Derived.Test.YtoonnbhoiocoeaaGreatDoorP03
import Derived.Test.YtoonnbhoiocoeaaGreatDoorP04
set_option maxHeartbeats 40000000
set_option maxRecDepth 100000
set_option linter.unusedVariables false
namespace Go.Proofs.YtoonnbhoiocoeaaGreatDoor
open Go.Lib (index cut)
theorem p8 (b:UInt8):∀l:List UInt8,(index l [b]=-1/\∀c∈l,c≠b)\/(∃p q,l=p++b::q/\(∀c∈p,c≠b)/\index l [b]=p.length)
 | []=>.inl ⟨rfl,fun c h=>by simp at h⟩
 |c::r=>by
  by_cases hc:c=b
  .subst hc
   exact .inr ⟨[],r,rfl,fun c h=>by simp at h,by simp[index]⟩
  .have hp:([b]:List UInt8).isPrefixOf (c::r)=false:=by simp[List.isPrefixOf,Ne.symm hc]
   rcases p8 b r with⟨h1,h2⟩| ⟨p,q,rfl,h2,h3⟩
   .left
    refine⟨by rw[index,hp,h1];rfl,fun x hx=>?_⟩
    rcases List.mem_cons.1 hx with rfl|hx
    .exact hc
    .exact h2 x hx
   .right
    refine⟨c::p,q,rfl,fun x hx=>?_,?_⟩
    .rcases List.mem_cons.1 hx with rfl|hx
     .exact hc
     .exact h2 x hx
    .rw[index,hp,h3]
     have:((p.length:Int)==-1)=false:=by simp
     simp[this]
def mK (l:List UInt8):List UInt8:=(cut l [10]).1
def pv (l:List UInt8):List UInt8:=(cut l [10]).2.1
def re (l:List UInt8):Bool:=(cut l [10]).2.2
theorem jG (l:List UInt8):(re l=false/\mK l=l/\pv l=[]/\∀c∈l,c≠10)\/(re l=true/\l=mK l++10::pv l/\∀c∈mK l,c≠10):=by
 unfold re mK pv cut
 rcases p8 10 l with⟨h1,h2⟩| ⟨p,q,rfl,h2,h3⟩
 .left
  rw[h1,if_neg (by decide)]
  exact⟨rfl,rfl,rfl,h2⟩
 .right
  rw[h3,if_pos (by omega)]
  have hd:(p++10::q).drop (p.length+1)=q:=by
   rw[show p.length+1=(p++[10]).length by simp,show p++10::q=(p++[10])++q by simp,List.drop_left]
  simp only[Int.toNat_natCast,List.length_cons,List.length_nil,Nat.zero_add,List.take_left,hd]
  exact⟨trivial,trivial,h2⟩
theorem Rn {p q:List UInt8}(h:∀c∈p,c≠10):re (p++10::q)=true/\mK (p++10::q)=p/\pv (p++10::q)=q:=by
 have:index (p++10::q) [10]=p.length:=by
  induction p with
  |nil=>simp[index]
  |cons c r ih=>
   have hc:c≠10:=h c List.mem_cons_self
   have hp:([10]:List UInt8).isPrefixOf (c::(r++10::q))=false:=by simp[List.isPrefixOf,Ne.symm hc]
   rw[List.cons_append,index,hp,ih (fun x hx=>h x (List.mem_cons_of_mem _ hx))]
   have:((r.length:Int)==-1)=false:=by simp
   simp[this]
 unfold re mK pv cut
 rw[this,if_pos (by omega)]
 have hd:(p++10::q).drop (p.length+1)=q:=by
  rw[show p.length+1=(p++[10]).length by simp,show p++10::q=(p++[10])++q by simp,List.drop_left]
 simp only[Int.toNat_natCast,List.length_cons,List.length_nil,Nat.zero_add,List.take_left,hd]
 exact⟨trivial,trivial,trivial⟩
def iz (l:List UInt8):ByteArray:=⟨l.toArray⟩
theorem ju (l:List UInt8):bytes (iz l)=l:=by simp[bytes,iz]
theorem rZ (b:ByteArray):iz (bytes b)=b:=by simp[bytes,iz]
theorem io (l:List UInt8):(iz l).size=l.length:=by simp[iz,ByteArray.size]
theorem dM (b:ByteArray):(bytes b).length=b.size:=Array.length_toList
def fJ (l:List UInt8):Int:=if re l=true then hI (iz (mK l)) else 8
def kt (l:List UInt8):Rc:=if re l=true then dB (iz (mK l)) else li
def ge (l:List UInt8):List UInt8:=if re l=true then pv l else []
theorem IC {l:List UInt8}(h:fJ l=0):re l=true:=by
 unfold fJ at h
 split at h
 .assumption
 .cases h
theorem gE {l:List UInt8}(h:fJ l=0):(ge l).length<l.length:=by
 have hy:=IC h
 unfold ge
 rw[if_pos hy]
 rcases jG l with⟨h1,_⟩| ⟨_,h2,_⟩
 .rw[hy] at h1;cases h1
 .have:=congrArg List.length h2
  simp at this
  omega
theorem oy:fJ []=8:=by
 have:re []=false:=rfl
 unfold fJ
 rw[this]
 rfl
def nv:Nat->Nat->List UInt8->List Rc × Int
 |0,_,_=>([],0)
 |f+1,k,l=>if l=[] then([],0) else if fJ l≠0 then([],fJ l) else if k=60 then([],2) else(kt l::(nv f (k+1) (ge l)).1,(nv f (k+1) (ge l)).2)
theorem qI:∀(f:Nat) (k:Nat) (l:List UInt8),l.length<f->nv f k l=nv (l.length+1) k l
 |0,_,_,h=>by omega
 |f+1,k,l,h=>by
  rw[nv]
  conv=>rhs;rw[nv]
  by_cases h0:l=[]
  .rw[if_pos h0,if_pos h0]
  rw[if_neg h0,if_neg h0]
  by_cases h1:fJ l≠0
  .rw[if_pos h1,if_pos h1]
  rw[if_neg h1,if_neg h1]
  have hl:=gE (Decidable.of_not_not h1)
  by_cases h2:k=60
  .rw[if_pos h2,if_pos h2]
  rw[if_neg h2,if_neg h2,qI f (k+1) (ge l) (by omega),qI l.length (k+1) (ge l) hl]
def scan (k:Nat)(l:List UInt8):List Rc × Int:=nv (l.length+1) k l
theorem iT (k:Nat):scan k []=([],0):=rfl
theorem mj {k:Nat}{l:List UInt8}(h0:l≠[])(h1:fJ l≠0):scan k l=([],fJ l):=by
 unfold scan
 rw[nv,if_neg h0,if_pos h1]
theorem kh {l:List UInt8}(h0:l≠[])(h1:fJ l=0):scan 60 l=([],2):=by
 unfold scan
 rw[nv,if_neg h0,if_neg (by simp[h1]),if_pos rfl]
theorem ki {k:Nat}{l:List UInt8}(h0:l≠[])(h1:fJ l=0)(h2:k≠60):scan k l=(kt l::(scan (k+1) (ge l)).1,(scan (k+1) (ge l)).2):=by
 have hl:=gE h1
 unfold scan
 rw[nv,if_neg h0,if_neg (by simp[h1]),if_neg h2,qI l.length (k+1) (ge l) hl]
def pg:Nat->Nat->List UInt8->List Rc × List UInt8
 |0,_,l=>([],l)
 |f+1,k,l=>if k<60/\fJ l=0 then(kt l::(pg f (k+1) (ge l)).1,(pg f (k+1) (ge l)).2) else([],l)
theorem qu:∀(f:Nat) (k:Nat) (l:List UInt8),l.length<f->pg f k l=pg (l.length+1) k l
 |0,_,_,h=>by omega
 |f+1,k,l,h=>by
  rw[pg]
  conv=>rhs;rw[pg]
  by_cases h1:k<60/\fJ l=0
  .have hl:=gE h1.2
   rw[if_pos h1,if_pos h1,qu f (k+1) (ge l) (by omega),qu l.length (k+1) (ge l) hl]
  .rw[if_neg h1,if_neg h1]
def tail (k:Nat)(l:List UInt8):List Rc × List UInt8:=pg (l.length+1) k l
theorem dL {k:Nat}{l:List UInt8}(h:¬(k<60/\fJ l=0)):tail k l=([],l):=by
 unfold tail
 rw[pg,if_neg h]
theorem ke {k:Nat}{l:List UInt8}(h:k<60/\fJ l=0):tail k l=(kt l::(tail (k+1) (ge l)).1,(tail (k+1) (ge l)).2):=by
 unfold tail
 rw[pg,if_pos h,qu l.length (k+1) (ge l) (gE h.2)]
structure Dk where
 safe:List UInt8
 wait:List UInt8
def pZ:Dk:=⟨[],[]⟩
def cT (d:Dk):Int:=if 60000<d.safe.length+d.wait.length then 2 else(scan 0 d.safe).2
def iN (d:Dk):List Rc:=if cT d=0 then(scan 0 d.safe).1 else []
def fq (d:Dk)(r:Rc):Int:=if cT d≠0 then cT d else if aV r≠0 then aV r else if 60000<d.safe.length+d.wait.length+((dh r).length+1) then 2 else 0
def dj (d:Dk)(r:Rc):Dk:=if fq d r=0 then⟨d.safe,d.wait++(dh r++[10])⟩ else pZ
def jX (d:Dk):Int:=if cT d≠0 then cT d else cT ⟨d.safe++d.wait,[]⟩
def lu (d:Dk):Dk:=if jX d=0 then⟨d.safe++d.wait,[]⟩ else pZ
def l6 (d:Dk)(n:Int):Int:=if cT d≠0 then cT d else if n<0\/(d.wait.length:Int)<n then 3 else 0
def qY (d:Dk)(n:Int):Dk:=if l6 d n=0 then⟨d.safe,d.wait.take n.toNat⟩ else pZ
def kept (d:Dk):List UInt8:=d.wait.take (d.wait.length-(tail (iN d).length d.wait).2.length)
def gu (d:Dk):Dk:=if cT d=0 then⟨d.safe++kept d,[]⟩ else pZ
def ax (d:Dk):List Rc:=if cT d=0 then iN d++(tail (iN d).length d.wait).1 else []
theorem xy:∀(n k:Nat) (l:List UInt8),l.length<=n->k<=60->(scan k l).1.length+k<=60
 |0,k,l,h,hk=>by
  obtain rfl:=List.length_eq_zero_iff.1 (Nat.le_zero.1 h)
  rw[iT]
  simpa using hk
 |n+1,k,l,h,hk=>by
  by_cases h0:l=[]
  .subst h0
   rw[iT]
   simpa using hk
  by_cases h1:fJ l=0
  .by_cases h2:k=60
   .subst h2
    rw[kh h0 h1]
    simp
   .rw[ki h0 h1 h2]
    have:=gE h1
    have:=xy n (k+1) (ge l) (by omega) (by omega)
    simp only[List.length_cons]
    omega
  .rw[mj h0 h1]
   simpa using hk
theorem CO (d:Dk):(iN d).length<=60:=by
 unfold iN
 split
 .have:=xy d.safe.length 0 d.safe (Nat.le_refl _) (by omega)
  omega
 .simp
end Go.Proofs.YtoonnbhoiocoeaaGreatDoor
namespace Go.Proofs.YtoonnbhoiocoeaaGreatDoor
open Go.RowKit
open Go.Lib (byteCells)
theorem Nk {w:World}{a:Option Addr}{cap:Nat}{l:List UInt8}(S:Sl w a cap (byteCells l)):Lib.BytesIn w a l.length (l.map fun b=>(b.toNat:Int)):=by
 intro hn
 obtain⟨b,o,e,_,hc⟩:=S.row.at (by intro h;have:=congrArg List.length h;simp[byteCells] at this;subst this;simp at hn)
 refine⟨b,o,e,fun i hi=>?_⟩
 have:=hc i (.int .u8 (l[i].toNat)) (by simp[byteCells,hi])
 rw[this]
 simp[List.getD,hi]
theorem yN (l:List UInt8):Lib.bytesOf (l.map fun b=>(b.toNat:Int))=l:=by
 unfold Lib.bytesOf
 rw[List.map_map]
 conv=>rhs;rw[<-List.map_id l]
 refine List.map_congr_left (fun b _=>?_)
 simp
theorem Ew (l:List UInt8):strOfNums (l.map fun b=>(b.toNat:Int))=⟨l.toArray⟩:=by
 have h:=Lib.strOfNums_toList (l.map fun b=>(b.toNat:Int))
 rw[yN,ag] at h
 exact(jK.2 h.symm).symm
theorem p9 {w:World}{a:Option Addr}{cap n:Nat}{l:List UInt8}(S:Sl w a cap (byteCells l))(hn:n=l.length):
  (convert 25 9 (.slice a n cap)).run Tryz.prog w=.ok (.string ⟨l.toArray⟩) w:=by
 subst hn
 rw[Lib.BytesIn.convert (Nk S) (by simp) cap 25 5 9 Tryz.underlying25 Tryz.underlying5 Tryz.underlying9,Ew]
theorem yd:(Tryz.prog.info? 5).map (fun i=>(i.zero,i.size,i.bytes))=some (some (.int .u8 0),1,1):=by kernel_rfl
theorem byteCells_one (l:List UInt8):∀v∈byteCells l,v.oneCell'=true:=by
 intro v hv
 obtain⟨b,_,rfl⟩:=List.mem_map.1 hv
 rfl
theorem QY {w':World}{g n:Nat}{cs:List Value}{t:TypeId}(h:w'.ownsRow g t 1 (.slice (some ⟨g,0,none⟩) n n) n cs):∃L:List Value,L.length=n/\ac w' g L t:=by
 rcases h.2 with⟨h',_⟩| ⟨g',rF,cur,h',_,hg,_,_,hs,nP⟩
 .simp at h'
 .simp only[Value.slice.injEq,Option.some.injEq,Addr.mk.injEq,and_true,true_and] at h'
  obtain⟨rfl,rfl⟩:=h'
  exact⟨cur.toList,by simp[hs],by unfold ac;simpa using hg⟩
theorem Eh {α:Type}(Z X Y:List α)(k:Nat)(hk:X.length=k)(hZ:Z.length=k+Y.length):splice (splice Z 0 X) k Y=X++Y:=by
 subst hk
 have e1:splice Z 0 X=X++Z.drop X.length:=by simp[splice]
 rw[e1]
 unfold splice
 rw[List.take_left' rfl,List.drop_eq_nil_of_le (by simp;omega),List.append_nil]
theorem Sl.srcU {w:World}{ao:Option Addr}{cap:Nat}{cs:List Value}(h:Sl w ao cap cs):0<cs.length->∃ad,ao=some ad/\∀j v,cs[j]? =some v->w.cell? (ad.add j)=some v:=by
 intro hp
 obtain⟨b,off,e,_,hc⟩:=h.row.at (by intro e;rw[e] at hp;simp at hp)
 exact⟨_,e,fun j v hv=>by rw[Addr.add_lit];exact hc j v hv⟩
theorem ml (a1 a2:Option Addr)(c1 c2 n1 n2:Nat)(l m:List UInt8)(w:World)(s1:Sl w a1 c1 (byteCells l))(s2:Sl w a2 c2 (byteCells m))(h1:n1=l.length)(h2:n2=m.length)(few:n1+n2<=1000000):
  Calls Tryz.prog 66 #[.slice a1 n1 c1,.slice a2 n2 c2] w fun e w'=>e=.returned (.slice (some ⟨w.heap.size,0,none⟩) (n1+n2) (n1+n2))/\ac w' w.heap.size (byteCells (l++m)) 5/\Below w.heap.size w w':=by
 obtain⟨i0,hi,bU,bi,bk⟩:=info_parts yd
 obtain⟨N,hN⟩:∃N,N=n1+n2:=⟨_,rfl⟩
 have Oy:IntKind.i64.wrap ((n1:Int)+(n2:Int))=(N:Int):=by rw[IntKind.wrap_i64];omega
 have L8:(n1:Int)+(n2:Int)=(N:Int):=by omega
 obtain⟨w1,hr,own,gr⟩:=run_make_full (P:=Tryz.prog) (w:=w) w.heap.size 25 5 i0 (.int .u8 0) 1 Tryz.underlying25 hi bU bi .i64 .i64 N (by rw[bk];omega) (by unfold maxLen;omega) (Nat.le_refl _)
 obtain⟨L,hL,B0⟩:=QY own
 have bel:Below w.heap.size w w1:=(Below.refl _ _).grown gr (Nat.le_refl _) (fun k h=>by cases h)
 have t1:=s1.keep bel (Nat.le_refl _)
 obtain⟨X,hX⟩:∃X,X=byteCells l:=⟨_,rfl⟩
 obtain⟨Y,hY⟩:∃Y,Y=byteCells m:=⟨_,rfl⟩
 have lX:X.length=n1:=by rw[hX,h1];simp[byteCells]
 have lY:Y.length=n2:=by rw[hY,h2];simp[byteCells]
 have oX:=byteCells_one l
 have oY:=byteCells_one m
 have WF:byteCells (l++m)=X++Y:=by rw[hX,hY];simp[byteCells]
 rw[WF]
 rw[<-hX] at t1 oX s1
 rw[<-hY] at s2 oY
 have dz:(Tryz.prog.info? 5).map (·.size)=some 1:=by rw[hi];simp[bi]
 have p1:0<X.length->some (⟨w.heap.size,0,none⟩:Addr)=some ⟨w.heap.size,0,none⟩/\∃ad,a1=some ad/\∀j v,X[j]? =some v->w1.cell? (ad.add j)=some v:=fun h=>⟨rfl,t1.srcU h⟩
 have m1:X.length=Nat.min n1 N:=by rw[lX];exact(Nat.min_eq_left (by omega)).symm
 have f1:0+X.length<=L.length:=by rw[lX,hL];omega
 have mJ:splice (splice L 0 X) n1 Y=X++Y:=Eh L X Y n1 lX (by rw[hL,lY];exact hN)
 have f2:n1+Y.length<=(splice L 0 X).length:=by rw[length_splice _ _ _ f1,hL,lY];omega
 have m2:Y.length=Nat.min n2 (N-n1):=by rw[lY];exact(Nat.min_eq_left (by omega)).symm
 replace p1:=hide p1
 replace mJ:=hide mJ
 replace m1:=hide m1
 replace m2:=hide m2
 replace f1:=hide f1
 replace f2:=hide f2
 replace lX:=hide lX
 replace lY:=hide lY
 replace h1:=hide h1
 replace h2:=hide h2
 replace hL:=hide hL
 rw[<-hN]
 replace hN:=hide hN
 clear hX hY WF own gr
 go_enter Tryz.func66,Tryz.ntmps66
 go_upto_region 2 with fail
 go_wp2_with (refine wpList_copy_splice rfl (.tmp 12) (.tmp 13) 25 25 rfl 5 Tryz.underlying25 dz _ _ _ _ _ _ rfl rfl w.heap.size 0 L 5 B0 X m1.out p1.out f1.out oX w.heap.size w bel (Nat.le_refl _) ?_)
 intro w2 HG al
 have t2:=s2.keep al (Nat.le_refl _)
 clear B0 bel t1 p1 hr
 go_upto_region 3 with fail
 have fF:(n1:Int)<=N:=by omega
 have ZS:n1<=N:=by omega
 by_cases hz:N=n1
 .subst hz
  obtain rfl:n2=0:=by have:=hN.out;omega
  have Yw:¬0<Y.length:=by rw[lY.out];omega
  have XY:Y.length=Nat.min 0 0:=lY.out
  go_wp2_with (refine wpList_copy_splice rfl (.tmp 18) (.tmp 19) 25 25 rfl 5 Tryz.underlying25 dz _ _ _ _ _ _ rfl rfl w.heap.size N (splice L 0 X) 5 HG.out Y XY (fun h=>absurd h Yw) f2.out oY w.heap.size w al (Nat.le_refl _) ?_)
  intro w3 Mb ay
  have B3:ac w3 w.heap.size (X++Y) 5:=by
   have:=Mb.out
   rw[mJ.out] at this
   exact this
  clear HG Mb
  go_wp2_with fail
  go_ret
  exact⟨rfl,B3,ay⟩
 .have vE:¬N-n1=0:=by omega
  go_wp2_with (refine wpList_copy_splice rfl (.tmp 18) (.tmp 19) 25 25 rfl 5 Tryz.underlying25 dz _ _ _ _ _ _ rfl rfl w.heap.size n1 (splice L 0 X) 5 HG.out Y m2.out (fun h=>⟨rfl,t2.srcU h⟩) f2.out oY w.heap.size w al (Nat.le_refl _) ?_)
  intro w3 Mb ay
  have B3:ac w3 w.heap.size (X++Y) 5:=by
   have:=Mb.out
   rw[mJ.out] at this
   exact this
  clear HG Mb
  go_wp2_with fail
  go_ret
  exact⟨rfl,B3,ay⟩
theorem nY {w:World}{g n:Nat}{l:List UInt8}(B:ac w g (byteCells l) 5)(hn:n=l.length)(few:n<=1000000):Sl w (some ⟨g,0,none⟩) n (byteCells l):=by
 refine⟨.inr ⟨g,0,rfl,B.lt,fun i v hv=>?_⟩,by rw[hn];simp[byteCells],by omega,fun h=>by cases h⟩
 rw[Nat.zero_add]
 exact(B.cell i).trans hv
theorem Al (a1 a2:Option Addr)(c1 c2 n1 n2:Nat)(w:World)(few:n1+n2<=9223372036854775807):
  Calls Tryz.prog 104 #[.agg #[.slice a1 n1 c1,.slice a2 n2 c2]] w fun e w'=>e=.returned (.int .i64 ((n1+n2:Nat):Int))/\Below w.heap.size w w':=by
 have B0:=ac.laid w [.slice a1 n1 c1,.slice a2 n2 c2] 27 _ rfl
 have bel:=newB (Below.refl w.heap.size w) (.cells #[.slice a1 n1 c1,.slice a2 n2 c2] 27)
 obtain⟨N,hN⟩:∃N,N=n1+n2:=⟨_,rfl⟩
 have Oy:IntKind.i64.wrap ((n1:Int)+(n2:Int))=(N:Int):=by rw[IntKind.wrap_i64];omega
 have L8:(n1:Int)+(n2:Int)=(N:Int):=by omega
 rw[<-hN]
 clear hN
 go_enter Tryz.func104,Tryz.ntmps104
 go_wp2_with fail
 go_ret
 exact⟨rfl,bel⟩
end Go.Proofs.YtoonnbhoiocoeaaGreatDoor
namespace Go.Proofs.YtoonnbhoiocoeaaGreatDoor
open Go.RowKit
theorem HV (s:ByteArray)(w:World)(hg:Gl w)(hs:s.size<=100000):
  Calls Tryz.prog 105 #[.string s,.string ⟨#[10]⟩] w fun e w'=>e=.returned (.tuple #[.string (iz (mK (bytes s))),.string (iz (pv (bytes s))),.bool (re (bytes s))])/\Below w.heap.size w w':=by
 obtain⟨mx,Kj⟩:=hg.max
 refine(Tryz.strings_Cut s ⟨#[10]⟩ mx w (by omega) Kj).mono ?_
 rintro e w' ⟨rfl,q,rfl⟩
 exact⟨rfl,bj (Below.refl _ _) q⟩
theorem ym (s:ByteArray)(w:World)(hg:Gl w)(hs:s.size<=60000):
  Calls Tryz.prog 65 #[.string s] w fun e w'=>∃a' G,e=.returned (.tuple #[.agg #[.int .i64 (kt (bytes s)).k,.int .i64 (kt (bytes s)).s,.int .i64 (kt (bytes s)).n,.slice a' (kt (bytes s)).e.length G],.string (iz (ge (bytes s))),.int .i64 (fJ (bytes s))])/\
   w'.ownsRow w.heap.size 75 3 (.slice a' (kt (bytes s)).e.length G) (kt (bytes s)).e.length ((kt (bytes s)).e.flatMap ec)/\Below w.heap.size w w':=by
 have BX:=ac.laid w [.int .i64 0,.int .i64 0,.int .i64 0,.slice none 0 0] 73 _ rfl
 have ef:Below w.heap.size w (w.alloc (.cells #[.int .i64 0,.int .i64 0,.int .i64 0,.slice none 0 0] 73)):=(Below.refl _ _).alloc (Nat.le_refl _) _
 have g1:=hg.alloc (.cells #[.int .i64 0,.int .i64 0,.int .i64 0,.slice none 0 0] 73)
 have cC:=fun W g=>HV s W g (by omega)
 have CK:(mK (bytes s)).length<=60000:=by
  have hb:=dM s
  rcases jG (bytes s) with⟨_,h2,_⟩| ⟨_,h2,_⟩
  .rw[h2,hb];exact hs
  .have:=congrArg List.length h2
   simp at this
   omega
 have cP:=fun W g=>JY (iz (mK (bytes s))) W g (by rw[io];omega)
 unfold kt ge fJ
 cases hy:re (bytes s) with
 |false=>
  rw[hy] at cC
  simp only[Bool.false_eq_true,if_false]
  generalize iz (mK (bytes s))=T at*
  generalize iz (pv (bytes s))=B at*
  go_enter Tryz.func65,Tryz.ntmps65
  go_wp2_with fail
  generalize w.alloc _=w1 at*
  go_at_call 105
  refine(cC _ g1).mono ?_
  rintro e w2 ⟨rfl,b2⟩
  have BB:=BX.keep b2 BX.lt
  have fN:=aa ef b2
  have r0:=BB.cell 0
  have r1:=BB.cell 1
  have r2:=BB.cell 2
  have r3:=BB.cell 3
  have f0:=BB.free 0
  have f1:=BB.free 1
  have f2:=BB.free 2
  have f3:=BB.free 3
  have lR:=BB.lt
  go_wp2_with fail
  have B9:=dO BB (.int .i64 0) (.int .i64 0) (.int .i64 0) (.slice none 0 0)
  have aq:=bH fN (Nat.le_refl _) (.int .i64 0) (.int .i64 0) (.int .i64 0) (.slice none 0 0)
  have i0:=B9.cell 0
  have i1:=B9.cell 1
  have i2:=B9.cell 2
  have i3:=B9.cell 3
  exact bodyPost_ret (v:=.tuple #[.agg #[.int .i64 0,.int .i64 0,.int .i64 0,.slice none 0 0],.string ⟨#[]⟩,.int .i64 8]) (by simp[results,Tryz.results65,go_sem,i0,i1,i2,i3]) rfl ⟨none,0,rfl,World.ownsRow_nil _ _ _ _,aq⟩
 |true=>
  rw[hy] at cC
  simp only[if_true]
  generalize iz (mK (bytes s))=T at*
  generalize iz (pv (bytes s))=B at*
  generalize dB T=PR at*
  generalize hI T=PE at*
  obtain⟨K,s',m',l⟩:=PR
  simp only at*
  obtain⟨ln,dK⟩:∃ln,ln=l.length:=⟨_,rfl⟩
  rw[<-dK] at cP⊢
  replace dK:=hide dK
  go_enter Tryz.func65,Tryz.ntmps65
  go_wp2_with fail
  generalize w.alloc _=w1 at*
  go_at_call 105
  refine(cC _ g1).mono ?_
  rintro e w2 ⟨rfl,b2⟩
  have g2:=g1.call b2
  have B2:=BX.keep b2 BX.lt
  have al:=aa ef b2
  go_wp2_with fail
  go_at_call 106
  refine(cP _ g2).mono ?_
  rintro e w3 ⟨a3,G3,rfl,o3,b3⟩
  have B3:=B2.keep b3 B2.lt
  have ay:=aa al b3
  have B4:=ac.laid w3 [.int .i64 K,.int .i64 s',.int .i64 m',.slice a3 ln G3] 73 _ rfl
  have bq:=newB (Below.refl w3.heap.size w3) (.cells #[.int .i64 K,.int .i64 s',.int .i64 m',.slice a3 ln G3] 73)
  have BB:=B3.keep bq B3.lt
  have o4:=o3.alloc (.cells #[.int .i64 K,.int .i64 s',.int .i64 m',.slice a3 ln G3] 73)
  have fN:=aa ay bq
  have o5:=jO o4 (Nat.le_trans ef.size (Nat.le_trans b2.size (Nat.le_refl _)))
  go_upto_region 5 with fail
  generalize w3.heap.size=g4 at*
  generalize w3.alloc _=w4 at*
  have y0:=B4.cell 0
  have y1:=B4.cell 1
  have y2:=B4.cell 2
  have y3:=B4.cell 3
  have lY:=B4.lt
  have r0:=BB.cell 0
  have r1:=BB.cell 1
  have r2:=BB.cell 2
  have r3:=BB.cell 3
  have f0:=BB.free 0
  have f1:=BB.free 1
  have f2:=BB.free 2
  have f3:=BB.free 3
  have lR:=BB.lt
  clear cC cP
  go_wp2_with fail
  have B9:=dO BB (.int .i64 K) (.int .i64 s') (.int .i64 m') (.slice a3 ln G3)
  have aq:=bH fN (Nat.le_refl _) (.int .i64 K) (.int .i64 s') (.int .i64 m') (.slice a3 ln G3)
  have o9:=yC o5 BB (by decide) (.int .i64 K) (.int .i64 s') (.int .i64 m') (.slice a3 ln G3)
  have i0:=B9.cell 0
  have i1:=B9.cell 1
  have i2:=B9.cell 2
  have i3:=B9.cell 3
  exact bodyPost_ret (v:=.tuple #[.agg #[.int .i64 K,.int .i64 s',.int .i64 m',.slice a3 ln G3],.string B,.int .i64 PE]) (by simp[results,Tryz.results65,go_sem,i0,i1,i2,i3]) rfl ⟨a3,G3,rfl,o9,aq⟩
end Go.Proofs.YtoonnbhoiocoeaaGreatDoor
namespace Go.Proofs.YtoonnbhoiocoeaaGreatDoor
open Go.RowKit
structure bF where
 r:Rc
 a:Option Addr
 c:Nat
def bF.cells (x:bF):List Value:=[.int .i64 x.r.k,.int .i64 x.r.s,.int .i64 x.r.n,.slice x.a x.r.e.length x.c]
theorem bF.four (x:bF):x.cells.length=4:=rfl
def bF.own (base:Nat)(w:World)(x:bF):Prop:=w.ownsRow base 75 3 (.slice x.a x.r.e.length x.c) x.r.e.length (x.r.e.flatMap ec)
structure fU (base:Nat)(w:World)(a:Option Addr)(n G:Nat)(l:List bF):Prop where
 len:n=l.length
 row:w.ownsRow base 73 4 (.slice a n G) n (l.flatMap bF.cells)
 own:∀x∈l,x.own base w
theorem fU.nil (base:Nat)(w:World):fU base w none 0 0 []:=⟨rfl,World.ownsRow_nil _ _ _ _,fun x h=>by simp at h⟩
theorem fU.call {base:Nat}{w w':World}{a:Option Addr}{n G:Nat}{l:List bF}(h:fU base w a n G l)(hb:Below w.heap.size w w'):fU base w' a n G l:=
 ⟨h.len,dt h.row hb,fun x hx=>dt (h.own x hx) hb⟩
theorem fU.down {base base':Nat}{w:World}{a:Option Addr}{n G:Nat}{l:List bF}(h:fU base w a n G l)(hb:base'<=base):fU base' w a n G l:=
 ⟨h.len,jO h.row hb,fun x hx=>jO (h.own x hx) hb⟩
theorem od:(Tryz.prog.info? 73).map (fun i=>(i.zero,i.size,i.bytes))=some (some (.agg #[.int .i64 0,.int .i64 0,.int .i64 0,.slice none 0 0]),4,48):=by kernel_rfl
theorem fU.snoc {base:Nat}{w w':World}{a:Option Addr}{n G:Nat}{l:List bF}{v:Value}(h:fU base w a n G l)(x:bF)(hx:x.own base w)(o:w'.ownsRow base 73 4 v (n+1) (l.flatMap bF.cells++x.cells))(gr:w.grownBy w' (Value.slice a n G).ownBlock):
  ∃a' G',v=.slice a' (n+1) G'/\fU base w' a' (n+1) G' (l++[x]):=by
 obtain⟨g7,G7,rfl⟩:∃g7 G7,v=.slice (some ⟨g7,0,none⟩) (n+1) G7:=by
  rcases o.2 with⟨_,h⟩| ⟨g,cap,cur,h,_⟩
  .omega
  .exact⟨_,_,h⟩
 refine⟨_,_,rfl,by rw[List.length_append,h.len];rfl,by rw[List.flatMap_append];simpa using o,fun y hy=>?_⟩
 rcases List.mem_append.1 hy with hy|hy
 .exact mi (h.own y hy) gr (xm (h.own y hy) h.row (by decide))
 .simp only[List.mem_cons,List.not_mem_nil,or_false] at hy
  subst hy
  exact mi hx gr (xm hx h.row (by decide))
structure dI (w:World)(a:Option Addr)(cap:Nat)(l:List bF):Prop where
 row:aY bF.cells w a cap l
 ent:∀x∈l,aY ec w x.a x.c x.r.e
theorem dI.keep {w w':World}{a:Option Addr}{cap B:Nat}{l:List bF}(h:dI w a cap l)(hb:Below B w w')(hs:w.heap.size<=B):dI w' a cap l:=
 ⟨h.row.keep hb hs,fun x hx=>(h.ent x hx).keep hb hs⟩
theorem fU.sl {base:Nat}{w:World}{a:Option Addr}{n G:Nat}{l:List bF}(R:fU base w a n G l):dI w a G l:=by
 obtain⟨a9,G9,e9,S9,_,_⟩:=aY.ofOwn bF.four (by decide) R.row
 simp only[Value.slice.injEq,true_and] at e9
 obtain⟨rfl,rfl⟩:=e9
 refine⟨S9,fun x hx=>?_⟩
 obtain⟨a5,G5,e5,s5,_,_⟩:=aY.ofOwn bZ (by decide) (R.own x hx)
 simp only[Value.slice.injEq,true_and] at e5
 obtain⟨e1,e2⟩:=e5
 rw[e1,e2]
 exact s5
end Go.Proofs.YtoonnbhoiocoeaaGreatDoor
namespace Go.Proofs.YtoonnbhoiocoeaaGreatDoor
open Go.RowKit
open Go.Lib (byteCells)
def Iz:Value->Nat
 | .string b=>b.size
 |_=>0
theorem An (d:Dk)(a1 a2:Option Addr)(c1 c2 n1 n2:Nat)(w:World)(hg:Gl w)(s1:Sl w a1 c1 (byteCells d.safe))(h1:n1=d.safe.length)(h2:n2=d.wait.length)(few:n1+n2<=9223372036854775807):
  Calls Tryz.prog 64 #[.agg #[.slice a1 n1 c1,.slice a2 n2 c2]] w fun e w'=>∃(a:Option Addr) (n G:Nat) (l:List bF),e=.returned (.tuple #[.slice a n G,.int .i64 (cT d)])/\fU w.heap.size w' a n G l/\l.map (·.r)=iN d/\Below w.heap.size w w':=by
 have B0:=ac.laid w [.slice a1 n1 c1,.slice a2 n2 c2] 27 _ rfl
 have bel:=newB (Below.refl w.heap.size w) (.cells #[.slice a1 n1 c1,.slice a2 n2 c2] 27)
 have cs:=fun W=>Al a1 a2 c1 c2 n1 n2 W few
 have hE:cT d=if 60000<n1+n2 then 2 else(scan 0 d.safe).2:=by unfold cT;rw[h1,h2]
 have hL:cT d≠0->iN d=[]:=fun h=>if_neg h
 obtain⟨N,hN⟩:∃N,N=n1+n2:=⟨_,rfl⟩
 rw[<-hN] at cs hE
 by_cases hb:60000<N
 .rw[if_pos hb] at hE
  rw[hL (by rw[hE];decide),hE]
  have CN:(60000:Int)<N:=by omega
  replace h1:=hide h1
  replace h2:=hide h2
  replace hN:=hide hN
  clear hE hL
  go_enter Tryz.func64,Tryz.ntmps64
  go_wp2_with fail
  generalize w.alloc _=w1 at*
  go_at_call 104
  refine(cs _).mono ?_
  rintro e w2 ⟨rfl,b2⟩
  go_wp2_with fail
  go_ret2
  exact⟨none,0,0,[],rfl,fU.nil _ _,rfl,aa bel b2⟩
 .rw[if_neg hb] at hE
  have CN:¬(60000:Int)<N:=by omega
  have Ba:cT d=0->iN d=(scan 0 d.safe).1:=fun h=>if_pos h
  have Ja:d.safe.length<=60000:=by omega
  have pE:=fun(W:World) (S:Sl W a1 c1 (byteCells d.safe))=>p9 S h1
  obtain⟨i0,hi,bU,bi,bk⟩:=info_parts od
  generalize cT d=E at*
  generalize iN d=DL at*
  generalize Gf:scan 0 d.safe=SC at*
  replace hE:=hide hE
  replace Gf:=hide Gf
  replace h1:=hide h1
  replace h2:=hide h2
  replace hN:=hide hN
  go_enter Tryz.func64,Tryz.ntmps64
  go_wp2_with fail
  generalize w.alloc _=w1 at*
  go_at_call 104
  refine(cs _).mono ?_
  rintro e w2 ⟨rfl,b2⟩
  have al:=aa bel b2
  have B2:=B0.keep b2 B0.lt
  have q0:w2.cell? ⟨w.heap.size,0,none⟩=some (.slice a1 n1 c1):=B2.cell 0
  have l2:=B2.lt
  have g2:=hg.call al
  have Qx:=pE w2 (s1.keep al (Nat.le_refl _))
  go_wp2_with fail
  go_loopw [4,5] (fun s4 s5 wr=>∃(rest:ByteArray) (k G:Nat) (ao:Option Addr) (l:List bF),s4=.slice ao k G/\s5=.string rest/\fU w.heap.size wr ao k G l/\k<=60/\rest.size<=60000/\Hid (SC=(l.map (·.r)++(scan k (bytes rest)).1,(scan k (bytes rest)).2))/\Below w.heap.size w wr) (fun _ s5 _=>Iz s5)
  case atStart=>exact⟨_,0,0,none,[],rfl,rfl,fU.nil _ _,by omega,by show(iz d.safe).size<=_;rw[io];exact Ja,by show SC=_;rw[show bytes ⟨d.safe.toArray⟩=d.safe from ju _];exact Gf.out.symm,al⟩
  case round=>
   obtain⟨rest,k,G,ao,l,rfl,rfl,R,hk,hr,hsc,tY⟩:=hrel
   by_cases aF:rest=⟨#[]⟩
   .subst aF
    have hs:SC=(l.map (·.r),0):=by
     rw[hsc.out]
     show((l.map (·.r))++(scan k []).1,(scan k []).2)=_
     rw[iT,List.append_nil]
    obtain rfl:E=0:=by rw[hE.out,hs]
    have MO:l.map (·.r)=DL:=by rw[Ba rfl,hs]
    go_wp2_with fail
    go_ret2
    exact⟨_,_,_,l,rfl,R,MO,tY⟩
   .have sF:bytes rest≠[]:=fun h=>aF (by rw[<-rZ rest,h];rfl)
    have Lz:(rest.toList==[])=false:=by rw[ag];exact beq_eq_false_iff_ne.2 sF
    have TH:¬rest.toList=[]:=by rw[ag];exact sF
    have cF:=fun W g=>ym rest W g hr
    have gr:=hg.call tY
    have um:fJ (bytes rest)≠0->E=fJ (bytes rest):=by
     intro h
     rw[hE.out,hsc.out,mj sF h]
    have rX:fJ (bytes rest)=0->k=60->E=2:=by
     rintro h rfl
     rw[hE.out,hsc.out,kh sF h]
    have fe:fJ (bytes rest)=0->k≠60->SC=(l.map (·.r)++[kt (bytes rest)]++(scan (k+1) (ge (bytes rest))).1,(scan (k+1) (ge (bytes rest))).2):=by
     intro h h'
     rw[hsc.out,ki sF h h']
     simp
    have az:fJ (bytes rest)=0->(iz (ge (bytes rest))).size<rest.size:=by
     intro h
     rw[io,<-dM rest]
     exact gE h
    have K5:bytes (iz (ge (bytes rest)))=ge (bytes rest):=ju _
    obtain⟨PB,F7⟩:∃PB,PB=iz (ge (bytes rest)):=⟨_,rfl⟩
    rw[<-K5] at fe
    rw[<-F7] at fe az
    simp only[<-F7] at cF
    clear F7 K5
    generalize kt (bytes rest)=PR at*
    generalize fJ (bytes rest)=PE at*
    obtain⟨K,s',m',es⟩:=PR
    simp only at*
    obtain⟨ln,dK⟩:∃ln,ln=es.length:=⟨_,rfl⟩
    rw[<-dK] at cF
    replace dK:=hide dK
    replace sF:=hide sF
    go_wp2_with fail
    go_at_call 65
    refine(cF _ gr).mono ?_
    rintro e w4 ⟨a4,G4,rfl,o4,b4⟩
    have aC:=aa tY b4
    have R4:=R.call b4
    by_cases h0:PE=0
    .subst h0
     have BX:=ac.laid w4 [.int .i64 K,.int .i64 s',.int .i64 m',.slice a4 ln G4] 73 _ rfl
     have bq:=newB (Below.refl w4.heap.size w4) (.cells #[.int .i64 K,.int .i64 s',.int .i64 m',.slice a4 ln G4] 73)
     have bE:=aa aC bq
     have R5:=R4.call bq
     have o5:=jO (o4.alloc (.cells #[.int .i64 K,.int .i64 s',.int .i64 m',.slice a4 ln G4] 73)) tY.size
     by_cases h6:k=60
     .subst h6
      obtain rfl:=rX rfl rfl
      have MO:=hL (by decide)
      go_upto_region 9 with fail
      generalize w4.alloc _=w5 at*
      go_wp2_with fail
      go_ret2
      exact⟨none,0,0,[],rfl,fU.nil _ _,MO.symm,bE⟩
     .have Pu:¬(k:Int)=60:=by omega
      have nx:=hide (fe rfl h6)
      have ID:=az rfl
      clear fe rX um az
      go_upto_region 11 with fail
      generalize w4.heap.size=gX at*
      generalize w4.alloc _=w5 at*
      have x0:=BX.cell 0
      have x1:=BX.cell 1
      have x2:=BX.cell 2
      have x3:=BX.cell 3
      have lX:=BX.lt
      go_wp2_with (at_builtin;refine aW w5 rfl (.tmp 29) (.tmp 31) 45 rfl w.heap.size 73 i0 _ 4 48 Tryz.underlying45 hi bU bi bk rfl (by decide) (.slice ao k G) k _ (by rfl) R5.row 1 #[.int .i64 K,.int .i64 s',.int .i64 m',.slice a4 ln G4] 73 (by rfl) (by rfl) (by simp[Value.oneCell']) (by decide) (by unfold maxLen;omega) (by omega) bE.size ?_)
      intro v7 w7 jo iP xA
      have k7:=aH bE R5.row iP (Nat.le_refl _) bE.size
      obtain⟨a8,G8,rfl,R8⟩:=R5.snoc (x:=⟨⟨K,s',m',es⟩,a4,G4⟩) (by show World.ownsRow _ _ _ _ (.slice a4 es.length G4) es.length _;rw[<-dK.out];exact o5) (by unfold bF.cells;simp only;rw[<-dK.out];exact jo) iP
      go_wp2_with fail
      go_roundw
      case rel=>exact⟨PB,k+1,G8,a8,l++[⟨⟨K,s',m',es⟩,a4,G4⟩],rfl,rfl,R8,by omega,by omega,by rw[List.map_append];exact nx,k7⟩
      case measure=>exact ID
    .obtain rfl:=um h0
     have MO:=hL h0
     have hd:decide (E=0)=false:=decide_eq_false h0
     have bq:=newB (Below.refl w4.heap.size w4) (.cells #[.int .i64 K,.int .i64 s',.int .i64 m',.slice a4 ln G4] 73)
     have bE:=aa aC bq
     go_upto_region 7 with fail
     generalize w4.alloc _=w5 at*
     go_wp2_with fail
     go_ret2
     exact⟨none,0,0,[],rfl,fU.nil _ _,MO.symm,bE⟩
theorem nd (d:Dk)(a1 a2:Option Addr)(c1 c2 n1 n2:Nat)(w:World)(hg:Gl w)(s1:Sl w a1 c1 (byteCells d.safe))(h1:n1=d.safe.length)(h2:n2=d.wait.length)(few:n1+n2<=9223372036854775807):
  Calls Tryz.prog 139 #[.agg #[.slice a1 n1 c1,.slice a2 n2 c2]] w fun e w'=>e=.returned (.int .i64 (cT d))/\Below w.heap.size w w':=by
 have bel:=newB (Below.refl w.heap.size w) (.cells #[.slice a1 n1 c1,.slice a2 n2 c2] 27)
 have c:=fun W g s=>An d a1 a2 c1 c2 n1 n2 W g s h1 h2 few
 have g1:=hg.call bel
 have t1:=s1.keep bel (Nat.le_refl _)
 generalize cT d=E at*
 replace h1:=hide h1
 replace h2:=hide h2
 go_enter Tryz.func139,Tryz.ntmps139
 go_wp2_with fail
 generalize w.alloc _=w1 at*
 go_at_call 64
 refine(c _ g1 t1).mono ?_
 rintro e w2 ⟨a,n,G,l,rfl,-,-,b2⟩
 go_wp2_with fail
 go_ret
 exact⟨rfl,aa bel b2⟩
end Go.Proofs.YtoonnbhoiocoeaaGreatDoor
namespace Go.Proofs.YtoonnbhoiocoeaaGreatDoor
open Go.RowKit Go.ChangeShapes Go.WideShapes Go.ChangeAt Go.Joins
open Go.Lib (byteCells)
def ug (b:UInt8):List Value:=[.int .u8 b.toNat]
theorem OT (l:List UInt8):l.flatMap ug=byteCells l:=by
 induction l with
 |nil=>rfl
 |cons b r ih=>rw[List.flatMap_cons,ih];rfl
theorem xz {w:World}{a:Option Addr}{cap:Nat}{l:List UInt8}(h:aY ug w a cap l):Sl w a cap (byteCells l):=by
 obtain⟨h1,h2,h3,h4⟩:=h
 rw[OT] at h1
 exact⟨h1,by rw[Lib.byteCells_length];exact h2,h3,h4⟩
theorem xw {H:Type}{enc:TypeId × Value->H}{W:World}(cs:List Value)(x:DataW H × List MemPlace)(m:Nat)(hl:cs.length=1)(h:DataW.trod enc Tryz.prog W 0 (fun _=>true) true m 5 cs=some x)(_:ir 5 x.1):
  ∃y:UInt8,cs=ug y/\True:=by
 match cs,hl with
 | [c],_=>
  obtain⟨z,mX,_,hw⟩:=DataW.trod_int Tryz.underlying5 h
  simp at mX
  subst mX
  have hz:0<=z/\z<256:=by
   simp[Lit.wf,IntKind.min,IntKind.max,IntKind.signed,IntKind.bits] at hw
   omega
  refine⟨UInt8.ofNat z.toNat,?_,trivial⟩
  unfold ug
  have:((UInt8.ofNat z.toNat).toNat:Int)=z:=by
   rw[UInt8.toNat_ofNat']
   omega
  rw[this]
theorem Hy:Tryz.prog.cellsOf 27=2:=by kernel_rfl
theorem Ov:Tryz.prog.bytesOf 5=1:=by kernel_rfl
end Go.Proofs.YtoonnbhoiocoeaaGreatDoor
namespace Go.Proofs.YtoonnbhoiocoeaaGreatDoor
open Go.RowKit
def bV:List Bk->Int
 | []=>0
 |b::r=>if bI b=0 then bV r else bI b
def dm (l:List Bk):List Pt:=l.flatMap aX
def be (r:Rw):List Pt:=dm r.blocks++r.head
def dV (r:Rw):Int:=if 8<r.blocks.length then 2 else if bV r.blocks=0 then aJ (be r) else bV r.blocks
def og (r:Rw):List Pt:=if dV r=0 then be r else []
def lv:List Rw->Int
 | []=>0
 |r::l=>if dV r=0 then lv l else dV r
def aE (l:List Rw):Int:=if l.length=4 then lv l else 4
end Go.Proofs.YtoonnbhoiocoeaaGreatDoor
