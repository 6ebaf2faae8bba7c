/-
  Lines of a log as plain lists: what package disk reckons. No program is named.
-/
import Derived.Lib.IndexMore
import Derived.Shelf.Bytes.SlEqualAll
import Derived.Test.YtoonnbhoiocoeaaGreatDoorQ06
set_option maxHeartbeats 40000000
set_option maxRecDepth 100000
set_option linter.unusedVariables false
namespace Go.Proofs.YtoonnbhoiocoeaaGreatDoor
open Go.Lib (index cut)
theorem qe (b:UInt8):∀l:List UInt8,(index l [b]=-1/\∀c∈l,c≠b)\/(∃p q,l=p++b::q/\(∀c∈p,c≠b)/\index l [b]=p.length)
 | []=>.inl ⟨rfl,fun c h=>by simp at h⟩
 |c::r=>by
  by_cases hc:c=b
  .subst hc
   exact .inr ⟨[],r,rfl,fun c h=>by simp at h,by simp[index]⟩
  have hp:([b]:List UInt8).isPrefixOf (c::r)=false:=by simp[List.isPrefixOf,Ne.symm hc]
  rcases qe b r with⟨h1,h2⟩| ⟨p,q,rfl,h2,h3⟩
  .left
   refine⟨by rw[index,hp,h1];rfl,fun x hx=>?_⟩
   rcases List.mem_cons.1 hx with rfl|hx
   .exact hc
   exact h2 x hx
  right
  refine⟨c::p,q,rfl,fun x hx=>?_,?_⟩
  .rcases List.mem_cons.1 hx with rfl|hx
   .exact hc
   exact h2 x hx
  rw[index,hp,h3]
  have:((p.length:Int)==-1)=false:=by simp
  simp[this]
def mS (l:List UInt8):List UInt8:=(cut l [10]).1
def pH (l:List UInt8):List UInt8:=(cut l [10]).2.1
def rD (l:List UInt8):Bool:=(cut l [10]).2.2
theorem jP (l:List UInt8):(rD l=false/\mS l=l/\pH l=[]/\∀c∈l,c≠10)\/(rD l=true/\l=mS l++10::pH l/\∀c∈mS l,c≠10):=by
 unfold rD mS pH cut
 rcases qe 10 l with⟨h1,h2⟩| ⟨p,q,rfl,h2,h3⟩
 .left
  rw[h1,if_neg (by decide)]
  exact⟨rfl,rfl,rfl,h2⟩
 right
 rw[h3,if_pos (by omega)]
 have hd:(p++10::q).drop (p.length+1)=q:=by
  rw[show p.length+1=(p++[10]).length by simp,show p++10::q=(p++[10])++q by simp,List.drop_left]
 simp only[Int.toNat_natCast,List.length_cons,List.length_nil,Nat.zero_add,List.take_left,hd]
 exact⟨trivial,trivial,h2⟩
theorem Ux {p q:List UInt8}(h:∀c∈p,c≠10):rD (p++10::q)=true/\mS (p++10::q)=p/\pH (p++10::q)=q:=by
 have:index (p++10::q) [10]=p.length:=by
  induction p with
  |nil=>simp[index]
  |cons c r ih=>
   have hc:c≠10:=h c List.mem_cons_self
   have hp:([10]:List UInt8).isPrefixOf (c::(r++10::q))=false:=by simp[List.isPrefixOf,Ne.symm hc]
   rw[List.cons_append,index,hp,ih (fun x hx=>h x (List.mem_cons_of_mem _ hx))]
   have:((r.length:Int)==-1)=false:=by simp
   simp[this]
 unfold rD mS pH cut
 rw[this,if_pos (by omega)]
 have hd:(p++10::q).drop (p.length+1)=q:=by
  rw[show p.length+1=(p++[10]).length by simp,show p++10::q=(p++[10])++q by simp,List.drop_left]
 simp only[Int.toNat_natCast,List.length_cons,List.length_nil,Nat.zero_add,List.take_left,hd]
 exact⟨trivial,trivial,trivial⟩
def iv (l:List UInt8):ByteArray:=⟨l.toArray⟩
theorem jM (l:List UInt8):bytes (iv l)=l:=by simp[bytes,iv]
theorem tp (b:ByteArray):iv (bytes b)=b:=by simp[bytes,iv]
theorem ir (l:List UInt8):(iv l).size=l.length:=by simp[iv,ByteArray.size]
theorem dB (b:ByteArray):(bytes b).length=b.size:=Array.length_toList
def fF (l:List UInt8):Int:=if rD l=true then im (iv (mS l)) else 8
def lv (l:List UInt8):Rc:=if rD l=true then dJ (iv (mS l)) else lr
def f6 (l:List UInt8):List UInt8:=if rD l=true then pH l else []
theorem JI {l:List UInt8}(h:fF l=0):rD l=true:=by
 unfold fF at h
 split at h
 .assumption
 cases h
theorem gu {l:List UInt8}(h:fF l=0):(f6 l).length<l.length:=by
 have hy:=JI h
 unfold f6
 rw[if_pos hy]
 rcases jP l with⟨h1,_⟩| ⟨_,h2,_⟩
 .rw[hy] at h1;cases h1
 have:=congrArg List.length h2
 simp at this
 omega
theorem oB:fF []=8:=by
 have:rD []=false:=rfl
 unfold fF
 rw[this]
 rfl
def oc:Nat->Nat->List UInt8->List Rc × Int
 |0,_,_=>([],0)
 |f+1,k,l=>if l=[] then([],0) else if fF l≠0 then([],fF l) else if k=60 then([],2) else(lv l::(oc f (k+1) (f6 l)).1,(oc f (k+1) (f6 l)).2)
theorem pY:∀(f:Nat) (k:Nat) (l:List UInt8),l.length<f->oc f k l=oc (l.length+1) k l
 |0,_,_,h=>by omega
 |f+1,k,l,h=>by
  rw[oc]
  conv=>rhs;rw[oc]
  by_cases h0:l=[]
  .rw[if_pos h0,if_pos h0]
  rw[if_neg h0,if_neg h0]
  by_cases h1:fF l≠0
  .rw[if_pos h1,if_pos h1]
  rw[if_neg h1,if_neg h1]
  have hl:=gu (Decidable.of_not_not h1)
  by_cases h2:k=60
  .rw[if_pos h2,if_pos h2]
  rw[if_neg h2,if_neg h2,pY f (k+1) (f6 l) (by omega),pY l.length (k+1) (f6 l) hl]
def scan (k:Nat)(l:List UInt8):List Rc × Int:=oc (l.length+1) k l
theorem jc (k:Nat):scan k []=([],0):=rfl
theorem mC {k:Nat}{l:List UInt8}(h0:l≠[])(h1:fF l≠0):scan k l=([],fF l):=by
 unfold scan
 rw[oc,if_neg h0,if_pos h1]
theorem kw {l:List UInt8}(h0:l≠[])(h1:fF l=0):scan 60 l=([],2):=by
 unfold scan
 rw[oc,if_neg h0,if_neg (by simp[h1]),if_pos rfl]
theorem kX {k:Nat}{l:List UInt8}(h0:l≠[])(h1:fF l=0)(h2:k≠60):scan k l=(lv l::(scan (k+1) (f6 l)).1,(scan (k+1) (f6 l)).2):=by
 have hl:=gu h1
 unfold scan
 rw[oc,if_neg h0,if_neg (by simp[h1]),if_neg h2,pY l.length (k+1) (f6 l) hl]
def pb:Nat->Nat->List UInt8->List Rc × List UInt8
 |0,_,l=>([],l)
 |f+1,k,l=>if k<60/\fF l=0 then(lv l::(pb f (k+1) (f6 l)).1,(pb f (k+1) (f6 l)).2) else([],l)
theorem pW:∀(f:Nat) (k:Nat) (l:List UInt8),l.length<f->pb f k l=pb (l.length+1) k l
 |0,_,_,h=>by omega
 |f+1,k,l,h=>by
  rw[pb]
  conv=>rhs;rw[pb]
  by_cases h1:k<60/\fF l=0
  .have hl:=gu h1.2
   rw[if_pos h1,if_pos h1,pW f (k+1) (f6 l) (by omega),pW l.length (k+1) (f6 l) hl]
  rw[if_neg h1,if_neg h1]
def tail (k:Nat)(l:List UInt8):List Rc × List UInt8:=pb (l.length+1) k l
theorem ee {k:Nat}{l:List UInt8}(h:¬(k<60/\fF l=0)):tail k l=([],l):=by
 unfold tail
 rw[pb,if_neg h]
theorem kz {k:Nat}{l:List UInt8}(h:k<60/\fF l=0):tail k l=(lv l::(tail (k+1) (f6 l)).1,(tail (k+1) (f6 l)).2):=by
 unfold tail
 rw[pb,if_pos h,pW l.length (k+1) (f6 l) (gu h.2)]
structure Dk where
 safe:List UInt8
 wait:List UInt8
def ox:Dk:=⟨[],[]⟩
def cy (d:Dk):Int:=if 60000<d.safe.length+d.wait.length then 2 else(scan 0 d.safe).2
def jk (d:Dk):List Rc:=if cy d=0 then(scan 0 d.safe).1 else []
def dX (d:Dk)(r:Rc):Int:=if cy d≠0 then cy d else if aP r≠0 then aP r else if 60000<d.safe.length+d.wait.length+((bY r).length+1) then 2 else 0
def cU (d:Dk)(r:Rc):Dk:=if dX d r=0 then⟨d.safe,d.wait++(bY r++[10])⟩ else ox
def gk (d:Dk):Int:=if cy d≠0 then cy d else cy ⟨d.safe++d.wait,[]⟩
def iJ (d:Dk):Dk:=if gk d=0 then⟨d.safe++d.wait,[]⟩ else ox
def ml (d:Dk)(n:Int):Int:=if cy d≠0 then cy d else if n<0\/(d.wait.length:Int)<n then 3 else 0
def rv (d:Dk)(n:Int):Dk:=if ml d n=0 then⟨d.safe,d.wait.take n.toNat⟩ else ox
def kept (d:Dk):List UInt8:=d.wait.take (d.wait.length-(tail (jk d).length d.wait).2.length)
def fQ (d:Dk):Dk:=if cy d=0 then⟨d.safe++kept d,[]⟩ else ox
def aO (d:Dk):List Rc:=if cy d=0 then jk d++(tail (jk d).length d.wait).1 else []
theorem zp:∀(n k:Nat) (l:List UInt8),l.length<=n->k<=60->(scan k l).1.length+k<=60
 |0,k,l,h,hk=>by
  obtain rfl:=List.length_eq_zero_iff.1 (Nat.le_zero.1 h)
  rw[jc]
  simpa using hk
 |n+1,k,l,h,hk=>by
  by_cases h0:l=[]
  .subst h0
   rw[jc]
   simpa using hk
  by_cases h1:fF l=0
  .by_cases h2:k=60
   .subst h2
    rw[kw h0 h1]
    simp
   rw[kX h0 h1 h2]
   have:=gu h1
   have:=zp n (k+1) (f6 l) (by omega) (by omega)
   simp only[List.length_cons]
   omega
  rw[mC h0 h1]
  simpa using hk
theorem DC (d:Dk):(jk d).length<=60:=by
 unfold jk
 split
 .have:=zp d.safe.length 0 d.safe (Nat.le_refl _) (by omega)
  omega
 simp
open Go.RowKit
open Go.Lib (byteCells)
theorem xP {w:World}{a:Option Addr}{cap:Nat}{l:List UInt8}(S:Sl w a cap (byteCells l)):Lib.BytesIn w a l.length (l.map fun b=>(b.toNat:Int)):=by
 intro hn
 obtain⟨b,o,e,_,hc⟩:=S.row.at (by intro h;have:=congrArg List.length h;simp[byteCells] at this;subst this;simp at hn)
 refine⟨b,o,e,fun i hi=>?_⟩
 have:=hc i (.int .u8 (l[i].toNat)) (by simp[byteCells,hi])
 rw[this]
 simp[List.getD,hi]
theorem nT (l:List UInt8):Lib.bytesOf (l.map fun b=>(b.toNat:Int))=l:=by
 unfold Lib.bytesOf
 rw[List.map_map]
 conv=>rhs;rw[<-List.map_id l]
 refine List.map_congr_left (fun b _=>?_)
 simp
theorem vG (a1 a2:Option Addr)(c1 c2 n1 n2:Nat)(l m:List UInt8)(w:World)(s1:Sl w a1 c1 (byteCells l))(s2:Sl w a2 c2 (byteCells m))(h1:n1=l.length)(h2:n2=m.length):
  Calls Tryz.prog 85 #[.slice a1 n1 c1,.slice a2 n2 c2] w fun e w'=>e=.returned (.bool (decide (l=m)))/\w'=w:=by
 subst h1 h2
 refine(Tryz.bytes_Equal_all a1 a2 l.length c1 m.length c2 _ _ w (by simp) (by simp) (xP s1) (xP s2)).mono ?_
 rintro e w' ⟨rfl,rfl⟩
 rw[nT,nT]
 refine⟨?_,rfl⟩
 congr 2
 rw[Bool.eq_iff_iff]
 simp
theorem FK (l:List UInt8):strOfNums (l.map fun b=>(b.toNat:Int))=⟨l.toArray⟩:=by
 have h:=Lib.strOfNums_toList (l.map fun b=>(b.toNat:Int))
 rw[nT,ai] at h
 exact(jU.2 h.symm).symm
theorem qk {w:World}{a:Option Addr}{cap n:Nat}{l:List UInt8}(S:Sl w a cap (byteCells l))(hn:n=l.length):
  (convert 25 9 (.slice a n cap)).run Tryz.prog w=.ok (.string ⟨l.toArray⟩) w:=by
 subst hn
 rw[Lib.BytesIn.convert (xP S) (by simp) cap 25 5 9 Tryz.underlying25 Tryz.underlying5 Tryz.underlying9,FK]
theorem zb:(Tryz.prog.info? 5).map (fun i=>(i.zero,i.size,i.bytes))=some (some (.int .u8 0),1,1):=by kernel_rfl
theorem byteCells_one (l:List UInt8):∀v∈byteCells l,v.oneCell'=true:=by
 intro v hv
 obtain⟨b,_,rfl⟩:=List.mem_map.1 hv
 rfl
theorem Uk {w':World}{g n:Nat}{cs:List Value}{t:TypeId}(h:w'.ownsRow g t 1 (.slice (some ⟨g,0,none⟩) n n) n cs):∃L:List Value,L.length=n/\ag w' g L t:=by
 rcases h.2 with⟨h',_⟩| ⟨g',rZ,cur,h',_,hg,_,_,hs,nN⟩
 .simp at h'
 simp only[Value.slice.injEq,Option.some.injEq,Addr.mk.injEq,and_true,true_and] at h'
 obtain⟨rfl,rfl⟩:=h'
 exact⟨cur.toList,by simp[hs],by unfold ag;simpa using hg⟩
theorem Gd {α:Type}(Z X Y:List α)(k:Nat)(hk:X.length=k)(hZ:Z.length=k+Y.length):splice (splice Z 0 X) k Y=X++Y:=by
 subst hk
 have e1:splice Z 0 X=X++Z.drop X.length:=by simp[splice]
 rw[e1]
 unfold splice
 rw[List.take_left' rfl,List.drop_eq_nil_of_le (by simp;omega),List.append_nil]
theorem Sl.srcU {w:World}{ao:Option Addr}{cap:Nat}{cs:List Value}(h:Sl w ao cap cs):0<cs.length->∃ad,ao=some ad/\∀j v,cs[j]? =some v->w.cell? (ad.add j)=some v:=by
 intro hp
 obtain⟨b,off,e,_,hc⟩:=h.row.at (by intro e;rw[e] at hp;simp at hp)
 exact⟨_,e,fun j v hv=>by rw[Addr.add_lit];exact hc j v hv⟩
theorem mB (a1 a2:Option Addr)(c1 c2 n1 n2:Nat)(l m:List UInt8)(w:World)(s1:Sl w a1 c1 (byteCells l))(s2:Sl w a2 c2 (byteCells m))(h1:n1=l.length)(h2:n2=m.length)(few:n1+n2<=1000000):
  Calls Tryz.prog 66 #[.slice a1 n1 c1,.slice a2 n2 c2] w fun e w'=>e=.returned (.slice (some ⟨w.heap.size,0,none⟩) (n1+n2) (n1+n2))/\ag w' w.heap.size (byteCells (l++m)) 5/\Below w.heap.size w w':=by
 obtain⟨i0,hi,bK,bm,bQ⟩:=info_parts zb
 obtain⟨N,hN⟩:∃N,N=n1+n2:=⟨_,rfl⟩
 have QO:IntKind.i64.wrap ((n1:Int)+(n2:Int))=(N:Int):=by rw[IntKind.wrap_i64];omega
 have OG:(n1:Int)+(n2:Int)=(N:Int):=by omega
 obtain⟨w1,hr,own,gr⟩:=run_make_full (P:=Tryz.prog) (w:=w) w.heap.size 25 5 i0 (.int .u8 0) 1 Tryz.underlying25 hi bK bm .i64 .i64 N (by rw[bQ];omega) (by unfold maxLen;omega) (Nat.le_refl _)
 obtain⟨L,hL,B0⟩:=Uk own
 have bel:Below w.heap.size w w1:=(Below.refl _ _).grown gr (Nat.le_refl _) (fun k h=>by cases h)
 have t1:=s1.keep bel (Nat.le_refl _)
 obtain⟨X,hX⟩:∃X,X=byteCells l:=⟨_,rfl⟩
 obtain⟨Y,hY⟩:∃Y,Y=byteCells m:=⟨_,rfl⟩
 have lX:X.length=n1:=by rw[hX,h1];simp[byteCells]
 have lY:Y.length=n2:=by rw[hY,h2];simp[byteCells]
 have oX:=byteCells_one l
 have oY:=byteCells_one m
 have Vk:byteCells (l++m)=X++Y:=by rw[hX,hY];simp[byteCells]
 rw[Vk]
 rw[<-hX] at t1 oX s1
 rw[<-hY] at s2 oY
 have dW:(Tryz.prog.info? 5).map (·.size)=some 1:=by rw[hi];simp[bm]
 have p1:0<X.length->some (⟨w.heap.size,0,none⟩:Addr)=some ⟨w.heap.size,0,none⟩/\∃ad,a1=some ad/\∀j v,X[j]? =some v->w1.cell? (ad.add j)=some v:=fun h=>⟨rfl,t1.srcU h⟩
 have m1:X.length=Nat.min n1 N:=by rw[lX];exact(Nat.min_eq_left (by omega)).symm
 have f1:0+X.length<=L.length:=by rw[lX,hL];omega
 have m5:splice (splice L 0 X) n1 Y=X++Y:=Gd L X Y n1 lX (by rw[hL,lY];exact hN)
 have f2:n1+Y.length<=(splice L 0 X).length:=by rw[length_splice _ _ _ f1,hL,lY];omega
 have m2:Y.length=Nat.min n2 (N-n1):=by rw[lY];exact(Nat.min_eq_left (by omega)).symm
 replace p1:=aa p1
 replace m5:=aa m5
 replace m1:=aa m1
 replace m2:=aa m2
 replace f1:=aa f1
 replace f2:=aa f2
 replace lX:=aa lX
 replace lY:=aa lY
 replace h1:=aa h1
 replace h2:=aa h2
 replace hL:=aa hL
 rw[<-hN]
 replace hN:=aa hN
 clear hX hY Vk own gr
 go_enter Tryz.func66,Tryz.ntmps66
 go_upto_region 2 with fail
 go_wp2_with (refine wpList_copy_splice rfl (.tmp 12) (.tmp 13) 25 25 rfl 5 Tryz.underlying25 dW _ _ _ _ _ _ rfl rfl w.heap.size 0 L 5 B0 X m1.out p1.out f1.out oX w.heap.size w bel (Nat.le_refl _) ?_)
 intro w2 HG am
 have t2:=s2.keep am (Nat.le_refl _)
 clear B0 bel t1 p1 hr
 go_upto_region 3 with fail
 have fE:(n1:Int)<=N:=by omega
 have aaE:n1<=N:=by omega
 by_cases hz:N=n1
 .subst hz
  obtain rfl:n2=0:=by have:=hN.out;omega
  have Z6:¬0<Y.length:=by rw[lY.out];omega
  have ZQ:Y.length=Nat.min 0 0:=lY.out
  go_wp2_with (refine wpList_copy_splice rfl (.tmp 18) (.tmp 19) 25 25 rfl 5 Tryz.underlying25 dW _ _ _ _ _ _ rfl rfl w.heap.size N (splice L 0 X) 5 HG.out Y ZQ (fun h=>absurd h Z6) f2.out oY w.heap.size w am (Nat.le_refl _) ?_)
  intro w3 Mc aC
  have B3:ag w3 w.heap.size (X++Y) 5:=by
   have:=Mc.out
   rw[m5.out] at this
   exact this
  clear HG Mc
  go_wp2_with fail
  go_ret
  exact⟨rfl,B3,aC⟩
 have xj:¬N-n1=0:=by omega
 go_wp2_with (refine wpList_copy_splice rfl (.tmp 18) (.tmp 19) 25 25 rfl 5 Tryz.underlying25 dW _ _ _ _ _ _ rfl rfl w.heap.size n1 (splice L 0 X) 5 HG.out Y m2.out (fun h=>⟨rfl,t2.srcU h⟩) f2.out oY w.heap.size w am (Nat.le_refl _) ?_)
 intro w3 Mc aC
 have B3:ag w3 w.heap.size (X++Y) 5:=by
  have:=Mc.out
  rw[m5.out] at this
  exact this
 clear HG Mc
 go_wp2_with fail
 go_ret
 exact⟨rfl,B3,aC⟩
theorem ol {w:World}{g n:Nat}{l:List UInt8}(B:ag w g (byteCells l) 5)(hn:n=l.length)(few:n<=1000000):Sl w (some ⟨g,0,none⟩) n (byteCells l):=by
 refine⟨.inr ⟨g,0,rfl,B.lt,fun i v hv=>?_⟩,by rw[hn];simp[byteCells],by omega,fun h=>by cases h⟩
 rw[Nat.zero_add]
 exact(B.cell i).trans hv
theorem Bj (a1 a2:Option Addr)(c1 c2 n1 n2:Nat)(w:World)(few:n1+n2<=9223372036854775807):
  Calls Tryz.prog 104 #[.agg #[.slice a1 n1 c1,.slice a2 n2 c2]] w fun e w'=>e=.returned (.int .i64 ((n1+n2:Nat):Int))/\Below w.heap.size w w':=by
 have B0:=ag.laid w [.slice a1 n1 c1,.slice a2 n2 c2] 27 _ rfl
 have bel:=newB (Below.refl w.heap.size w) (.cells #[.slice a1 n1 c1,.slice a2 n2 c2] 27)
 obtain⟨N,hN⟩:∃N,N=n1+n2:=⟨_,rfl⟩
 have QO:IntKind.i64.wrap ((n1:Int)+(n2:Int))=(N:Int):=by rw[IntKind.wrap_i64];omega
 have OG:(n1:Int)+(n2:Int)=(N:Int):=by omega
 rw[<-hN]
 clear hN
 go_enter Tryz.func104,Tryz.ntmps104
 go_wp2_with fail
 go_ret
 exact⟨rfl,bel⟩
theorem GY (s:ByteArray)(w:World)(hg:Gl w)(hs:s.size<=100000):
  Calls Tryz.prog 105 #[.string s,.string ⟨#[10]⟩] w fun e w'=>e=.returned (.tuple #[.string (iv (mS (bytes s))),.string (iv (pH (bytes s))),.bool (rD (bytes s))])/\Below w.heap.size w w':=by
 obtain⟨mx,LF⟩:=hg.max
 refine(Tryz.strings_Cut s ⟨#[10]⟩ mx w (by omega) LF).mono ?_
 rintro e w' ⟨rfl,q,rfl⟩
 exact⟨rfl,bt (Below.refl _ _) q⟩
theorem xI (s:ByteArray)(w:World)(hg:Gl w)(hs:s.size<=60000):
  Calls Tryz.prog 65 #[.string s] w fun e w'=>∃a' G,e=.returned (.tuple #[.agg #[.int .i64 (lv (bytes s)).k,.int .i64 (lv (bytes s)).s,.int .i64 (lv (bytes s)).n,.slice a' (lv (bytes s)).e.length G],.string (iv (f6 (bytes s))),.int .i64 (fF (bytes s))])/\
   w'.ownsRow w.heap.size 75 3 (.slice a' (lv (bytes s)).e.length G) (lv (bytes s)).e.length ((lv (bytes s)).e.flatMap ec)/\Below w.heap.size w w':=by
 have BX:=ag.laid w [.int .i64 0,.int .i64 0,.int .i64 0,.slice none 0 0] 73 _ rfl
 have ei:Below w.heap.size w (w.alloc (.cells #[.int .i64 0,.int .i64 0,.int .i64 0,.slice none 0 0] 73)):=(Below.refl _ _).alloc (Nat.le_refl _) _
 have g1:=hg.alloc (.cells #[.int .i64 0,.int .i64 0,.int .i64 0,.slice none 0 0] 73)
 have cC:=fun W g=>GY s W g (by omega)
 have Di:(mS (bytes s)).length<=60000:=by
  have hb:=dB s
  rcases jP (bytes s) with⟨_,h2,_⟩| ⟨_,h2,_⟩
  .rw[h2,hb];exact hs
  have:=congrArg List.length h2
  simp at this
  omega
 have cP:=fun W g=>Kk (iv (mS (bytes s))) W g (by rw[ir];omega)
 unfold lv f6 fF
 cases hy:rD (bytes s) with
 |false=>
  rw[hy] at cC
  simp only[Bool.false_eq_true,if_false]
  generalize iv (mS (bytes s))=T at*
  generalize iv (pH (bytes s))=B at*
  go_enter Tryz.func65,Tryz.ntmps65
  go_wp2_with fail
  generalize w.alloc _=w1 at*
  go_at_call 105
  refine(cC _ g1).mono ?_
  rintro e w2 ⟨rfl,b2⟩
  have BB:=BX.keep b2 BX.lt
  have fM:=ac ei b2
  obtain⟨r0,r1,r2,r3,-⟩:=BB.c4
  obtain⟨f0,f1,f2,f3⟩:=BB.f4
  have lR:=BB.lt
  go_wp2_with fail
  have B9:=dU BB (.int .i64 0) (.int .i64 0) (.int .i64 0) (.slice none 0 0)
  have aq:=bI fM (Nat.le_refl _) (.int .i64 0) (.int .i64 0) (.int .i64 0) (.slice none 0 0)
  obtain⟨i0,i1,i2,i3,-⟩:=B9.c4
  exact bodyPost_ret (v:=.tuple #[.agg #[.int .i64 0,.int .i64 0,.int .i64 0,.slice none 0 0],.string ⟨#[]⟩,.int .i64 8]) (by simp[results,Tryz.results65,go_sem,i0,i1,i2,i3]) rfl ⟨none,0,rfl,World.ownsRow_nil _ _ _ _,aq⟩
 |true=>
  rw[hy] at cC
  simp only[if_true]
  generalize iv (mS (bytes s))=T at*
  generalize iv (pH (bytes s))=B at*
  generalize dJ T=PR at*
  generalize im T=PE at*
  obtain⟨K,s',m',l⟩:=PR
  simp only at*
  obtain⟨ln,eG⟩:∃ln,ln=l.length:=⟨_,rfl⟩
  rw[<-eG] at cP⊢
  replace eG:=aa eG
  go_enter Tryz.func65,Tryz.ntmps65
  go_wp2_with fail
  generalize w.alloc _=w1 at*
  go_at_call 105
  refine(cC _ g1).mono ?_
  rintro e w2 ⟨rfl,b2⟩
  have g2:=g1.call b2
  have B2:=BX.keep b2 BX.lt
  have am:=ac ei b2
  go_wp2_with fail
  go_at_call 106
  refine(cP _ g2).mono ?_
  rintro e w3 ⟨a3,G3,rfl,o3,b3⟩
  have B3:=B2.keep b3 B2.lt
  have aC:=ac am b3
  have B4:=ag.laid w3 [.int .i64 K,.int .i64 s',.int .i64 m',.slice a3 ln G3] 73 _ rfl
  have bq:=newB (Below.refl w3.heap.size w3) (.cells #[.int .i64 K,.int .i64 s',.int .i64 m',.slice a3 ln G3] 73)
  have BB:=B3.keep bq B3.lt
  have o4:=o3.alloc (.cells #[.int .i64 K,.int .i64 s',.int .i64 m',.slice a3 ln G3] 73)
  have fM:=ac aC bq
  have o5:=j6 o4 (Nat.le_trans ei.size (Nat.le_trans b2.size (Nat.le_refl _)))
  go_upto_region 5 with fail
  generalize w3.heap.size=g4 at*
  generalize w3.alloc _=w4 at*
  obtain⟨y0,y1,y2,y3,lY⟩:=B4.c4
  obtain⟨r0,r1,r2,r3,-⟩:=BB.c4
  obtain⟨f0,f1,f2,f3⟩:=BB.f4
  have lR:=BB.lt
  clear cC cP
  go_wp2_with fail
  have B9:=dU BB (.int .i64 K) (.int .i64 s') (.int .i64 m') (.slice a3 ln G3)
  have aq:=bI fM (Nat.le_refl _) (.int .i64 K) (.int .i64 s') (.int .i64 m') (.slice a3 ln G3)
  have o9:=xC o5 BB (by decide) (.int .i64 K) (.int .i64 s') (.int .i64 m') (.slice a3 ln G3)
  obtain⟨i0,i1,i2,i3,-⟩:=B9.c4
  exact bodyPost_ret (v:=.tuple #[.agg #[.int .i64 K,.int .i64 s',.int .i64 m',.slice a3 ln G3],.string B,.int .i64 PE]) (by simp[results,Tryz.results65,go_sem,i0,i1,i2,i3]) rfl ⟨a3,G3,rfl,o9,aq⟩
structure dK where
 r:Rc
 a:Option Addr
 c:Nat
def dK.cells (x:dK):List Value:=[.int .i64 x.r.k,.int .i64 x.r.s,.int .i64 x.r.n,.slice x.a x.r.e.length x.c]
theorem dK.four (x:dK):x.cells.length=4:=rfl
def dK.own (base:Nat)(w:World)(x:dK):Prop:=w.ownsRow base 75 3 (.slice x.a x.r.e.length x.c) x.r.e.length (x.r.e.flatMap ec)
structure fX (base:Nat)(w:World)(a:Option Addr)(n G:Nat)(l:List dK):Prop where
 len:n=l.length
 row:w.ownsRow base 73 4 (.slice a n G) n (l.flatMap dK.cells)
 own:∀x∈l,x.own base w
theorem fX.nil (base:Nat)(w:World):fX base w none 0 0 []:=⟨rfl,World.ownsRow_nil _ _ _ _,fun x h=>by simp at h⟩
theorem fX.call {base:Nat}{w w':World}{a:Option Addr}{n G:Nat}{l:List dK}(h:fX base w a n G l)(hb:Below w.heap.size w w'):fX base w' a n G l:=
 ⟨h.len,dx h.row hb,fun x hx=>dx (h.own x hx) hb⟩
theorem fX.down {base base':Nat}{w:World}{a:Option Addr}{n G:Nat}{l:List dK}(h:fX base w a n G l)(hb:base'<=base):fX base' w a n G l:=
 ⟨h.len,j6 h.row hb,fun x hx=>j6 (h.own x hx) hb⟩
theorem oi:(Tryz.prog.info? 73).map (fun i=>(i.zero,i.size,i.bytes))=some (some (.agg #[.int .i64 0,.int .i64 0,.int .i64 0,.slice none 0 0]),4,48):=by kernel_rfl
theorem fX.snoc {base:Nat}{w w':World}{a:Option Addr}{n G:Nat}{l:List dK}{v:Value}(h:fX base w a n G l)(x:dK)(hx:x.own base w)(o:w'.ownsRow base 73 4 v (n+1) (l.flatMap dK.cells++x.cells))(gr:w.grownBy w' (Value.slice a n G).ownBlock):
  ∃a' G',v=.slice a' (n+1) G'/\fX base w' a' (n+1) G' (l++[x]):=by
 obtain⟨g7,G7,rfl⟩:∃g7 G7,v=.slice (some ⟨g7,0,none⟩) (n+1) G7:=by
  rcases o.2 with⟨_,h⟩| ⟨g,cap,cur,h,_⟩
  .omega
  exact⟨_,_,h⟩
 refine⟨_,_,rfl,by rw[List.length_append,h.len];rfl,by rw[List.flatMap_append];simpa using o,fun y hy=>?_⟩
 rcases List.mem_append.1 hy with hy|hy
 .exact rj (h.own y hy) gr (xN (h.own y hy) h.row (by decide))
 simp only[List.mem_cons,List.not_mem_nil,or_false] at hy
 subst hy
 exact rj hx gr (xN hx h.row (by decide))
structure eK (w:World)(a:Option Addr)(cap:Nat)(l:List dK):Prop where
 row:be dK.cells w a cap l
 ent:∀x∈l,be ec w x.a x.c x.r.e
theorem eK.keep {w w':World}{a:Option Addr}{cap B:Nat}{l:List dK}(h:eK w a cap l)(hb:Below B w w')(hs:w.heap.size<=B):eK w' a cap l:=
 ⟨h.row.keep hb hs,fun x hx=>(h.ent x hx).keep hb hs⟩
theorem fX.sl {base:Nat}{w:World}{a:Option Addr}{n G:Nat}{l:List dK}(R:fX base w a n G l):eK w a G l:=by
 obtain⟨a9,G9,e9,S9,_,_⟩:=be.ofOwn dK.four (by decide) R.row
 simp only[Value.slice.injEq,true_and] at e9
 obtain⟨rfl,rfl⟩:=e9
 refine⟨S9,fun x hx=>?_⟩
 obtain⟨a5,G5,e5,s5,_,_⟩:=be.ofOwn dq (by decide) (R.own x hx)
 simp only[Value.slice.injEq,true_and] at e5
 obtain⟨e1,e2⟩:=e5
 rw[e1,e2]
 exact s5
def JE:Value->Nat
 | .string b=>b.size
 |_=>0
theorem AQ (d:Dk)(a1 a2:Option Addr)(c1 c2 n1 n2:Nat)(w:World)(hg:Gl w)(s1:Sl w a1 c1 (byteCells d.safe))(h1:n1=d.safe.length)(h2:n2=d.wait.length)(few:n1+n2<=9223372036854775807):
  Calls Tryz.prog 64 #[.agg #[.slice a1 n1 c1,.slice a2 n2 c2]] w fun e w'=>∃(a:Option Addr) (n G:Nat) (l:List dK),e=.returned (.tuple #[.slice a n G,.int .i64 (cy d)])/\fX w.heap.size w' a n G l/\l.map (·.r)=jk d/\Below w.heap.size w w':=by
 have B0:=ag.laid w [.slice a1 n1 c1,.slice a2 n2 c2] 27 _ rfl
 have bel:=newB (Below.refl w.heap.size w) (.cells #[.slice a1 n1 c1,.slice a2 n2 c2] 27)
 have cs:=fun W=>Bj a1 a2 c1 c2 n1 n2 W few
 have hE:cy d=if 60000<n1+n2 then 2 else(scan 0 d.safe).2:=by unfold cy;rw[h1,h2]
 have hL:cy d≠0->jk d=[]:=fun h=>if_neg h
 obtain⟨N,hN⟩:∃N,N=n1+n2:=⟨_,rfl⟩
 rw[<-hN] at cs hE
 by_cases hb:60000<N
 .rw[if_pos hb] at hE
  rw[hL (by rw[hE];decide),hE]
  have Dj:(60000:Int)<N:=by omega
  replace h1:=aa h1
  replace h2:=aa h2
  replace hN:=aa hN
  clear hE hL
  go_enter Tryz.func64,Tryz.ntmps64
  go_wp2_with fail
  generalize w.alloc _=w1 at*
  go_at_call 104
  refine(cs _).mono ?_
  rintro e w2 ⟨rfl,b2⟩
  go_wp2_with fail
  go_ret2
  exact⟨none,0,0,[],rfl,fX.nil _ _,rfl,ac bel b2⟩
 rw[if_neg hb] at hE
 have Dj:¬(60000:Int)<N:=by omega
 have Sg:cy d=0->jk d=(scan 0 d.safe).1:=fun h=>if_pos h
 have K9:d.safe.length<=60000:=by omega
 have nd:=fun(W:World) (S:Sl W a1 c1 (byteCells d.safe))=>qk S h1
 obtain⟨i0,hi,bK,bm,bQ⟩:=info_parts oi
 generalize cy d=E at*
 generalize jk d=DL at*
 generalize Jj:scan 0 d.safe=SC at*
 replace hE:=aa hE
 replace Jj:=aa Jj
 replace h1:=aa h1
 replace h2:=aa h2
 replace hN:=aa hN
 go_enter Tryz.func64,Tryz.ntmps64
 go_wp2_with fail
 generalize w.alloc _=w1 at*
 go_at_call 104
 refine(cs _).mono ?_
 rintro e w2 ⟨rfl,b2⟩
 have am:=ac bel b2
 have B2:=B0.keep b2 B0.lt
 have q0:w2.cell? ⟨w.heap.size,0,none⟩=some (.slice a1 n1 c1):=B2.cell 0
 have l2:=B2.lt
 have g2:=hg.call am
 have Rn:=nd w2 (s1.keep am (Nat.le_refl _))
 go_wp2_with fail
 go_loopw [4,5] (fun s4 s5 wr=>∃(rest:ByteArray) (k G:Nat) (ao:Option Addr) (l:List dK),s4=.slice ao k G/\s5=.string rest/\fX w.heap.size wr ao k G l/\k<=60/\rest.size<=60000/\Hid (SC=(l.map (·.r)++(scan k (bytes rest)).1,(scan k (bytes rest)).2))/\Below w.heap.size w wr) (fun _ s5 _=>JE s5)
 case atStart=>exact⟨_,0,0,none,[],rfl,rfl,fX.nil _ _,by omega,by show(iv d.safe).size<=_;rw[ir];exact K9,by show SC=_;rw[show bytes ⟨d.safe.toArray⟩=d.safe from jM _];exact Jj.out.symm,am⟩
 case round=>
  obtain⟨rest,k,G,ao,l,rfl,rfl,R,hk,hr,hsc,uD⟩:=hrel
  by_cases aF:rest=⟨#[]⟩
  .subst aF
   have hs:SC=(l.map (·.r),0):=by
    rw[hsc.out]
    show((l.map (·.r))++(scan k []).1,(scan k []).2)=_
    rw[jc,List.append_nil]
   obtain rfl:E=0:=by rw[hE.out,hs]
   have O6:l.map (·.r)=DL:=by rw[Sg rfl,hs]
   go_wp2_with fail
   go_ret2
   exact⟨_,_,_,l,rfl,R,O6,uD⟩
  have tW:bytes rest≠[]:=fun h=>aF (by rw[<-tp rest,h];rfl)
  have NN:(rest.toList==[])=false:=by rw[ai];exact beq_eq_false_iff_ne.2 tW
  have Wx:¬rest.toList=[]:=by rw[ai];exact tW
  have cF:=fun W g=>xI rest W g hr
  have gr:=hg.call uD
  have uQ:fF (bytes rest)≠0->E=fF (bytes rest):=by
   intro h
   rw[hE.out,hsc.out,mC tW h]
  have sX:fF (bytes rest)=0->k=60->E=2:=by
   rintro h rfl
   rw[hE.out,hsc.out,kw tW h]
  have hstep:fF (bytes rest)=0->k≠60->SC=(l.map (·.r)++[lv (bytes rest)]++(scan (k+1) (f6 (bytes rest))).1,(scan (k+1) (f6 (bytes rest))).2):=by
   intro h h'
   rw[hsc.out,kX tW h h']
   simp
  have aE:fF (bytes rest)=0->(iv (f6 (bytes rest))).size<rest.size:=by
   intro h
   rw[ir,<-dB rest]
   exact gu h
  have L6:bytes (iv (f6 (bytes rest)))=f6 (bytes rest):=jM _
  obtain⟨PB,Hh⟩:∃PB,PB=iv (f6 (bytes rest)):=⟨_,rfl⟩
  rw[<-L6] at hstep
  rw[<-Hh] at hstep aE
  simp only[<-Hh] at cF
  clear Hh L6
  generalize lv (bytes rest)=PR at*
  generalize fF (bytes rest)=PE at*
  obtain⟨K,s',m',es⟩:=PR
  simp only at*
  obtain⟨ln,eG⟩:∃ln,ln=es.length:=⟨_,rfl⟩
  rw[<-eG] at cF
  replace eG:=aa eG
  replace tW:=aa tW
  go_wp2_with fail
  go_at_call 65
  refine(cF _ gr).mono ?_
  rintro e w4 ⟨a4,G4,rfl,o4,b4⟩
  have ay:=ac uD b4
  have R4:=R.call b4
  by_cases h0:PE=0
  .subst h0
   have BX:=ag.laid w4 [.int .i64 K,.int .i64 s',.int .i64 m',.slice a4 ln G4] 73 _ rfl
   have bq:=newB (Below.refl w4.heap.size w4) (.cells #[.int .i64 K,.int .i64 s',.int .i64 m',.slice a4 ln G4] 73)
   have br:=ac ay bq
   have R5:=R4.call bq
   have o5:=j6 (o4.alloc (.cells #[.int .i64 K,.int .i64 s',.int .i64 m',.slice a4 ln G4] 73)) uD.size
   by_cases h6:k=60
   .subst h6
    obtain rfl:=sX rfl rfl
    have O6:=hL (by decide)
    go_upto_region 9 with fail
    generalize w4.alloc _=w5 at*
    go_wp2_with fail
    go_ret2
    exact⟨none,0,0,[],rfl,fX.nil _ _,O6.symm,br⟩
   have Ig:¬(k:Int)=60:=by omega
   have nU:=aa (hstep rfl h6)
   have JF:=aE rfl
   clear hstep sX uQ aE
   go_upto_region 11 with fail
   generalize w4.heap.size=gX at*
   generalize w4.alloc _=w5 at*
   obtain⟨x0,x1,x2,x3,lX⟩:=BX.c4
   go_wp2_with (at_builtin;refine bE w5 rfl (.tmp 29) (.tmp 31) 45 rfl w.heap.size 73 i0 _ 4 48 Tryz.underlying45 hi bK bm bQ rfl (by decide) (.slice ao k G) k _ (by rfl) R5.row 1 #[.int .i64 K,.int .i64 s',.int .i64 m',.slice a4 ln G4] 73 (by rfl) (by rfl) (by simp[Value.oneCell']) (by decide) (by unfold maxLen;omega) (by omega) br.size ?_)
   intro v7 w7 jw iP yJ
   have lH:=aG br R5.row iP (Nat.le_refl _) br.size
   obtain⟨a8,G8,rfl,R8⟩:=R5.snoc (x:=⟨⟨K,s',m',es⟩,a4,G4⟩) (by show World.ownsRow _ _ _ _ (.slice a4 es.length G4) es.length _;rw[<-eG.out];exact o5) (by unfold dK.cells;simp only;rw[<-eG.out];exact jw) iP
   go_wp2_with fail
   go_roundw
   case rel=>exact⟨PB,k+1,G8,a8,l++[⟨⟨K,s',m',es⟩,a4,G4⟩],rfl,rfl,R8,by omega,by omega,by rw[List.map_append];exact nU,lH⟩
   case measure=>exact JF
  obtain rfl:=uQ h0
  have O6:=hL h0
  have hd:decide (E=0)=false:=decide_eq_false h0
  have bq:=newB (Below.refl w4.heap.size w4) (.cells #[.int .i64 K,.int .i64 s',.int .i64 m',.slice a4 ln G4] 73)
  have br:=ac ay bq
  go_upto_region 7 with fail
  generalize w4.alloc _=w5 at*
  go_wp2_with fail
  go_ret2
  exact⟨none,0,0,[],rfl,fX.nil _ _,O6.symm,br⟩
theorem ny (d:Dk)(a1 a2:Option Addr)(c1 c2 n1 n2:Nat)(w:World)(hg:Gl w)(s1:Sl w a1 c1 (byteCells d.safe))(h1:n1=d.safe.length)(h2:n2=d.wait.length)(few:n1+n2<=9223372036854775807):
  Calls Tryz.prog 139 #[.agg #[.slice a1 n1 c1,.slice a2 n2 c2]] w fun e w'=>e=.returned (.int .i64 (cy d))/\Below w.heap.size w w':=by
 have bel:=newB (Below.refl w.heap.size w) (.cells #[.slice a1 n1 c1,.slice a2 n2 c2] 27)
 have c:=fun W g s=>AQ d a1 a2 c1 c2 n1 n2 W g s h1 h2 few
 have g1:=hg.call bel
 have t1:=s1.keep bel (Nat.le_refl _)
 generalize cy d=E at*
 replace h1:=aa h1
 replace h2:=aa h2
 go_enter Tryz.func139,Tryz.ntmps139
 go_wp2_with fail
 generalize w.alloc _=w1 at*
 go_at_call 64
 refine(c _ g1 t1).mono ?_
 rintro e w2 ⟨a,n,G,l,rfl,-,-,b2⟩
 go_wp2_with fail
 go_ret
 exact⟨rfl,ac bel b2⟩
open Go.RowKit Go.ChangeShapes Go.WideShapes Go.ChangeAt Go.Joins
def vd (b:UInt8):List Value:=[.int .u8 b.toNat]
theorem Pr (l:List UInt8):l.flatMap vd=byteCells l:=by
 induction l with
 |nil=>rfl
 |cons b r ih=>rw[List.flatMap_cons,ih];rfl
theorem x8 {w:World}{a:Option Addr}{cap:Nat}{l:List UInt8}(h:be vd w a cap l):Sl w a cap (byteCells l):=by
 obtain⟨h1,h2,h3,h4⟩:=h
 rw[Pr] at h1
 exact⟨h1,by rw[Lib.byteCells_length];exact h2,h3,h4⟩
theorem zd {H:Type}{enc:TypeId × Value->H}{W:World}(cs:List Value)(x:DataW H × List MemPlace)(m:Nat)(hl:cs.length=1)(h:DataW.trod enc Tryz.prog W 0 (fun _=>true) true m 5 cs=some x)(_:iT 5 x.1):
  ∃y:UInt8,cs=vd y/\True:=by
 match cs,hl with
 | [c],_=>
  obtain⟨z,m7,_,hw⟩:=DataW.trod_int Tryz.underlying5 h
  simp at m7
  subst m7
  have hz:0<=z/\z<256:=by
   simp[Lit.wf,IntKind.min,IntKind.max,IntKind.signed,IntKind.bits] at hw
   omega
  refine⟨UInt8.ofNat z.toNat,?_,trivial⟩
  unfold vd
  have:((UInt8.ofNat z.toNat).toNat:Int)=z:=by
   rw[UInt8.toNat_ofNat']
   omega
  rw[this]
theorem I':Tryz.prog.cellsOf 27=2:=by kernel_rfl
theorem QS:Tryz.prog.bytesOf 5=1:=by kernel_rfl
def bU:List Bk->Int
 | []=>0
 |b::r=>if bP b=0 then bU r else bP b
def dp (l:List Bk):List Pt:=l.flatMap bi
def cm (r:Rw):List Pt:=dp r.blocks++r.head
def dV (r:Rw):Int:=if 8<r.blocks.length then 2 else if bU r.blocks=0 then aH (cm r) else bU r.blocks
def qK (r:Rw):List Pt:=if dV r=0 then cm r else []
def iX:List Rw->Int
 | []=>0
 |r::l=>if dV r=0 then iX l else dV r
def az (l:List Rw):Int:=if l.length=4 then iX l else 4
end Go.Proofs.YtoonnbhoiocoeaaGreatDoor
