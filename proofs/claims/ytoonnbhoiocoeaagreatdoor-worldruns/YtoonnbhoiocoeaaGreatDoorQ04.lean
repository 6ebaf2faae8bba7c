/-
  Blocks as plain lists and numbers: what a list of points is as a block (dC, fk), the points of a block (bi, bP), two merged (eO, eA); and that they agree with one another. No program is named.
-/
import Derived.Lib.SmallJoins
import Derived.Lib.ItoaNum
import Derived.Lib.ItoaLen
import Derived.Lib.AtoiAll
import Derived.Test.YtoonnbhoiocoeaaGreatDoorQ03
set_option maxHeartbeats 40000000
set_option maxRecDepth 100000
set_option linter.unusedVariables false
namespace Go.Proofs.YtoonnbhoiocoeaaGreatDoor
open Go.RowKit
structure Bk where
 n:Int
 fr:Int
 «to»:Int
 bits:List Bool
def wR:Bk:=⟨0,0,0,[]⟩
def ej (b:Bk)(ao:Option Addr)(cap:Nat):Value:=.agg #[.int .i64 b.n,.int .i64 b.fr,.int .i64 b.to,.slice ao b.bits.length cap]
def firstT (l:List Pt):Int:=(l.getD 0 (0,0)).1
def lE (l:List Pt):Int:=(l.getD (l.length-1) (0,0)).1
def fk (l:List Pt):Int:=if aH l=0 then(if l.length=0 then 4 else 0) else aH l
def dC (l:List Pt):Bk:=if fk l=0 then⟨l.length,firstT l,lE l,ep l⟩ else wR
def ku (b:Bk)(l:List Pt):Bool:=decide (0<l.length/\b.fr=firstT l/\b.to=lE l)
def bP (b:Bk):Int:=if fL b.bits b.n=0 then(if ku b (dS b.bits b.n)=true then 0 else 4) else fL b.bits b.n
def bi (b:Bk):List Pt:=if bP b=0 then dS b.bits b.n else []
def eA (a b:Bk):Int:=if bP a=0 then(if bP b=0 then fk (bi a++bi b) else bP b) else bP a
def eO (a b:Bk):Bk:=if bP a=0/\bP b=0 then dC (bi a++bi b) else wR
def mJ (a b:Bk):Bool:=decide (a.n=b.n)&&decide (a.fr=b.fr)&&decide (a.to=b.to)&&decide (a.bits=b.bits)
theorem F0 (b:Bk):mJ b b=true:=by simp[mJ]
theorem i' (b:Bk):(bi b).length<=40:=by
 unfold bi
 split
 .exact oS _ _
 simp
theorem qL (l:List Pt):(dC l).bits.length<=2560:=by
 unfold dC
 split
 .exact Ah l
 simp[wR]
theorem ur (a b:Bk):(eO a b).bits.length<=2560:=by
 unfold eO
 split
 .exact qL _
 simp[wR]
theorem vF {l:List Pt}(h:aH l=0)(hl:0<l.length):fk l=0:=by
 unfold fk
 rw[if_pos h,if_neg (by omega)]
theorem rp {l:List Pt}(h:aH l=0)(hl:0<l.length):dC l=⟨l.length,firstT l,lE l,ep l⟩:=by
 unfold dC
 rw[if_pos (vF h hl)]
theorem Bi {l:List Pt}(h:aH l=0)(hl:0<l.length):bP (dC l)=0/\bi (dC l)=l:=by
 obtain⟨h1,h2⟩:=CW h
 have he:bP (dC l)=0:=by
  unfold bP
  rw[rp h hl]
  simp only[h1,h2]
  have hf:ku ⟨l.length,firstT l,lE l,ep l⟩ l=true:=decide_eq_true ⟨hl,rfl,rfl⟩
  rw[if_pos trivial,if_pos hf]
 refine⟨he,?_⟩
 unfold bi
 rw[if_pos he,rp h hl]
 exact h1
theorem LO:∀(l:List Pt) (a b:Int),b<=a->fp a l=0->fp b l=0
 | [],_,_,_,_=>rfl
 |p::r,a,b,Wy,h=>by
  obtain⟨h1,h2,h3⟩:=jQ h
  unfold fp
  rw[if_neg (by rw[h1];decide),if_neg (by omega)]
  exact h3
theorem A3:∀(l:List Pt) (a:Int),fp a l=0->a<=lastT a l
 | [],a,_=>Int.le_refl a
 |p::r,a,h=>by
  obtain⟨_,h2,h3⟩:=jQ h
  have:=A3 r p.1 h3
  show a<=lastT p.1 r
  omega
theorem nv {l:List Pt}(h:aH l=0)(k:Nat):aH (l.drop k)=0:=by
 obtain⟨mw,hc⟩:=eN h
 unfold aH
 rw[if_neg (by rw[List.length_drop];omega)]
 rw[<-List.take_append_drop k l,k8] at hc
 split at hc
 .rename_i h0
  exact LO _ _ _ (A3 _ _ h0) hc
 exact absurd hc (by assumption)
open Go.RowKit Go.ChangeShapes Go.WideShapes Go.ChangeAt
theorem av {α:Type}{f:α->List Value}{k:Nat}(hf:∀x,(f x).length=k):∀l:List α,(l.flatMap f).length=l.length*k
 | []=>by simp
 |x::r=>by
  rw[List.flatMap_cons,List.length_append,hf,av hf r,List.length_cons,Nat.succ_mul]
  omega
theorem flat_get {α:Type}{f:α->List Value}{k:Nat}(hf:∀x,(f x).length=k):∀(l:List α) (i j:Nat) (x:α),l[i]? =some x->j<k->(l.flatMap f)[i*k+j]? =(f x)[j]?
 | [],i,j,x,h,_=>by simp at h
 |y::r,0,j,x,h,hj=>by
  simp at h
  subst h
  rw[Nat.zero_mul,Nat.zero_add,List.flatMap_cons,List.getElem?_append_left (by rw[hf];exact hj)]
 |y::r,i+1,j,x,h,hj=>by
  have ih:=flat_get hf r i j x (by simpa using h) hj
  rw[List.flatMap_cons,List.getElem?_append_right (by rw[hf,Nat.succ_mul];omega),hf,Nat.succ_mul,show i*k+k+j-k=i*k+j by omega]
  exact ih
theorem oP {α:Type}{f:α->List Value}{k:Nat}(hf:∀x,(f x).length=k):∀(l:List α) (i:Nat),(l.flatMap f).take (i*k)=(l.take i).flatMap f
 |l,0=>by simp
 | [],i+1=>by simp
 |x::r,i+1=>by
  have ih:=oP hf r i
  rw[List.flatMap_cons,List.take_succ_cons,List.flatMap_cons,<-ih,List.take_append,hf,Nat.succ_mul,List.take_of_length_le (by rw[hf];omega),show i*k+k-k=i*k by omega]
theorem mE {α:Type}{f:α->List Value}{k:Nat}(hf:∀x,(f x).length=k):∀(l:List α) (i:Nat),(l.flatMap f).drop (i*k)=(l.drop i).flatMap f
 |l,0=>by simp
 | [],i+1=>by simp
 |x::r,i+1=>by
  have ih:=mE hf r i
  rw[List.flatMap_cons,List.drop_succ_cons,<-ih,List.drop_append,hf,Nat.succ_mul,List.drop_eq_nil_of_le (by rw[hf];omega),List.nil_append,show i*k+k-k=i*k by omega]
structure be {α:Type}(f:α->List Value)(w:World)(ao:Option Addr)(cap:Nat)(l:List α):Prop where
 row:Row w ao (l.flatMap f)
 le:l.length<=cap
 max:cap<=9223372036854775807
 nil:ao=none->cap=0
theorem be.keep {α:Type}{f:α->List Value}{w w':World}{ao:Option Addr}{cap:Nat}{l:List α}{B:Nat}(h:be f w ao cap l)(hb:Below B w w')(hB:w.heap.size<=B):be f w' ao cap l:=
 ⟨h.row.keep hb hB,h.le,h.max,h.nil⟩
theorem be.call {α:Type}{f:α->List Value}{w w':World}{ao:Option Addr}{cap:Nat}{l:List α}(h:be f w ao cap l)(hb:Below w.heap.size w w'):be f w' ao cap l:=h.keep hb (Nat.le_refl _)
theorem be.alloc {α:Type}{f:α->List Value}{w:World}{ao:Option Addr}{cap:Nat}{l:List α}(h:be f w ao cap l)(o:Obj):be f (w.alloc o) ao cap l:=
 ⟨h.row.alloc o,h.le,h.max,h.nil⟩
theorem be.ofNil {α:Type}(f:α->List Value)(w:World):be f w none 0 []:=⟨.inl rfl,Nat.le_refl _,by decide,fun _=>rfl⟩
theorem Og {α:Type}{f:α->List Value}{k:Nat}(hf:∀x,(f x).length=k)(hk:0<k){l:List α}(h:l≠[]):l.flatMap f≠[]:=by
 intro e
 have h1:=av hf l
 rw[e] at h1
 have h2:0<l.length:=List.length_pos_iff.2 h
 have:=Nat.mul_pos h2 hk
 rw[<-h1] at this
 exact Nat.lt_irrefl _ this
theorem be.where {α:Type}{f:α->List Value}{k:Nat}(hf:∀x,(f x).length=k)(hk:0<k){w:World}{ao:Option Addr}{cap:Nat}{l:List α}(h:be f w ao cap l)(aF:l≠[]):∃b off,ao=some ⟨b,off,none⟩/\b<w.heap.size:=by
 obtain⟨b,off,e,hb,_⟩:=h.row.at (Og hf hk aF)
 exact⟨b,off,e,hb⟩
theorem be.cell {α:Type}{f:α->List Value}{k:Nat}(hf:∀x,(f x).length=k){w:World}{b off cap:Nat}{l:List α}(h:be f w (some ⟨b,off,none⟩) cap l)(i j:Nat)(x:α)(v:Value)(hx:l[i]? =some x)(hj:(f x)[j]? =some v):
  w.cell? ⟨b,off+i*k+j,none⟩=some v:=by
 have Zv:j<k:=by rw[<-hf x];exact(List.getElem?_eq_some_iff.1 hj).1
 have hg:=flat_get hf l i j x hx Zv
 rw[hj] at hg
 obtain⟨b',lB,e,_,hc⟩:=h.row.at (by intro e;rw[e] at hg;simp at hg)
 simp only[Option.some.injEq,Addr.mk.injEq,and_true] at e
 obtain⟨rfl,rfl⟩:=e
 rw[Nat.add_assoc]
 exact hc _ _ hg
theorem be.front {α:Type}{f:α->List Value}{k:Nat}(hf:∀x,(f x).length=k){w:World}{ao:Option Addr}{cap:Nat}{l:List α}(h:be f w ao cap l)(i:Nat):be f w ao cap (l.take i):=by
 refine⟨?_,by have:=h.le;rw[List.length_take];omega,h.max,h.nil⟩
 rcases h.row with h0| ⟨b,off,e,hb,hc⟩
 .left;rw[<-oP hf,h0];simp
 right
 refine⟨b,off,e,hb,fun m v hv=>hc m v ?_⟩
 rw[<-oP hf,List.getElem?_take] at hv
 split at hv
 .exact hv
 cases hv
theorem be.part {α:Type}{f:α->List Value}{k:Nat}(hf:∀x,(f x).length=k){w:World}{ao:Option Addr}{cap:Nat}{l:List α}(h:be f w ao cap l)(p q:Nat)(Yy:p<=q)(hq:q<=l.length):be f w (if cap=p then ao else Option.map (fun x=>x.add (p*k)) ao) (cap-p) ((l.take q).drop p):=by
 have fE:=h.le
 have hlen:((l.take q).drop p).length=q-p:=by rw[List.length_drop,List.length_take];omega
 refine⟨?_,by rw[hlen];omega,by have:=h.max;omega,?_⟩
 .rcases(h.front hf q).row with h0| ⟨b,off,rfl,hb,hc⟩
  .left
   rw[<-mE hf,h0]
   simp
  by_cases he:p=q
  .left
   have e:(l.take q).drop p=[]:=List.eq_nil_of_length_eq_zero (by rw[hlen];omega)
   rw[e]
   rfl
  right
  rw[if_neg (by omega)]
  refine⟨b,off+p*k,by rw[Option.map_some,Addr.add_lit],hb,fun i v hv=>?_⟩
  rw[<-mE hf,List.getElem?_drop] at hv
  rw[Nat.add_assoc]
  exact hc _ _ hv
 intro e
 by_cases hc:cap=p
 .omega
 rw[if_neg hc] at e
 have:=h.nil (by simpa using e)
 omega
theorem be.ofOwn {α:Type}{f:α->List Value}{k:Nat}(hf:∀x,(f x).length=k)(hk:0<k){w:World}{base:Nat}{e:TypeId}{n:Nat}{v:Value}{l:List α}(h:w.ownsRow base e k v n (l.flatMap f)):∃ao cap,v=.slice ao n cap/\be f w ao cap l/\l.length=n/\∀g,g<base->Off g ao:=by
 have hl:l.length=n:=by have:=h.1;rw[av hf] at this;exact Nat.eq_of_mul_eq_mul_right hk this
 rcases h.2 with⟨rfl,rfl⟩| ⟨g,cap,cur,rfl,So,hh,LT,tj,jd,sJ⟩
 .obtain rfl:=List.eq_nil_of_length_eq_zero hl
  exact⟨none,0,rfl,be.ofNil f w,rfl,fun _ _=>Off.nil _⟩
 refine⟨_,_,rfl,⟨.inr ⟨g,0,rfl,(Array.getElem?_eq_some_iff.1 hh).1,fun i u hu=>?_⟩,by omega,by unfold maxLen at tj;exact tj,fun e=>by cases e⟩,hl,fun g' rK ad e=>by cases e;show g≠g';omega⟩
 rw[Nat.zero_add,h.cellAt i (by have:=(List.getElem?_eq_some_iff.1 hu).1;rw[av hf,hl] at this;exact this)]
 exact hu
def iT {H:Type}(t:TypeId)(d:DataW H):Prop:=∀n∈d.weights Tryz.prog t,n<=140737488351232
theorem oH {H:Type}{e:TypeId}{d:DataW H} :∀ {l:List (DataW H)},d∈l->∀n∈d.weights Tryz.prog e,n∈DataW.weightsAll Tryz.prog e l
 | [],h,_,_=>by simp at h
 |x::r,h,n,hn=>by
  simp only[DataW.weightsAll,List.mem_append]
  rcases List.mem_cons.1 h with rfl|h
  .exact .inl hn
  exact .inr (oH h n hn)
theorem ky {H:Type}{enc:TypeId × Value->H}{W:World}{t e:TypeId}{k:Nat}{α:Type}(f:α->List Value)(Q:α->Prop){ao:Option Addr}{n cap fuel:Nat}{d:DataW H}{ps:List MemPlace}
  (ht:Tryz.prog.underlying t=some (.slice e)) (ce:Tryz.prog.cellsOf e=k) (hk:0<k) (hf:∀x,(f x).length=k)
  (each:∀cs x m,cs.length=k->DataW.trod enc Tryz.prog W 0 (fun _=>true) true m e cs=some x->iT e x.1->∃y:α,cs=f y/\Q y)
  (h:DataW.trod enc Tryz.prog W 0 (fun _=>true) true fuel t [.slice ao n cap]=some (d,ps)) (hw:iT t d):
  ∃l:List α,l.length=n/\be f W ao cap l/\(∀y∈l,Q y)/\cap*Tryz.prog.bytesOf e<=140737488351232:=by
 rcases Go.Deep.open_slice ht h with⟨jd,_⟩| ⟨a,len,cp,m,fu,D,Pl,jd,_,hl,hm,jX,hx,hel⟩
 .simp at jd
  obtain⟨rfl,rfl,rfl⟩:=jd
  exact⟨[],rfl,be.ofNil f W,fun y hy=>by simp at hy,by simp⟩
 simp at jd
 obtain⟨rfl,rfl,rfl⟩:=jd
 simp only[if_true] at jX
 subst jX
 simp only[Prod.mk.injEq] at hx
 have hcap:m*Tryz.prog.bytesOf e<=140737488351232:=by
  have:=hw ((((List.range n).map D).length+((List.range (m-n)).map fun j=>D (n+j)).length)*Tryz.prog.bytesOf e) (by rw[hx.1];simp only[DataW.weights,ht];exact List.mem_cons_self ..)
  rw[List.length_map,List.length_map,List.length_range,List.length_range,show n+(m-n)=m by omega] at this
  exact this
 have key:∀i,i<n->∃y:α,(∀j v,(f y)[j]? =some v->W.cell? ((a.add (i*k)).add j)=some v)/\Q y:=by
  intro i hi
  obtain⟨cs,h1,h2⟩:=hel i (by omega)
  rw[ce] at h1
  obtain⟨_,hlen,fH⟩:=World.cells?_some h1
  obtain⟨y,rfl,hq⟩:=each cs _ _ hlen h2 (by
   intro z hz
   refine hw z ?_
   rw[hx.1]
   simp only[DataW.weights,ht]
   exact List.mem_cons_of_mem _ (List.mem_append_left _ (oH (List.mem_map.2 ⟨i,List.mem_range.2 hi,rfl⟩) z hz)))
  refine⟨y,fun j v hv=>?_,hq⟩
  have hj:j<k:=by rw[<-hf y];exact(List.getElem?_eq_some_iff.1 hv).1
  rw[fH j hj,hv]
 obtain⟨Y,hY⟩:∃Y:Fin n->α,∀i:Fin n,(∀j v,(f (Y i))[j]? =some v->W.cell? ((a.add (i.val*k)).add j)=some v)/\Q (Y i):=
  ⟨fun i=>(key i.val i.isLt).choose,fun i=>(key i.val i.isLt).choose_spec⟩
 have hlen:(List.ofFn Y).length=n:=by simp
 refine⟨List.ofFn Y,hlen,⟨?_,by rw[hlen];exact hl,by unfold maxLen at hm;exact hm,fun e=>by cases e⟩,?_,hcap⟩
 .by_cases h0:n=0
  .left
   have:(List.ofFn Y)=[]:=List.eq_nil_of_length_eq_zero (by rw[hlen,h0])
   rw[this]
   rfl
  obtain⟨b,off,spot⟩:=a
  have c0:=(hY ⟨0,by omega⟩).1 0 ((f (Y ⟨0,by omega⟩))[0]'(by rw[hf];exact hk)) (by simp)
  simp only[Nat.zero_mul] at c0
  have zh:spot=none:=by simpa[Addr.add] using World.cell?_spot c0
  subst zh
  rw[Addr.add_lit,Addr.add_lit] at c0
  have aE:=lt_of_cell c0
  refine .inr ⟨b,off,rfl,aE,fun i v hv=>?_⟩
  have hi:i<n*k:=by have:=(List.getElem?_eq_some_iff.1 hv).1;rw[av hf,hlen] at this;exact this
  have hq:i / k<n:=(Nat.div_lt_iff_lt_mul hk).2 hi
  have hr:i % k<k:=Nat.mod_lt _ hk
  have hg:=flat_get hf (List.ofFn Y) (i / k) (i % k) (Y ⟨i / k,hq⟩) (by simp[hq]) hr
  have X4:i / k*k+i % k=i:=by rw[Nat.mul_comm];exact Nat.div_add_mod i k
  rw[X4,hv] at hg
  have:=(hY ⟨i / k,hq⟩).1 (i % k) v hg.symm
  rw[Addr.add_lit,Addr.add_lit,Nat.add_assoc] at this
  simp only at this
  rw[X4] at this
  exact this
 intro y hy
 obtain⟨i,hi,rfl⟩:=List.mem_iff_getElem.1 hy
 rw[List.getElem_ofFn]
 exact(hY _).2
structure Lb where
 b:Bk
 a:Option Addr
 c:Nat
def Lb.cells (x:Lb):List Value:=[.int .i64 x.b.n,.int .i64 x.b.fr,.int .i64 x.b.to,.slice x.a x.b.bits.length x.c]
theorem Lb.four (x:Lb):x.cells.length=4:=rfl
structure Lb.Good (w:World)(x:Lb):Prop where
 bits:Sl w x.a x.c (x.b.bits.map Value.bool)
 few:x.b.bits.length<=140737488355328
theorem Lb.Good.keep {w w':World}{x:Lb}{B:Nat}(h:x.Good w)(hb:Below B w w')(hB:w.heap.size<=B):x.Good w':=⟨h.bits.keep hb hB,h.few⟩
theorem Lb.Good.alloc {w:World}{x:Lb}(h:x.Good w)(o:Obj):x.Good (w.alloc o):=⟨h.bits.alloc o,h.few⟩
structure pB (w:World)(ao:Option Addr)(cap:Nat)(l:List Lb):Prop where
 sl:be Lb.cells w ao cap l
 good:∀x∈l,x.Good w
theorem pB.keep {w w':World}{ao:Option Addr}{cap:Nat}{l:List Lb}{B:Nat}(h:pB w ao cap l)(hb:Below B w w')(hB:w.heap.size<=B):pB w' ao cap l:=⟨h.sl.keep hb hB,fun x hx=>(h.good x hx).keep hb hB⟩
theorem pB.alloc {w:World}{ao:Option Addr}{cap:Nat}{l:List Lb}(h:pB w ao cap l)(o:Obj):pB (w.alloc o) ao cap l:=⟨h.sl.alloc o,fun x hx=>(h.good x hx).alloc o⟩
theorem pB.ofNil (w:World):pB w none 0 []:=⟨be.ofNil _ w,fun x hx=>by simp at hx⟩
theorem pB.at {w:World}{b off cap:Nat}{l:List Lb}(h:pB w (some ⟨b,off,none⟩) cap l)(i:Nat)(x:Lb)(hx:l[i]? =some x):
  w.cell? ⟨b,off+i*4,none⟩=some (.int .i64 x.b.n)/\w.cell? ⟨b,off+i*4+1,none⟩=some (.int .i64 x.b.fr)/\w.cell? ⟨b,off+i*4+2,none⟩=some (.int .i64 x.b.to)/\w.cell? ⟨b,off+i*4+3,none⟩=some (.slice x.a x.b.bits.length x.c)/\x.Good w:=
 ⟨h.sl.cell Lb.four i 0 x _ hx rfl,h.sl.cell Lb.four i 1 x _ hx rfl,h.sl.cell Lb.four i 2 x _ hx rfl,h.sl.cell Lb.four i 3 x _ hx rfl,h.good x (List.mem_of_getElem? hx)⟩
theorem pB.where {w:World}{ao:Option Addr}{cap:Nat}{l:List Lb}(h:pB w ao cap l)(aF:l≠[]):∃b off,ao=some ⟨b,off,none⟩/\b<w.heap.size:=h.sl.where Lb.four (by decide) aF
structure Lr where
 bs:List Lb
 ba:Option Addr
 bc:Nat
 hd:List Pt
 ha:Option Addr
 hc:Nat
def Lr.cells (r:Lr):List Value:=[.slice r.ba r.bs.length r.bc,.slice r.ha r.hd.length r.hc]
theorem Lr.two (r:Lr):r.cells.length=2:=rfl
def Lr.v (r:Lr):Value:=.agg #[.slice r.ba r.bs.length r.bc,.slice r.ha r.hd.length r.hc]
structure Lr.Good (w:World)(r:Lr):Prop where
 bs:pB w r.ba r.bc r.bs
 hd:aV w r.ha r.hc r.hd
 few:r.bs.length<=140737488355328
 hfew:r.hd.length<=8796093022208
theorem Lr.Good.keep {w w':World}{r:Lr}{B:Nat}(h:r.Good w)(hb:Below B w w')(hB:w.heap.size<=B):r.Good w':=⟨h.bs.keep hb hB,h.hd.keep hb hB,h.few,h.hfew⟩
theorem Lr.Good.call {w w':World}{r:Lr}(h:r.Good w)(hb:Below w.heap.size w w'):r.Good w':=h.keep hb (Nat.le_refl _)
theorem Lr.Good.alloc {w:World}{r:Lr}(h:r.Good w)(o:Obj):r.Good (w.alloc o):=⟨h.bs.alloc o,h.hd.alloc o,h.few,h.hfew⟩
structure bL (w:World)(ao:Option Addr)(cap:Nat)(l:List Lr):Prop where
 sl:be Lr.cells w ao cap l
 good:∀r∈l,r.Good w
theorem bL.keep {w w':World}{ao:Option Addr}{cap:Nat}{l:List Lr}{B:Nat}(h:bL w ao cap l)(hb:Below B w w')(hB:w.heap.size<=B):bL w' ao cap l:=⟨h.sl.keep hb hB,fun x hx=>(h.good x hx).keep hb hB⟩
theorem bL.call {w w':World}{ao:Option Addr}{cap:Nat}{l:List Lr}(h:bL w ao cap l)(hb:Below w.heap.size w w'):bL w' ao cap l:=h.keep hb (Nat.le_refl _)
theorem bL.alloc {w:World}{ao:Option Addr}{cap:Nat}{l:List Lr}(h:bL w ao cap l)(o:Obj):bL (w.alloc o) ao cap l:=⟨h.sl.alloc o,fun x hx=>(h.good x hx).alloc o⟩
theorem bL.ofNil (w:World):bL w none 0 []:=⟨be.ofNil _ w,fun x hx=>by simp at hx⟩
theorem bL.at {w:World}{b off cap:Nat}{l:List Lr}(h:bL w (some ⟨b,off,none⟩) cap l)(i:Nat)(r:Lr)(hr:l[i]? =some r):
  w.cell? ⟨b,off+i*2,none⟩=some (.slice r.ba r.bs.length r.bc)/\w.cell? ⟨b,off+i*2+1,none⟩=some (.slice r.ha r.hd.length r.hc)/\r.Good w:=
 ⟨h.sl.cell Lr.two i 0 r _ hr rfl,h.sl.cell Lr.two i 1 r _ hr rfl,h.good r (List.mem_of_getElem? hr)⟩
theorem bL.where {w:World}{ao:Option Addr}{cap:Nat}{l:List Lr}(h:bL w ao cap l)(aF:l≠[]):∃b off,ao=some ⟨b,off,none⟩/\b<w.heap.size:=h.sl.where Lr.two (by decide) aF
structure Rw where
 blocks:List Bk
 head:List Pt
def Lr.rw (r:Lr):Rw:=⟨r.bs.map Lb.b,r.hd⟩
def ef:List Bk->List Bk->Bool
 | [],[]=>true
 |x::r,y::s=>mJ x y&&ef r s
 |_,_=>false
def ke (x y:Rw):Bool:=ef x.blocks y.blocks&&decide (x.head=y.head)
def bp:List Rw->List Rw->Bool
 | [],[]=>true
 |x::r,y::s=>ke x y&&bp r s
 |_,_=>false
theorem KY {a b:Bk}(h:mJ a b=true):a=b:=by
 obtain⟨an,af,aT,ab⟩:=a
 obtain⟨bn,bf,bT,bb⟩:=b
 simp only[mJ,Bool.and_eq_true,decide_eq_true_eq] at h
 obtain⟨⟨⟨rfl,rfl⟩,rfl⟩,rfl⟩:=h
 rfl
theorem uh:∀l:List Bk,ef l l=true
 | []=>rfl
 |x::r=>by rw[ef,F0,uh r];rfl
theorem CE (x:Rw):ke x x=true:=by rw[ke,uh];simp
theorem kc:∀l:List Rw,bp l l=true
 | []=>rfl
 |x::r=>by rw[bp,CE,kc r];rfl
open Go.RowKit Go.ChangeShapes Go.WideShapes Go.ChangeAt Go.Joins
theorem Uh {α:Type}{cs:List α}(h:cs.length=2):∃c0 c1,cs=[c0,c1]:=by
 match cs,h with
 | [c0,c1],_=>exact⟨c0,c1,rfl⟩
theorem Ub {α:Type}{cs:List α}(h:cs.length=4):∃c0 c1 c2 c3,cs=[c0,c1,c2,c3]:=by
 match cs,h with
 | [c0,c1,c2,c3],_=>exact⟨c0,c1,c2,c3,rfl⟩
theorem tJ:Tryz.prog.cellsOf 4=1:=by kernel_rfl
theorem AD:Tryz.prog.cellsOf 107=4:=by kernel_rfl
theorem Ev:Tryz.prog.cellsOf 53=2:=by kernel_rfl
theorem FM:Tryz.prog.cellsOf 3=1:=by kernel_rfl
theorem Aq:Tryz.prog.cellsOf 105=1:=by kernel_rfl
theorem yQ:Tryz.prog.cellsOf 51=1:=by kernel_rfl
theorem yR:Tryz.prog.cellsOf 42=1:=by kernel_rfl
theorem Oh {H:Type}{enc:TypeId × Value->H}{W:World}(cs:List Value)(x:DataW H × List MemPlace)(m:Nat)(hl:cs.length=4)(h:DataW.trod enc Tryz.prog W 0 (fun _=>true) true m 107 cs=some x)(hw:iT 107 x.1):
  ∃y:Lb,cs=y.cells/\y.Good W:=by
 obtain⟨c0,c1,c2,c3,rfl⟩:=Ub hl
 obtain⟨y0,y1,y2,y3,n,rfl,_,h0,h1,h2,h3⟩:=trod_struct4 Tryz.underlying107 h
 simp only[FM,Aq,List.drop_zero,List.drop_succ_cons,List.take_succ_cons,List.take_zero] at h0 h1 h2 h3
 obtain⟨a0,e0,rfl,w0⟩:=DataW.trod_int Tryz.underlying3 h0
 obtain⟨a1,e1,rfl,w1⟩:=DataW.trod_int Tryz.underlying3 h1
 obtain⟨a2,e2,rfl,w2⟩:=DataW.trod_int Tryz.underlying3 h2
 obtain⟨ao,k,cap,e3⟩:=slice_form Tryz.underlying105 h3
 simp at e0 e1 e2 e3
 subst e0 e1 e2 e3
 obtain⟨l,rfl,s,dd⟩:=open_bools (ao:=ao) (n:=k) (cap:=cap) Tryz.underlying105 Tryz.underlying4 tJ ⟨n,h3⟩
 refine⟨⟨⟨a0,a1,a2,l⟩,ao,cap⟩,rfl,s,?_⟩
 have fE:=s.le
 rw[List.length_map] at fE
 have:cap<=140737488351232:=by
  rcases dd with dd| ⟨el,sp,e,hc⟩
  .omega
  have:=hw ((el.length+sp.length)*Tryz.prog.bytesOf 4) (by
   simp only[e,DataW.weights,Tryz.underlying107,DataW.weightsEach,List.map_cons,List.map_nil,Tryz.underlying105]
   simp)
  rw[show Tryz.prog.bytesOf 4=1 by kernel_rfl] at this
  omega
 show l.length<=_
 omega
theorem Ns {H:Type}{enc:TypeId × Value->H}{W:World}(cs:List Value)(x:DataW H × List MemPlace)(m:Nat)(hl:cs.length=2)(h:DataW.trod enc Tryz.prog W 0 (fun _=>true) true m 53 cs=some x)(hw:iT 53 x.1):
  ∃r:Lr,cs=r.cells/\r.Good W:=by
 obtain⟨c0,c1,rfl⟩:=Uh hl
 obtain⟨y0,y1,n,rfl,_,h0,h1⟩:=trod_struct2 Tryz.underlying53 h
 simp only[yQ,yR,List.drop_zero,List.drop_succ_cons,List.take_succ_cons,List.take_zero] at h0 h1
 obtain⟨ab,nb,cb,e0⟩:=slice_form Tryz.underlying51 h0
 obtain⟨ah,nh,ch,e1⟩:=slice_form Tryz.underlying42 h1
 simp at e0 e1
 subst e0 e1
 have w0:iT 51 y0.1:=fun z hz=>hw z (by simp only[DataW.weights,Tryz.underlying53,DataW.weightsEach,List.map_cons,List.map_nil];exact List.mem_append_left _ hz)
 have w1:iT 42 y1.1:=fun z hz=>hw z (by simp only[DataW.weights,Tryz.underlying53,DataW.weightsEach,List.map_cons,List.map_nil];exact List.mem_append_right _ (List.mem_append_left _ hz))
 obtain⟨bs,rfl,sb,gb,rb⟩:=ky (ao:=ab) (n:=nb) (cap:=cb) Lb.cells (fun y=>y.Good W) Tryz.underlying51 AD (by decide) Lb.four (fun cs x m=>Oh cs x m) h0 w0
 obtain⟨hd,rfl,sh,_,dd⟩:=DE (ao:=ah) (n:=nh) (cap:=ch) Tryz.underlying42 Tryz.underlying56 (by kernel_rfl) rfl rfl (by kernel_rfl) (by kernel_rfl) Tryz.underlying3 Tryz.underlying3 ⟨n,h1⟩
 refine⟨⟨bs,ab,cb,hd,ah,ch⟩,rfl,⟨sb,gb⟩,sh,?_,?_⟩
 .have:=sb.le
  rw[show Tryz.prog.bytesOf 107=48 by kernel_rfl] at rb
  show bs.length<=_
  omega
 have:=sh.le
 have hc:ch*16<=140737488351232:=by
  rcases dd with dd| ⟨el,sp,e,hc⟩
  .omega
  have:=w1 ((el.length+sp.length)*Tryz.prog.bytesOf 56) (by rw[e];simp only[DataW.weights,Tryz.underlying42];exact List.mem_cons_self ..)
  rw[show Tryz.prog.bytesOf 56=16 by kernel_rfl] at this
  omega
 show hd.length<=_
 omega
structure En where
 s:Int
 t:Int
 v:Int
def En.cells (x:En):List Value:=[.int .i64 x.s,.int .i64 x.t,.int .i64 x.v]
theorem En.three (x:En):x.cells.length=3:=rfl
abbrev Nt:=Int × Int × Int
structure Rc where
 k:Int
 s:Int
 n:Int
 e:List Nt
def gT (x:Nt):Bool:=decide (0<=x.1/\x.1<4/\0<=x.2.1/\x.2.1<=100000/\-1000000<=x.2.2/\x.2.2<=1000000)
def aP (r:Rc):Int:=
 if r.k=1 then(if r.s≠0\/r.n≠0 then 4 else if 10<r.e.length then 2 else if r.e.all gT then 0 else 3)
 else if r.k=2\/r.k=3\/r.k=4 then(if r.e≠[]\/(r.k=4/\r.s≠0) then 4 else if 0<=r.s/\r.s<4/\0<=r.n/\r.n<=100001 then 0 else 3)
 else 4
def fS:List UInt8:=[98,97,116,99,104]
def jm:List UInt8:=[115,101,97,108]
def f':List UInt8:=[109,101,114,103,101]
def jo:List UInt8:=[100,114,111,112]
def cV (l:List Int):List UInt8:=l.flatMap (fun n=>32::Lib.itoa n)
def dI (l:List Nt):List Int:=l.flatMap (fun x=>[x.1,x.2.1,x.2.2])
def bY (r:Rc):List UInt8:=
 if aP r=0 then(if r.k=1 then fS++cV (dI r.e) else if r.k=2 then jm++cV [r.s,r.n] else if r.k=3 then f'++cV [r.s,r.n] else jo++cV [r.n]) else []
theorem Fa (l:List Int)(n:Int):cV (l++[n])=cV l++32::Lib.itoa n:=by
 unfold cV
 rw[List.flatMap_append]
 simp
theorem EN (n:Int)(h0:-9223372036854775808<=n)(h1:n<=9223372036854775807):(Lib.itoa n).length<=21:=Lib.itoa_length_le n h0 h1
theorem jg:∀(l:List Int),(∀n∈l,-9223372036854775808<=n/\n<=9223372036854775807)->(cV l).length<=l.length*22
 | [],_=>Nat.le_refl _
 |n::r,h=>by
  have h1:=EN n (h n List.mem_cons_self).1 (h n List.mem_cons_self).2
  have ih:=jg r (fun m hm=>h m (List.mem_cons_of_mem _ hm))
  unfold cV at ih⊢
  rw[List.flatMap_cons,List.length_append,List.length_cons,List.length_cons,Nat.succ_mul]
  omega
def ec (x:Nt):List Value:=[.int .i64 x.1,.int .i64 x.2.1,.int .i64 x.2.2]
theorem dq (x:Nt):(ec x).length=3:=rfl
theorem mH (n:Int)(w:World):
  Calls Tryz.prog 180 #[.int .i64 n] w fun e w'=>e=.returned (.bool (decide (0<=n/\n<4)))/\w'=w:=by
 by_cases h0:0<=n
 .by_cases h1:n<4
  .rw[decide_eq_true (⟨h0,h1⟩:0<=n/\n<4)]
   go_enter Tryz.func180,Tryz.ntmps180
   go_wp2
   go_ret
   exact⟨rfl,rfl⟩
  rw[decide_eq_false (by omega:¬(0<=n/\n<4))]
  go_enter Tryz.func180,Tryz.ntmps180
  go_wp2
  go_ret
  exact⟨rfl,rfl⟩
 rw[decide_eq_false (by omega:¬(0<=n/\n<4))]
 go_enter Tryz.func180,Tryz.ntmps180
 go_wp2
 go_ret
 exact⟨rfl,rfl⟩
theorem xK (t v:Int):aH [(t,v)]=if 0<=t/\t<=100000/\-1000000<=v/\v<=1000000 then 0 else 3:=by
 unfold aH fp fp ft
 by_cases h:0<=t/\t<=100000/\-1000000<=v/\v<=1000000
 .rw[if_pos h,if_neg (by simp),if_neg (by simp;omega),if_neg (by simp;omega)]
 rw[if_neg h,if_neg (by simp),if_pos (by simp;omega)]
theorem Qi (w:World)(t v:Int)(T:TypeId):aV (w.alloc (.cells #[.int .i64 t,.int .i64 v] T)) (some ⟨w.heap.size,0,none⟩) 1 [(t,v)]:=by
 have B:=ag.laid w [.int .i64 t,.int .i64 v] T _ rfl
 refine⟨.inr ⟨_,_,rfl,B.lt,fun j u hu=>?_⟩,by simp,by decide,fun h=>by cases h⟩
 match j,hu with
 |0,hu=>simp[ar] at hu;subst hu;exact B.cell 0
 |1,hu=>simp[ar] at hu;subst hu;exact B.cell 1
 |j+2,hu=>simp[ar] at hu
theorem newB {w W:World}(h:Below w.heap.size w W)(o:Obj):Below w.heap.size w (W.alloc o):=h.alloc h.size o
theorem LQ (t v:Int)(w:World)(T:TypeId):
  Calls Tryz.prog 175 #[.slice (some ⟨w.heap.size,0,none⟩) 1 1] (w.alloc (.cells #[.int .i64 t,.int .i64 v] T)) fun e w'=>e=.returned (.int .i64 (aH [(t,v)]))/\Below w.heap.size w w':=by
 refine(mU (some ⟨w.heap.size,0,none⟩) 1 [(t,v)] _ (Qi w t v T)).mono ?_
 rintro e w' ⟨rfl,b⟩
 exact⟨rfl,ac (newB (Below.refl _ _) _) b⟩
theorem Ix (l:List Nt)(a:Option Addr)(cap n:Nat)(w:World)(S:be ec w a cap l)(hn:n=l.length)(few:n<=10):
  Calls Tryz.prog 148 #[.agg #[.int .i64 1,.int .i64 0,.int .i64 0,.slice a n cap]] w fun e w'=>e=.returned (.int .i64 (if l.all gT then 0 else 3))/\Below w.heap.size w w':=by
 obtain⟨E,hE⟩:∃E:Int,E=if l.all gT then 0 else 3:=⟨_,rfl⟩
 rw[<-hE]
 replace hE:=aa hE
 replace hn:=aa hn
 have bel:Below w.heap.size w (w.alloc (.cells #[.int .i64 1,.int .i64 0,.int .i64 0,.slice a n cap] 73)):=(Below.refl _ _).alloc (Nat.le_refl _) _
 have B0:=ag.laid w [.int .i64 1,.int .i64 0,.int .i64 0,.slice a n cap] 73 _ rfl
 have qj:¬(10:Int)<n:=by omega
 go_enter Tryz.func148,Tryz.ntmps148
 go_wp2_with fail
 generalize w.alloc _=w1 at*
 go_loopw [21] (fun i wr=>∃(k:Nat),k<=n/\i=.int .i64 k/\Hid ((l.take k).all gT=true)/\Below w.heap.size w wr) (fun i _=>n-(intOf i).toNat)
 case atStart=>exact⟨0,Nat.zero_le _,rfl,aa (by simp),bel⟩
 case round=>
  clear bel
  obtain⟨k,hk,rfl,hA,bel⟩:=hrel
  by_cases aE:k<n
  .have dy:k<l.length:=by rw[<-hn.out];exact aE
   obtain⟨b1,o1,rfl,Mw⟩:=S.where dq (by decide) (by intro h;subst h;simp at dy)
   obtain⟨x,hx⟩:∃x,l[k]? =some x:=⟨_,List.getElem?_eq_getElem dy⟩
   have s1:=S.keep bel (Nat.le_refl _)
   have d0:=s1.cell dq k 0 x _ hx rfl
   have d1:=s1.cell dq k 1 x _ hx rfl
   have d2:=s1.cell dq k 2 x _ hx rfl
   simp only[Nat.add_zero] at d0
   have uJ:gT x=false->E=3:=by
    intro h
    rw[hE.out,if_neg]
    intro aU
    have:=List.all_eq_true.1 aU x (List.mem_of_getElem? hx)
    rw[h] at this
    cases this
   have r9:gT x=true->Hid ((l.take (k+1)).all gT=true):=by
    intro h
    rw[List.take_add_one,hx,List.all_append,hA.out]
    simpa[Hid] using h
   obtain⟨xs,xt,xv⟩:=x
   simp only at*
   replace hx:=aa hx
   clear s1 dy
   by_cases hs:0<=xs/\xs<4
   .have c1:=fun W=>mH xs W
    rw[decide_eq_true hs] at c1
    have c2:=fun W=>LQ xt xv W 56
    by_cases hp:0<=xt/\xt<=100000/\-1000000<=xv/\xv<=1000000
    .have uK:gT (xs,xt,xv)=true:=decide_eq_true ⟨hs.1,hs.2,hp⟩
     simp only[xK,if_pos hp] at c2
     go_wp2_with fail
     go_at_call 180
     refine(c1 _).mono ?_
     rintro e w2 ⟨rfl,rfl⟩
     have BX:=ag.laid wr [.int .i64 xs,.int .i64 xt,.int .i64 xv] 75 _ rfl
     have bX:=newB bel (.cells #[.int .i64 xs,.int .i64 xt,.int .i64 xv] 75)
     generalize wr.alloc _=w2 at*
     have z1:w2.cell? ⟨wr.heap.size,1,none⟩=some (.int .i64 xt):=BX.cell 1
     have z2:w2.cell? ⟨wr.heap.size,2,none⟩=some (.int .i64 xv):=BX.cell 2
     have lX:=BX.lt
     clear c1
     go_wp2_with fail
     go_at_call 175
     refine(c2 _).mono ?_
     rintro e w3 ⟨rfl,b3⟩
     have aC:=ac bX b3
     go_wp2_with fail
     go_roundw
     case rel=>exact⟨k+1,by omega,by go_num,r9 uK,aC⟩
     case measure=>simp[intOf];omega
    have uK:gT (xs,xt,xv)=false:=decide_eq_false (by rintro⟨_,_,h⟩;exact hp h)
    simp only[xK,if_neg hp] at c2
    obtain rfl:=uJ uK
    go_wp2_with fail
    go_at_call 180
    refine(c1 _).mono ?_
    rintro e w2 ⟨rfl,rfl⟩
    have BX:=ag.laid wr [.int .i64 xs,.int .i64 xt,.int .i64 xv] 75 _ rfl
    have bX:=newB bel (.cells #[.int .i64 xs,.int .i64 xt,.int .i64 xv] 75)
    generalize wr.alloc _=w2 at*
    have z1:w2.cell? ⟨wr.heap.size,1,none⟩=some (.int .i64 xt):=BX.cell 1
    have z2:w2.cell? ⟨wr.heap.size,2,none⟩=some (.int .i64 xv):=BX.cell 2
    have lX:=BX.lt
    clear c1
    go_wp2_with fail
    go_at_call 175
    refine(c2 _).mono ?_
    rintro e w3 ⟨rfl,b3⟩
    have aC:=ac bX b3
    go_wp2_with fail
    go_ret
    exact⟨rfl,aC⟩
   have c1:=fun W=>mH xs W
   rw[decide_eq_false hs] at c1
   have uK:gT (xs,xt,xv)=false:=decide_eq_false (by rintro⟨h1,h2,_⟩;exact hs ⟨h1,h2⟩)
   obtain rfl:=uJ uK
   go_wp2_with fail
   go_at_call 180
   refine(c1 _).mono ?_
   rintro e w2 ⟨rfl,rfl⟩
   go_wp2_with fail
   go_ret
   exact⟨rfl,newB bel _⟩
  obtain rfl:n=k:=by omega
  have e0:E=0:=by
   rw[hE.out,if_pos]
   have:=hA.out
   rw[List.take_of_length_le (by rw[<-hn.out];exact Nat.le_refl _)] at this
   exact this
  subst e0
  go_wp2_with fail
  go_ret
  exact⟨rfl,bel⟩
theorem AF:Tryz.prog.cellsOf 3=1:=by kernel_rfl
theorem LY {α:Type}{l:List α}(h:l.length=3):∃a b c,l=[a,b,c]:=by
 match l,h with
 | [a,b,c],_=>exact⟨a,b,c,rfl⟩
theorem sU {H:Type}{ts:List TypeId}{ds:List (DataW H)}{j:Nat}{t:TypeId}{d:DataW H}(dW:(DataW.weightsEach Tryz.prog ts ds).all (·<=reachBytes)=true)(ht:ts[j]? =some t)(hd:ds[j]? =some d):iT t d:=by
 intro n hn
 have h:=of_decide_eq_true (List.all_eq_true.1 dW _ (DataW.weights_mem_each ht hd n hn))
 unfold reachBytes at h
 exact h
theorem NR {H:Type}{enc:TypeId × Value->H}{W:World}(cs:List Value)(x:DataW H × List MemPlace)(m:Nat)(hl:cs.length=3)(h:DataW.trod enc Tryz.prog W 0 (fun _=>true) true m 75 cs=some x)(_:iT 75 x.1):
  ∃y:Nt,cs=ec y/\True:=by
 obtain⟨c0,c1,c2,rfl⟩:=LY hl
 obtain⟨y0,y1,y2,n,rfl,_,h0,h1,h2⟩:=Go.Deep.trod_struct3 Tryz.underlying75 h
 simp only[AF,List.drop_zero,List.drop_succ_cons,List.take_succ_cons,List.take_zero] at h0 h1 h2
 obtain⟨a0,e0,rfl,w0⟩:=DataW.trod_int Tryz.underlying3 h0
 obtain⟨a1,e1,rfl,w1⟩:=DataW.trod_int Tryz.underlying3 h1
 obtain⟨a2,e2,rfl,w2⟩:=DataW.trod_int Tryz.underlying3 h2
 simp at e0 e1 e2
 subst e0 e1 e2
 exact⟨(a0,a1,a2),rfl,trivial⟩
end Go.Proofs.YtoonnbhoiocoeaaGreatDoor
