/-
  Blocks as plain lists and numbers: what a list of points is as a block (dx, fk), the points of a block (aX, bI), two merged (eS, eG); and that they agree with one another. No program is named.
-/
import Derived.Deep.Slices
import Derived.Lib.SmallJoins
import Derived.Lib.ItoaNum
import Derived.Lib.ItoaLen
import Derived.Lib.AtoiAll
import Derived.Test.YtoonnbhoiocoeaaGreatDoorP03
import Derived.Test.YtoonnbhoiocoeaaGreatDoorP01
import Derived.Test.YtoonnbhoiocoeaaGreatDoorP02
set_option maxHeartbeats 40000000
set_option maxRecDepth 100000
set_option linter.unusedVariables false
namespace Go.Proofs.YtoonnbhoiocoeaaGreatDoor
open Go.RowKit
structure Bk where
 n:Int
 fr:Int
 «to»:Int
 bits:List Bool
def vM:Bk:=⟨0,0,0,[]⟩
def ep (b:Bk)(ao:Option Addr)(cap:Nat):Value:=.agg #[.int .i64 b.n,.int .i64 b.fr,.int .i64 b.to,.slice ao b.bits.length cap]
def firstT (l:List Pt):Int:=(l.getD 0 (0,0)).1
def k6 (l:List Pt):Int:=(l.getD (l.length-1) (0,0)).1
def fk (l:List Pt):Int:=if aJ l=0 then(if l.length=0 then 4 else 0) else aJ l
def dx (l:List Pt):Bk:=if fk l=0 then⟨l.length,firstT l,k6 l,eg l⟩ else vM
def kc (b:Bk)(l:List Pt):Bool:=decide (0<l.length/\b.fr=firstT l/\b.to=k6 l)
def bI (b:Bk):Int:=if fO b.bits b.n=0 then(if kc b (dJ b.bits b.n)=true then 0 else 4) else fO b.bits b.n
def aX (b:Bk):List Pt:=if bI b=0 then dJ b.bits b.n else []
def eG (a b:Bk):Int:=if bI a=0 then(if bI b=0 then fk (aX a++aX b) else bI b) else bI a
def eS (a b:Bk):Bk:=if bI a=0/\bI b=0 then dx (aX a++aX b) else vM
def mP (a b:Bk):Bool:=decide (a.n=b.n)&&decide (a.fr=b.fr)&&decide (a.to=b.to)&&decide (a.bits=b.bits)
theorem DH (b:Bk):mP b b=true:=by simp[mP]
theorem iY (b:Bk):(aX b).length<=40:=by
 unfold aX
 split
 .exact pr _ _
 .simp
theorem qe (l:List Pt):(dx l).bits.length<=2560:=by
 unfold dx
 split
 .exact za l
 .simp[vM]
theorem sS (a b:Bk):(eS a b).bits.length<=2560:=by
 unfold eS
 split
 .exact qe _
 .simp[vM]
theorem uZ {l:List Pt}(h:aJ l=0)(hl:0<l.length):fk l=0:=by
 unfold fk
 rw[if_pos h,if_neg (by omega)]
theorem qR {l:List Pt}(h:aJ l=0)(hl:0<l.length):dx l=⟨l.length,firstT l,k6 l,eg l⟩:=by
 unfold dx
 rw[if_pos (uZ h hl)]
theorem zV {l:List Pt}(h:aJ l=0)(hl:0<l.length):bI (dx l)=0/\aX (dx l)=l:=by
 obtain⟨h1,h2⟩:=CL h
 have he:bI (dx l)=0:=by
  unfold bI
  rw[qR h hl]
  simp only[h1,h2]
  have hf:kc ⟨l.length,firstT l,k6 l,eg l⟩ l=true:=decide_eq_true ⟨hl,rfl,rfl⟩
  rw[if_pos trivial,if_pos hf]
 refine⟨he,?_⟩
 unfold aX
 rw[if_pos he,qR h hl]
 exact h1
theorem Ki:∀(l:List Pt) (a b:Int),b<=a->fs a l=0->fs b l=0
 | [],_,_,_,_=>rfl
 |p::r,a,b,Ve,h=>by
  obtain⟨h1,h2,h3⟩:=jC h
  unfold fs
  rw[if_neg (by rw[h1];decide),if_neg (by omega)]
  exact h3
theorem Ab:∀(l:List Pt) (a:Int),fs a l=0->a<=lastT a l
 | [],a,_=>Int.le_refl a
 |p::r,a,h=>by
  obtain⟨_,h2,h3⟩:=jC h
  have:=Ab r p.1 h3
  show a<=lastT p.1 r
  omega
theorem mZ {l:List Pt}(h:aJ l=0)(k:Nat):aJ (l.drop k)=0:=by
 obtain⟨lT,hc⟩:=eU h
 unfold aJ
 rw[if_neg (by rw[List.length_drop];omega)]
 rw[<-List.take_append_drop k l,kv] at hc
 split at hc
 .rename_i h0
  exact Ki _ _ _ (Ab _ _ h0) hc
 .exact absurd hc (by assumption)
end Go.Proofs.YtoonnbhoiocoeaaGreatDoor
namespace Go.Proofs.YtoonnbhoiocoeaaGreatDoor
open Go.RowKit Go.ChangeShapes Go.WideShapes Go.ChangeAt
theorem ar {α:Type}{f:α->List Value}{k:Nat}(hf:∀x,(f x).length=k):∀l:List α,(l.flatMap f).length=l.length*k
 | []=>by simp
 |x::r=>by
  rw[List.flatMap_cons,List.length_append,hf,ar hf r,List.length_cons,Nat.succ_mul]
  omega
theorem flat_get {α:Type}{f:α->List Value}{k:Nat}(hf:∀x,(f x).length=k):∀(l:List α) (i j:Nat) (x:α),l[i]? =some x->j<k->(l.flatMap f)[i*k+j]? =(f x)[j]?
 | [],i,j,x,h,_=>by simp at h
 |y::r,0,j,x,h,hj=>by
  simp at h
  subst h
  rw[Nat.zero_mul,Nat.zero_add,List.flatMap_cons,List.getElem?_append_left (by rw[hf];exact hj)]
 |y::r,i+1,j,x,h,hj=>by
  have ih:=flat_get hf r i j x (by simpa using h) hj
  rw[List.flatMap_cons,List.getElem?_append_right (by rw[hf,Nat.succ_mul];omega),hf,Nat.succ_mul,show i*k+k+j-k=i*k+j by omega]
  exact ih
theorem oW {α:Type}{f:α->List Value}{k:Nat}(hf:∀x,(f x).length=k):∀(l:List α) (i:Nat),(l.flatMap f).take (i*k)=(l.take i).flatMap f
 |l,0=>by simp
 | [],i+1=>by simp
 |x::r,i+1=>by
  have ih:=oW hf r i
  rw[List.flatMap_cons,List.take_succ_cons,List.flatMap_cons,<-ih,List.take_append,hf,Nat.succ_mul,List.take_of_length_le (by rw[hf];omega),show i*k+k-k=i*k by omega]
theorem mv {α:Type}{f:α->List Value}{k:Nat}(hf:∀x,(f x).length=k):∀(l:List α) (i:Nat),(l.flatMap f).drop (i*k)=(l.drop i).flatMap f
 |l,0=>by simp
 | [],i+1=>by simp
 |x::r,i+1=>by
  have ih:=mv hf r i
  rw[List.flatMap_cons,List.drop_succ_cons,<-ih,List.drop_append,hf,Nat.succ_mul,List.drop_eq_nil_of_le (by rw[hf];omega),List.nil_append,show i*k+k-k=i*k by omega]
structure aY {α:Type}(f:α->List Value)(w:World)(ao:Option Addr)(cap:Nat)(l:List α):Prop where
 row:Row w ao (l.flatMap f)
 le:l.length<=cap
 max:cap<=9223372036854775807
 nil:ao=none->cap=0
theorem aY.keep {α:Type}{f:α->List Value}{w w':World}{ao:Option Addr}{cap:Nat}{l:List α}{B:Nat}(h:aY f w ao cap l)(hb:Below B w w')(hB:w.heap.size<=B):aY f w' ao cap l:=
 ⟨h.row.keep hb hB,h.le,h.max,h.nil⟩
theorem aY.call {α:Type}{f:α->List Value}{w w':World}{ao:Option Addr}{cap:Nat}{l:List α}(h:aY f w ao cap l)(hb:Below w.heap.size w w'):aY f w' ao cap l:=h.keep hb (Nat.le_refl _)
theorem aY.alloc {α:Type}{f:α->List Value}{w:World}{ao:Option Addr}{cap:Nat}{l:List α}(h:aY f w ao cap l)(o:Obj):aY f (w.alloc o) ao cap l:=
 ⟨h.row.alloc o,h.le,h.max,h.nil⟩
theorem aY.ofNil {α:Type}(f:α->List Value)(w:World):aY f w none 0 []:=⟨.inl rfl,Nat.le_refl _,by decide,fun _=>rfl⟩
theorem Nq {α:Type}{f:α->List Value}{k:Nat}(hf:∀x,(f x).length=k)(hk:0<k){l:List α}(h:l≠[]):l.flatMap f≠[]:=by
 intro e
 have h1:=ar hf l
 rw[e] at h1
 have h2:0<l.length:=List.length_pos_iff.2 h
 have:=Nat.mul_pos h2 hk
 rw[<-h1] at this
 exact Nat.lt_irrefl _ this
theorem aY.where {α:Type}{f:α->List Value}{k:Nat}(hf:∀x,(f x).length=k)(hk:0<k){w:World}{ao:Option Addr}{cap:Nat}{l:List α}(h:aY f w ao cap l)(aF:l≠[]):∃b off,ao=some ⟨b,off,none⟩/\b<w.heap.size:=by
 obtain⟨b,off,e,hb,_⟩:=h.row.at (Nq hf hk aF)
 exact⟨b,off,e,hb⟩
theorem aY.cell {α:Type}{f:α->List Value}{k:Nat}(hf:∀x,(f x).length=k){w:World}{b off cap:Nat}{l:List α}(h:aY f w (some ⟨b,off,none⟩) cap l)(i j:Nat)(x:α)(v:Value)(hx:l[i]? =some x)(hj:(f x)[j]? =some v):
  w.cell? ⟨b,off+i*k+j,none⟩=some v:=by
 have Hb:j<k:=by rw[<-hf x];exact(List.getElem?_eq_some_iff.1 hj).1
 have hg:=flat_get hf l i j x hx Hb
 rw[hj] at hg
 obtain⟨b',k8,e,_,hc⟩:=h.row.at (by intro e;rw[e] at hg;simp at hg)
 simp only[Option.some.injEq,Addr.mk.injEq,and_true] at e
 obtain⟨rfl,rfl⟩:=e
 rw[Nat.add_assoc]
 exact hc _ _ hg
theorem aY.front {α:Type}{f:α->List Value}{k:Nat}(hf:∀x,(f x).length=k){w:World}{ao:Option Addr}{cap:Nat}{l:List α}(h:aY f w ao cap l)(i:Nat):aY f w ao cap (l.take i):=by
 refine⟨?_,by have:=h.le;rw[List.length_take];omega,h.max,h.nil⟩
 rcases h.row with h0| ⟨b,off,e,hb,hc⟩
 .left;rw[<-oW hf,h0];simp
 .right
  refine⟨b,off,e,hb,fun m v hv=>hc m v ?_⟩
  rw[<-oW hf,List.getElem?_take] at hv
  split at hv
  .exact hv
  .cases hv
theorem aY.part {α:Type}{f:α->List Value}{k:Nat}(hf:∀x,(f x).length=k){w:World}{ao:Option Addr}{cap:Nat}{l:List α}(h:aY f w ao cap l)(p q:Nat)(RB:p<=q)(hq:q<=l.length):aY f w (if cap=p then ao else Option.map (fun x=>x.add (p*k)) ao) (cap-p) ((l.take q).drop p):=by
 have fF:=h.le
 have aw:((l.take q).drop p).length=q-p:=by rw[List.length_drop,List.length_take];omega
 refine⟨?_,by rw[aw];omega,by have:=h.max;omega,?_⟩
 .rcases(h.front hf q).row with h0| ⟨b,off,rfl,hb,hc⟩
  .left
   rw[<-mv hf,h0]
   simp
  .by_cases he:p=q
   .left
    have e:(l.take q).drop p=[]:=List.eq_nil_of_length_eq_zero (by rw[aw];omega)
    rw[e]
    rfl
   .right
    rw[if_neg (by omega)]
    refine⟨b,off+p*k,by rw[Option.map_some,Addr.add_lit],hb,fun i v hv=>?_⟩
    rw[<-mv hf,List.getElem?_drop] at hv
    rw[Nat.add_assoc]
    exact hc _ _ hv
 .intro e
  by_cases hc:cap=p
  .omega
  .rw[if_neg hc] at e
   have:=h.nil (by simpa using e)
   omega
theorem aY.ofOwn {α:Type}{f:α->List Value}{k:Nat}(hf:∀x,(f x).length=k)(hk:0<k){w:World}{base:Nat}{e:TypeId}{n:Nat}{v:Value}{l:List α}(h:w.ownsRow base e k v n (l.flatMap f)):∃ao cap,v=.slice ao n cap/\aY f w ao cap l/\l.length=n/\∀g,g<base->Off g ao:=by
 have hl:l.length=n:=by have:=h.1;rw[ar hf] at this;exact Nat.eq_of_mul_eq_mul_right hk this
 rcases h.2 with⟨rfl,rfl⟩| ⟨g,cap,cur,rfl,Te,hh,G0,rW,i',vY⟩
 .obtain rfl:=List.eq_nil_of_length_eq_zero hl
  exact⟨none,0,rfl,aY.ofNil f w,rfl,fun _ _=>Off.nil _⟩
 .refine⟨_,_,rfl,⟨.inr ⟨g,0,rfl,(Array.getElem?_eq_some_iff.1 hh).1,fun i u hu=>?_⟩,by omega,by unfold maxLen at rW;exact rW,fun e=>by cases e⟩,hl,fun g' rt ad e=>by cases e;show g≠g';omega⟩
  rw[Nat.zero_add,h.cellAt i (by have:=(List.getElem?_eq_some_iff.1 hu).1;rw[ar hf,hl] at this;exact this)]
  exact hu
def ir {H:Type}(t:TypeId)(d:DataW H):Prop:=∀n∈d.weights Tryz.prog t,n<=140737488351232
theorem ot {H:Type}{e:TypeId}{d:DataW H} :∀ {l:List (DataW H)},d∈l->∀n∈d.weights Tryz.prog e,n∈DataW.weightsAll Tryz.prog e l
 | [],h,_,_=>by simp at h
 |x::r,h,n,hn=>by
  simp only[DataW.weightsAll,List.mem_append]
  rcases List.mem_cons.1 h with rfl|h
  .exact .inl hn
  .exact .inr (ot h n hn)
theorem jx {H:Type}{enc:TypeId × Value->H}{W:World}{t e:TypeId}{k:Nat}{α:Type}(f:α->List Value)(Q:α->Prop){ao:Option Addr}{n cap fuel:Nat}{d:DataW H}{ps:List MemPlace}
  (ht:Tryz.prog.underlying t=some (.slice e)) (ce:Tryz.prog.cellsOf e=k) (hk:0<k) (hf:∀x,(f x).length=k)
  (each:∀cs x m,cs.length=k->DataW.trod enc Tryz.prog W 0 (fun _=>true) true m e cs=some x->ir e x.1->∃y:α,cs=f y/\Q y)
  (h:DataW.trod enc Tryz.prog W 0 (fun _=>true) true fuel t [.slice ao n cap]=some (d,ps)) (hw:ir t d):
  ∃l:List α,l.length=n/\aY f W ao cap l/\(∀y∈l,Q y)/\cap*Tryz.prog.bytesOf e<=140737488351232:=by
 rcases Go.Deep.open_slice ht h with⟨i',_⟩| ⟨a,len,cp,m,fu,D,Pl,i',_,hl,hm,j8,hx,hel⟩
 .simp at i'
  obtain⟨rfl,rfl,rfl⟩:=i'
  exact⟨[],rfl,aY.ofNil f W,fun y hy=>by simp at hy,by simp⟩
 .simp at i'
  obtain⟨rfl,rfl,rfl⟩:=i'
  simp only[if_true] at j8
  subst j8
  simp only[Prod.mk.injEq] at hx
  have Iy:m*Tryz.prog.bytesOf e<=140737488351232:=by
   have:=hw ((((List.range n).map D).length+((List.range (m-n)).map fun j=>D (n+j)).length)*Tryz.prog.bytesOf e) (by rw[hx.1];simp only[DataW.weights,ht];exact List.mem_cons_self ..)
   rw[List.length_map,List.length_map,List.length_range,List.length_range,show n+(m-n)=m by omega] at this
   exact this
  have key:∀i,i<n->∃y:α,(∀j v,(f y)[j]? =some v->W.cell? ((a.add (i*k)).add j)=some v)/\Q y:=by
   intro i hi
   obtain⟨cs,h1,h2⟩:=hel i (by omega)
   rw[ce] at h1
   obtain⟨_,aw,fL⟩:=World.cells?_some h1
   obtain⟨y,rfl,hq⟩:=each cs _ _ aw h2 (by
    intro z hz
    refine hw z ?_
    rw[hx.1]
    simp only[DataW.weights,ht]
    exact List.mem_cons_of_mem _ (List.mem_append_left _ (ot (List.mem_map.2 ⟨i,List.mem_range.2 hi,rfl⟩) z hz)))
   refine⟨y,fun j v hv=>?_,hq⟩
   have hj:j<k:=by rw[<-hf y];exact(List.getElem?_eq_some_iff.1 hv).1
   rw[fL j hj,hv]
  obtain⟨Y,hY⟩:∃Y:Fin n->α,∀i:Fin n,(∀j v,(f (Y i))[j]? =some v->W.cell? ((a.add (i.val*k)).add j)=some v)/\Q (Y i):=
   ⟨fun i=>(key i.val i.isLt).choose,fun i=>(key i.val i.isLt).choose_spec⟩
  have aw:(List.ofFn Y).length=n:=by simp
  refine⟨List.ofFn Y,aw,⟨?_,by rw[aw];exact hl,by unfold maxLen at hm;exact hm,fun e=>by cases e⟩,?_,Iy⟩
  .by_cases h0:n=0
   .left
    have:(List.ofFn Y)=[]:=List.eq_nil_of_length_eq_zero (by rw[aw,h0])
    rw[this]
    rfl
   .obtain⟨b,off,spot⟩:=a
    have c0:=(hY ⟨0,by omega⟩).1 0 ((f (Y ⟨0,by omega⟩))[0]'(by rw[hf];exact hk)) (by simp)
    simp only[Nat.zero_mul] at c0
    have yH:spot=none:=by simpa[Addr.add] using World.cell?_spot c0
    subst yH
    rw[Addr.add_lit,Addr.add_lit] at c0
    have az:=lt_of_cell c0
    refine .inr ⟨b,off,rfl,az,fun i v hv=>?_⟩
    have hi:i<n*k:=by have:=(List.getElem?_eq_some_iff.1 hv).1;rw[ar hf,aw] at this;exact this
    have hq:i / k<n:=(Nat.div_lt_iff_lt_mul hk).2 hi
    have hr:i % k<k:=Nat.mod_lt _ hk
    have hg:=flat_get hf (List.ofFn Y) (i / k) (i % k) (Y ⟨i / k,hq⟩) (by simp[hq]) hr
    have VZ:i / k*k+i % k=i:=by rw[Nat.mul_comm];exact Nat.div_add_mod i k
    rw[VZ,hv] at hg
    have:=(hY ⟨i / k,hq⟩).1 (i % k) v hg.symm
    rw[Addr.add_lit,Addr.add_lit,Nat.add_assoc] at this
    simp only at this
    rw[VZ] at this
    exact this
  .intro y hy
   obtain⟨i,hi,rfl⟩:=List.mem_iff_getElem.1 hy
   rw[List.getElem_ofFn]
   exact(hY _).2
end Go.Proofs.YtoonnbhoiocoeaaGreatDoor
namespace Go.Proofs.YtoonnbhoiocoeaaGreatDoor
open Go.RowKit
structure Lb where
 b:Bk
 a:Option Addr
 c:Nat
def Lb.cells (x:Lb):List Value:=[.int .i64 x.b.n,.int .i64 x.b.fr,.int .i64 x.b.to,.slice x.a x.b.bits.length x.c]
theorem Lb.four (x:Lb):x.cells.length=4:=rfl
structure Lb.Good (w:World)(x:Lb):Prop where
 bits:Sl w x.a x.c (x.b.bits.map Value.bool)
 few:x.b.bits.length<=140737488355328
theorem Lb.Good.keep {w w':World}{x:Lb}{B:Nat}(h:x.Good w)(hb:Below B w w')(hB:w.heap.size<=B):x.Good w':=⟨h.bits.keep hb hB,h.few⟩
theorem Lb.Good.alloc {w:World}{x:Lb}(h:x.Good w)(o:Obj):x.Good (w.alloc o):=⟨h.bits.alloc o,h.few⟩
structure pj (w:World)(ao:Option Addr)(cap:Nat)(l:List Lb):Prop where
 sl:aY Lb.cells w ao cap l
 good:∀x∈l,x.Good w
theorem pj.keep {w w':World}{ao:Option Addr}{cap:Nat}{l:List Lb}{B:Nat}(h:pj w ao cap l)(hb:Below B w w')(hB:w.heap.size<=B):pj w' ao cap l:=⟨h.sl.keep hb hB,fun x hx=>(h.good x hx).keep hb hB⟩
theorem pj.alloc {w:World}{ao:Option Addr}{cap:Nat}{l:List Lb}(h:pj w ao cap l)(o:Obj):pj (w.alloc o) ao cap l:=⟨h.sl.alloc o,fun x hx=>(h.good x hx).alloc o⟩
theorem pj.ofNil (w:World):pj w none 0 []:=⟨aY.ofNil _ w,fun x hx=>by simp at hx⟩
theorem pj.at {w:World}{b off cap:Nat}{l:List Lb}(h:pj w (some ⟨b,off,none⟩) cap l)(i:Nat)(x:Lb)(hx:l[i]? =some x):
  w.cell? ⟨b,off+i*4,none⟩=some (.int .i64 x.b.n)/\w.cell? ⟨b,off+i*4+1,none⟩=some (.int .i64 x.b.fr)/\w.cell? ⟨b,off+i*4+2,none⟩=some (.int .i64 x.b.to)/\w.cell? ⟨b,off+i*4+3,none⟩=some (.slice x.a x.b.bits.length x.c)/\x.Good w:=
 ⟨h.sl.cell Lb.four i 0 x _ hx rfl,h.sl.cell Lb.four i 1 x _ hx rfl,h.sl.cell Lb.four i 2 x _ hx rfl,h.sl.cell Lb.four i 3 x _ hx rfl,h.good x (List.mem_of_getElem? hx)⟩
theorem pj.where {w:World}{ao:Option Addr}{cap:Nat}{l:List Lb}(h:pj w ao cap l)(aF:l≠[]):∃b off,ao=some ⟨b,off,none⟩/\b<w.heap.size:=h.sl.where Lb.four (by decide) aF
structure Lr where
 bs:List Lb
 ba:Option Addr
 bc:Nat
 hd:List Pt
 ha:Option Addr
 hc:Nat
def Lr.cells (r:Lr):List Value:=[.slice r.ba r.bs.length r.bc,.slice r.ha r.hd.length r.hc]
theorem Lr.two (r:Lr):r.cells.length=2:=rfl
def Lr.v (r:Lr):Value:=.agg #[.slice r.ba r.bs.length r.bc,.slice r.ha r.hd.length r.hc]
structure Lr.Good (w:World)(r:Lr):Prop where
 bs:pj w r.ba r.bc r.bs
 hd:aI w r.ha r.hc r.hd
 few:r.bs.length<=140737488355328
 hfew:r.hd.length<=8796093022208
theorem Lr.Good.keep {w w':World}{r:Lr}{B:Nat}(h:r.Good w)(hb:Below B w w')(hB:w.heap.size<=B):r.Good w':=⟨h.bs.keep hb hB,h.hd.keep hb hB,h.few,h.hfew⟩
theorem Lr.Good.call {w w':World}{r:Lr}(h:r.Good w)(hb:Below w.heap.size w w'):r.Good w':=h.keep hb (Nat.le_refl _)
theorem Lr.Good.alloc {w:World}{r:Lr}(h:r.Good w)(o:Obj):r.Good (w.alloc o):=⟨h.bs.alloc o,h.hd.alloc o,h.few,h.hfew⟩
structure bJ (w:World)(ao:Option Addr)(cap:Nat)(l:List Lr):Prop where
 sl:aY Lr.cells w ao cap l
 good:∀r∈l,r.Good w
theorem bJ.keep {w w':World}{ao:Option Addr}{cap:Nat}{l:List Lr}{B:Nat}(h:bJ w ao cap l)(hb:Below B w w')(hB:w.heap.size<=B):bJ w' ao cap l:=⟨h.sl.keep hb hB,fun x hx=>(h.good x hx).keep hb hB⟩
theorem bJ.call {w w':World}{ao:Option Addr}{cap:Nat}{l:List Lr}(h:bJ w ao cap l)(hb:Below w.heap.size w w'):bJ w' ao cap l:=h.keep hb (Nat.le_refl _)
theorem bJ.alloc {w:World}{ao:Option Addr}{cap:Nat}{l:List Lr}(h:bJ w ao cap l)(o:Obj):bJ (w.alloc o) ao cap l:=⟨h.sl.alloc o,fun x hx=>(h.good x hx).alloc o⟩
theorem bJ.ofNil (w:World):bJ w none 0 []:=⟨aY.ofNil _ w,fun x hx=>by simp at hx⟩
theorem bJ.at {w:World}{b off cap:Nat}{l:List Lr}(h:bJ w (some ⟨b,off,none⟩) cap l)(i:Nat)(r:Lr)(hr:l[i]? =some r):
  w.cell? ⟨b,off+i*2,none⟩=some (.slice r.ba r.bs.length r.bc)/\w.cell? ⟨b,off+i*2+1,none⟩=some (.slice r.ha r.hd.length r.hc)/\r.Good w:=
 ⟨h.sl.cell Lr.two i 0 r _ hr rfl,h.sl.cell Lr.two i 1 r _ hr rfl,h.good r (List.mem_of_getElem? hr)⟩
theorem bJ.where {w:World}{ao:Option Addr}{cap:Nat}{l:List Lr}(h:bJ w ao cap l)(aF:l≠[]):∃b off,ao=some ⟨b,off,none⟩/\b<w.heap.size:=h.sl.where Lr.two (by decide) aF
structure Rw where
 blocks:List Bk
 head:List Pt
def Lr.rw (r:Lr):Rw:=⟨r.bs.map Lb.b,r.hd⟩
def dY:List Bk->List Bk->Bool
 | [],[]=>true
 |x::r,y::s=>mP x y&&dY r s
 |_,_=>false
def jU (x y:Rw):Bool:=dY x.blocks y.blocks&&decide (x.head=y.head)
def bv:List Rw->List Rw->Bool
 | [],[]=>true
 |x::r,y::s=>jU x y&&bv r s
 |_,_=>false
theorem JU {a b:Bk}(h:mP a b=true):a=b:=by
 obtain⟨an,af,aT,ab⟩:=a
 obtain⟨bn,bf,bT,bb⟩:=b
 simp only[mP,Bool.and_eq_true,decide_eq_true_eq] at h
 obtain⟨⟨⟨rfl,rfl⟩,rfl⟩,rfl⟩:=h
 rfl
theorem sZ:∀l:List Bk,dY l l=true
 | []=>rfl
 |x::r=>by rw[dY,DH,sZ r];rfl
theorem C0 (x:Rw):jU x x=true:=by rw[jU,sZ];simp
theorem me:∀l:List Rw,bv l l=true
 | []=>rfl
 |x::r=>by rw[bv,C0,me r];rfl
end Go.Proofs.YtoonnbhoiocoeaaGreatDoor
namespace Go.Proofs.YtoonnbhoiocoeaaGreatDoor
open Go.RowKit Go.ChangeShapes Go.WideShapes Go.ChangeAt Go.Joins
theorem RW {α:Type}{cs:List α}(h:cs.length=2):∃c0 c1,cs=[c0,c1]:=by
 match cs,h with
 | [c0,c1],_=>exact⟨c0,c1,rfl⟩
theorem Ri {α:Type}{cs:List α}(h:cs.length=4):∃c0 c1 c2 c3,cs=[c0,c1,c2,c3]:=by
 match cs,h with
 | [c0,c1,c2,c3],_=>exact⟨c0,c1,c2,c3,rfl⟩
theorem th:Tryz.prog.cellsOf 4=1:=by kernel_rfl
theorem yY:Tryz.prog.cellsOf 107=4:=by kernel_rfl
theorem El:Tryz.prog.cellsOf 53=2:=by kernel_rfl
theorem Dy:Tryz.prog.cellsOf 3=1:=by kernel_rfl
theorem y8:Tryz.prog.cellsOf 105=1:=by kernel_rfl
theorem wV:Tryz.prog.cellsOf 51=1:=by kernel_rfl
theorem yx:Tryz.prog.cellsOf 42=1:=by kernel_rfl
theorem LX {H:Type}{enc:TypeId × Value->H}{W:World}(cs:List Value)(x:DataW H × List MemPlace)(m:Nat)(hl:cs.length=4)(h:DataW.trod enc Tryz.prog W 0 (fun _=>true) true m 107 cs=some x)(hw:ir 107 x.1):
  ∃y:Lb,cs=y.cells/\y.Good W:=by
 obtain⟨c0,c1,c2,c3,rfl⟩:=Ri hl
 obtain⟨y0,y1,y2,y3,n,rfl,_,h0,h1,h2,h3⟩:=trod_struct4 Tryz.underlying107 h
 simp only[Dy,y8,List.drop_zero,List.drop_succ_cons,List.take_succ_cons,List.take_zero] at h0 h1 h2 h3
 obtain⟨a0,e0,rfl,w0⟩:=DataW.trod_int Tryz.underlying3 h0
 obtain⟨a1,e1,rfl,w1⟩:=DataW.trod_int Tryz.underlying3 h1
 obtain⟨a2,e2,rfl,w2⟩:=DataW.trod_int Tryz.underlying3 h2
 obtain⟨ao,k,cap,e3⟩:=slice_form Tryz.underlying105 h3
 simp at e0 e1 e2 e3
 subst e0 e1 e2 e3
 obtain⟨l,rfl,s,dd⟩:=open_bools (ao:=ao) (n:=k) (cap:=cap) Tryz.underlying105 Tryz.underlying4 th ⟨n,h3⟩
 refine⟨⟨⟨a0,a1,a2,l⟩,ao,cap⟩,rfl,s,?_⟩
 have fF:=s.le
 rw[List.length_map] at fF
 have:cap<=140737488351232:=by
  rcases dd with dd| ⟨el,sp,e,hc⟩
  .omega
  .have:=hw ((el.length+sp.length)*Tryz.prog.bytesOf 4) (by
    simp only[e,DataW.weights,Tryz.underlying107,DataW.weightsEach,List.map_cons,List.map_nil,Tryz.underlying105]
    simp)
   rw[show Tryz.prog.bytesOf 4=1 by kernel_rfl] at this
   omega
 show l.length<=_
 omega
theorem K7 {H:Type}{enc:TypeId × Value->H}{W:World}(cs:List Value)(x:DataW H × List MemPlace)(m:Nat)(hl:cs.length=2)(h:DataW.trod enc Tryz.prog W 0 (fun _=>true) true m 53 cs=some x)(hw:ir 53 x.1):
  ∃r:Lr,cs=r.cells/\r.Good W:=by
 obtain⟨c0,c1,rfl⟩:=RW hl
 obtain⟨y0,y1,n,rfl,_,h0,h1⟩:=trod_struct2 Tryz.underlying53 h
 simp only[wV,yx,List.drop_zero,List.drop_succ_cons,List.take_succ_cons,List.take_zero] at h0 h1
 obtain⟨ab,nb,cb,e0⟩:=slice_form Tryz.underlying51 h0
 obtain⟨ah,nh,ch,e1⟩:=slice_form Tryz.underlying42 h1
 simp at e0 e1
 subst e0 e1
 have w0:ir 51 y0.1:=fun z hz=>hw z (by simp only[DataW.weights,Tryz.underlying53,DataW.weightsEach,List.map_cons,List.map_nil];exact List.mem_append_left _ hz)
 have w1:ir 42 y1.1:=fun z hz=>hw z (by simp only[DataW.weights,Tryz.underlying53,DataW.weightsEach,List.map_cons,List.map_nil];exact List.mem_append_right _ (List.mem_append_left _ hz))
 obtain⟨bs,rfl,sb,gb,rb⟩:=jx (ao:=ab) (n:=nb) (cap:=cb) Lb.cells (fun y=>y.Good W) Tryz.underlying51 yY (by decide) Lb.four (fun cs x m=>LX cs x m) h0 w0
 obtain⟨hd,rfl,sh,_,dd⟩:=Bw (ao:=ah) (n:=nh) (cap:=ch) Tryz.underlying42 Tryz.underlying56 (by kernel_rfl) rfl rfl (by kernel_rfl) (by kernel_rfl) Tryz.underlying3 Tryz.underlying3 ⟨n,h1⟩
 refine⟨⟨bs,ab,cb,hd,ah,ch⟩,rfl,⟨sb,gb⟩,sh,?_,?_⟩
 .have:=sb.le
  rw[show Tryz.prog.bytesOf 107=48 by kernel_rfl] at rb
  show bs.length<=_
  omega
 .have:=sh.le
  have hc:ch*16<=140737488351232:=by
   rcases dd with dd| ⟨el,sp,e,hc⟩
   .omega
   .have:=w1 ((el.length+sp.length)*Tryz.prog.bytesOf 56) (by rw[e];simp only[DataW.weights,Tryz.underlying42];exact List.mem_cons_self ..)
    rw[show Tryz.prog.bytesOf 56=16 by kernel_rfl] at this
    omega
  show hd.length<=_
  omega
structure En where
 s:Int
 t:Int
 v:Int
def En.cells (x:En):List Value:=[.int .i64 x.s,.int .i64 x.t,.int .i64 x.v]
theorem En.three (x:En):x.cells.length=3:=rfl
end Go.Proofs.YtoonnbhoiocoeaaGreatDoor
namespace Go.Proofs.YtoonnbhoiocoeaaGreatDoor
abbrev Nt:=Int × Int × Int
structure Rc where
 k:Int
 s:Int
 n:Int
 e:List Nt
def gU (x:Nt):Bool:=decide (0<=x.1/\x.1<4/\0<=x.2.1/\x.2.1<=100000/\-1000000<=x.2.2/\x.2.2<=1000000)
def aV (r:Rc):Int:=
 if r.k=1 then(if r.s≠0\/r.n≠0 then 4 else if 10<r.e.length then 2 else if r.e.all gU then 0 else 3)
 else if r.k=2\/r.k=3\/r.k=4 then(if r.e≠[]\/(r.k=4/\r.s≠0) then 4 else if 0<=r.s/\r.s<4/\0<=r.n/\r.n<=100001 then 0 else 3)
 else 4
def gj:List UInt8:=[98,97,116,99,104]
def jv:List UInt8:=[115,101,97,108]
def ic:List UInt8:=[109,101,114,103,101]
def jz:List UInt8:=[100,114,111,112]
def dD (l:List Int):List UInt8:=l.flatMap (fun n=>32::Lib.itoa n)
def eQ (l:List Nt):List Int:=l.flatMap (fun x=>[x.1,x.2.1,x.2.2])
def dh (r:Rc):List UInt8:=
 if aV r=0 then(if r.k=1 then gj++dD (eQ r.e) else if r.k=2 then jv++dD [r.s,r.n] else if r.k=3 then ic++dD [r.s,r.n] else jz++dD [r.n]) else []
theorem Do (l:List Int)(n:Int):dD (l++[n])=dD l++32::Lib.itoa n:=by
 unfold dD
 rw[List.flatMap_append]
 simp
theorem EZ (n:Int)(h0:-9223372036854775808<=n)(h1:n<=9223372036854775807):(Lib.itoa n).length<=21:=Lib.itoa_length_le n h0 h1
theorem jD:∀(l:List Int),(∀n∈l,-9223372036854775808<=n/\n<=9223372036854775807)->(dD l).length<=l.length*22
 | [],_=>Nat.le_refl _
 |n::r,h=>by
  have h1:=EZ n (h n List.mem_cons_self).1 (h n List.mem_cons_self).2
  have ih:=jD r (fun m hm=>h m (List.mem_cons_of_mem _ hm))
  unfold dD at ih⊢
  rw[List.flatMap_cons,List.length_append,List.length_cons,List.length_cons,Nat.succ_mul]
  omega
end Go.Proofs.YtoonnbhoiocoeaaGreatDoor
namespace Go.Proofs.YtoonnbhoiocoeaaGreatDoor
open Go.RowKit
def ec (x:Nt):List Value:=[.int .i64 x.1,.int .i64 x.2.1,.int .i64 x.2.2]
theorem bZ (x:Nt):(ec x).length=3:=rfl
theorem mH (n:Int)(w:World):
  Calls Tryz.prog 180 #[.int .i64 n] w fun e w'=>e=.returned (.bool (decide (0<=n/\n<4)))/\w'=w:=by
 by_cases h0:0<=n
 .by_cases h1:n<4
  .rw[decide_eq_true (⟨h0,h1⟩:0<=n/\n<4)]
   go_enter Tryz.func180,Tryz.ntmps180
   go_wp2
   go_ret
   exact⟨rfl,rfl⟩
  .rw[decide_eq_false (by omega:¬(0<=n/\n<4))]
   go_enter Tryz.func180,Tryz.ntmps180
   go_wp2
   go_ret
   exact⟨rfl,rfl⟩
 .rw[decide_eq_false (by omega:¬(0<=n/\n<4))]
  go_enter Tryz.func180,Tryz.ntmps180
  go_wp2
  go_ret
  exact⟨rfl,rfl⟩
theorem yq (t v:Int):aJ [(t,v)]=if 0<=t/\t<=100000/\-1000000<=v/\v<=1000000 then 0 else 3:=by
 unfold aJ fs fs fv
 by_cases h:0<=t/\t<=100000/\-1000000<=v/\v<=1000000
 .rw[if_pos h,if_neg (by simp),if_neg (by simp;omega),if_neg (by simp;omega)]
 .rw[if_neg h,if_neg (by simp),if_pos (by simp;omega)]
theorem OR (w:World)(t v:Int)(T:TypeId):aI (w.alloc (.cells #[.int .i64 t,.int .i64 v] T)) (some ⟨w.heap.size,0,none⟩) 1 [(t,v)]:=by
 have B:=ac.laid w [.int .i64 t,.int .i64 v] T _ rfl
 refine⟨.inr ⟨_,_,rfl,B.lt,fun j u hu=>?_⟩,by simp,by decide,fun h=>by cases h⟩
 match j,hu with
 |0,hu=>simp[am] at hu;subst hu;exact B.cell 0
 |1,hu=>simp[am] at hu;subst hu;exact B.cell 1
 |j+2,hu=>simp[am] at hu
theorem newB {w W:World}(h:Below w.heap.size w W)(o:Obj):Below w.heap.size w (W.alloc o):=h.alloc h.size o
theorem JF (t v:Int)(w:World)(T:TypeId):
  Calls Tryz.prog 175 #[.slice (some ⟨w.heap.size,0,none⟩) 1 1] (w.alloc (.cells #[.int .i64 t,.int .i64 v] T)) fun e w'=>e=.returned (.int .i64 (aJ [(t,v)]))/\Below w.heap.size w w':=by
 refine(mN (some ⟨w.heap.size,0,none⟩) 1 [(t,v)] _ (OR w t v T)).mono ?_
 rintro e w' ⟨rfl,b⟩
 exact⟨rfl,aa (newB (Below.refl _ _) _) b⟩
theorem Hi (l:List Nt)(a:Option Addr)(cap n:Nat)(w:World)(S:aY ec w a cap l)(hn:n=l.length)(few:n<=10):
  Calls Tryz.prog 148 #[.agg #[.int .i64 1,.int .i64 0,.int .i64 0,.slice a n cap]] w fun e w'=>e=.returned (.int .i64 (if l.all gU then 0 else 3))/\Below w.heap.size w w':=by
 obtain⟨E,hE⟩:∃E:Int,E=if l.all gU then 0 else 3:=⟨_,rfl⟩
 rw[<-hE]
 replace hE:=hide hE
 replace hn:=hide hn
 have bel:Below w.heap.size w (w.alloc (.cells #[.int .i64 1,.int .i64 0,.int .i64 0,.slice a n cap] 73)):=(Below.refl _ _).alloc (Nat.le_refl _) _
 have B0:=ac.laid w [.int .i64 1,.int .i64 0,.int .i64 0,.slice a n cap] 73 _ rfl
 have ti:¬(10:Int)<n:=by omega
 go_enter Tryz.func148,Tryz.ntmps148
 go_wp2_with fail
 generalize w.alloc _=w1 at*
 go_loopw [21] (fun i wr=>∃(k:Nat),k<=n/\i=.int .i64 k/\Hid ((l.take k).all gU=true)/\Below w.heap.size w wr) (fun i _=>n-(intOf i).toNat)
 case atStart=>exact⟨0,Nat.zero_le _,rfl,hide (by simp),bel⟩
 case round=>
  clear bel
  obtain⟨k,hk,rfl,hA,bel⟩:=hrel
  by_cases az:k<n
  .have cy:k<l.length:=by rw[<-hn.out];exact az
   obtain⟨b1,o1,rfl,QD⟩:=S.where bZ (by decide) (by intro h;subst h;simp at cy)
   obtain⟨x,hx⟩:∃x,l[k]? =some x:=⟨_,List.getElem?_eq_getElem cy⟩
   have s1:=S.keep bel (Nat.le_refl _)
   have d0:=s1.cell bZ k 0 x _ hx rfl
   have d1:=s1.cell bZ k 1 x _ hx rfl
   have d2:=s1.cell bZ k 2 x _ hx rfl
   simp only[Nat.add_zero] at d0
   have xW:gU x=false->E=3:=by
    intro h
    rw[hE.out,if_neg]
    intro bh
    have:=List.all_eq_true.1 bh x (List.mem_of_getElem? hx)
    rw[h] at this
    cases this
   have Aa:gU x=true->Hid ((l.take (k+1)).all gU=true):=by
    intro h
    rw[List.take_add_one,hx,List.all_append,hA.out]
    simpa[Hid] using h
   obtain⟨xs,xt,xv⟩:=x
   simp only at*
   replace hx:=hide hx
   clear s1 cy
   by_cases hs:0<=xs/\xs<4
   .have c1:=fun W=>mH xs W
    rw[decide_eq_true hs] at c1
    have c2:=fun W=>JF xt xv W 56
    by_cases hp:0<=xt/\xt<=100000/\-1000000<=xv/\xv<=1000000
    .have uL:gU (xs,xt,xv)=true:=decide_eq_true ⟨hs.1,hs.2,hp⟩
     simp only[yq,if_pos hp] at c2
     go_wp2_with fail
     go_at_call 180
     refine(c1 _).mono ?_
     rintro e w2 ⟨rfl,rfl⟩
     have BX:=ac.laid wr [.int .i64 xs,.int .i64 xt,.int .i64 xv] 75 _ rfl
     have bX:=newB bel (.cells #[.int .i64 xs,.int .i64 xt,.int .i64 xv] 75)
     generalize wr.alloc _=w2 at*
     have z1:w2.cell? ⟨wr.heap.size,1,none⟩=some (.int .i64 xt):=BX.cell 1
     have z2:w2.cell? ⟨wr.heap.size,2,none⟩=some (.int .i64 xv):=BX.cell 2
     have lX:=BX.lt
     clear c1
     go_wp2_with fail
     go_at_call 175
     refine(c2 _).mono ?_
     rintro e w3 ⟨rfl,b3⟩
     have ay:=aa bX b3
     go_wp2_with fail
     go_roundw
     case rel=>exact⟨k+1,by omega,by go_num,Aa uL,ay⟩
     case measure=>simp[intOf];omega
    .have uL:gU (xs,xt,xv)=false:=decide_eq_false (by rintro⟨_,_,h⟩;exact hp h)
     simp only[yq,if_neg hp] at c2
     obtain rfl:=xW uL
     go_wp2_with fail
     go_at_call 180
     refine(c1 _).mono ?_
     rintro e w2 ⟨rfl,rfl⟩
     have BX:=ac.laid wr [.int .i64 xs,.int .i64 xt,.int .i64 xv] 75 _ rfl
     have bX:=newB bel (.cells #[.int .i64 xs,.int .i64 xt,.int .i64 xv] 75)
     generalize wr.alloc _=w2 at*
     have z1:w2.cell? ⟨wr.heap.size,1,none⟩=some (.int .i64 xt):=BX.cell 1
     have z2:w2.cell? ⟨wr.heap.size,2,none⟩=some (.int .i64 xv):=BX.cell 2
     have lX:=BX.lt
     clear c1
     go_wp2_with fail
     go_at_call 175
     refine(c2 _).mono ?_
     rintro e w3 ⟨rfl,b3⟩
     have ay:=aa bX b3
     go_wp2_with fail
     go_ret
     exact⟨rfl,ay⟩
   .have c1:=fun W=>mH xs W
    rw[decide_eq_false hs] at c1
    have uL:gU (xs,xt,xv)=false:=decide_eq_false (by rintro⟨h1,h2,_⟩;exact hs ⟨h1,h2⟩)
    obtain rfl:=xW uL
    go_wp2_with fail
    go_at_call 180
    refine(c1 _).mono ?_
    rintro e w2 ⟨rfl,rfl⟩
    go_wp2_with fail
    go_ret
    exact⟨rfl,newB bel _⟩
  .obtain rfl:n=k:=by omega
   have e0:E=0:=by
    rw[hE.out,if_pos]
    have:=hA.out
    rw[List.take_of_length_le (by rw[<-hn.out];exact Nat.le_refl _)] at this
    exact this
   subst e0
   go_wp2_with fail
   go_ret
   exact⟨rfl,bel⟩
end Go.Proofs.YtoonnbhoiocoeaaGreatDoor
namespace Go.Proofs.YtoonnbhoiocoeaaGreatDoor
open Go.RowKit Go.ChangeShapes Go.WideShapes Go.ChangeAt Go.Joins
theorem uO:Tryz.prog.cellsOf 3=1:=by kernel_rfl
theorem KF {α:Type}{l:List α}(h:l.length=3):∃a b c,l=[a,b,c]:=by
 match l,h with
 | [a,b,c],_=>exact⟨a,b,c,rfl⟩
theorem sC {H:Type}{ts:List TypeId}{ds:List (DataW H)}{j:Nat}{t:TypeId}{d:DataW H}(dz:(DataW.weightsEach Tryz.prog ts ds).all (·<=reachBytes)=true)(ht:ts[j]? =some t)(hd:ds[j]? =some d):ir t d:=by
 intro n hn
 have h:=of_decide_eq_true (List.all_eq_true.1 dz _ (DataW.weights_mem_each ht hd n hn))
 unfold reachBytes at h
 exact h
theorem MD {H:Type}{enc:TypeId × Value->H}{W:World}(cs:List Value)(x:DataW H × List MemPlace)(m:Nat)(hl:cs.length=3)(h:DataW.trod enc Tryz.prog W 0 (fun _=>true) true m 75 cs=some x)(_:ir 75 x.1):
  ∃y:Nt,cs=ec y/\True:=by
 obtain⟨c0,c1,c2,rfl⟩:=KF hl
 obtain⟨y0,y1,y2,n,rfl,_,h0,h1,h2⟩:=Go.Deep.trod_struct3 Tryz.underlying75 h
 simp only[uO,List.drop_zero,List.drop_succ_cons,List.take_succ_cons,List.take_zero] at h0 h1 h2
 obtain⟨a0,e0,rfl,w0⟩:=DataW.trod_int Tryz.underlying3 h0
 obtain⟨a1,e1,rfl,w1⟩:=DataW.trod_int Tryz.underlying3 h1
 obtain⟨a2,e2,rfl,w2⟩:=DataW.trod_int Tryz.underlying3 h2
 simp at e0 e1 e2
 subst e0 e1 e2
 exact⟨(a0,a1,a2),rfl,trivial⟩
end Go.Proofs.YtoonnbhoiocoeaaGreatDoor
