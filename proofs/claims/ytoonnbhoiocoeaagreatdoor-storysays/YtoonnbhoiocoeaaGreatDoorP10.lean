/-
  ff worlds: a world's shelf is what its log makes; the power goes and comes back. No program is named.
-/
import Derived.Test.YtoonnbhoiocoeaaGreatDoorP09
import Derived.Test.YtoonnbhoiocoeaaGreatDoorP08
import Derived.Test.YtoonnbhoiocoeaaGreatDoorP03
set_option maxHeartbeats 40000000
set_option maxRecDepth 100000
set_option linter.unusedVariables false
namespace Go.Proofs.YtoonnbhoiocoeaaGreatDoor
theorem wI:∀ {a b:List Bk},dY a b=true->a=b
 | [],[],_=>rfl
 | [],_::_,h=>by cases h
 |_::_,[],h=>by cases h
 |x::r,y::s,h=>by
  unfold dY at h
  rw[Bool.and_eq_true] at h
  rw[JU h.1,wI h.2]
theorem GY {x y:Rw}(h:jU x y=true):x=y:=by
 unfold jU at h
 rw[Bool.and_eq_true] at h
 cases x
 cases y
 simp only at h
 rw[wI h.1,of_decide_eq_true h.2]
theorem kf:∀ {a b:List Rw},bv a b=true->a=b
 | [],[],_=>rfl
 | [],_::_,h=>by cases h
 |_::_,[],h=>by cases h
 |x::r,y::s,h=>by
  unfold bv at h
  rw[Bool.and_eq_true] at h
  rw[GY h.1,kf h.2]
theorem dQ {w:Wd}(h:cu w=0):cT w.d=0/\(w.up=true->w.d.wait=[])/\bP (iv w)=0/\w.c=aZ (iv w)/\w.rd.length=3/\∀v∈w.rd,fd w.up (iv w).length v=true:=by
 unfold cu at h
 split at h
 .contradiction
 .rename_i h1
  split at h
  .cases h
  .rename_i h2
   split at h
   .contradiction
   .rename_i h3
    split at h
    .cases h
    .rename_i h4
     split at h
     .rename_i h5
      have Gk:=Decidable.not_not.1 h4
      exact⟨Decidable.not_not.1 h1,fun hu=>Decidable.not_not.1 fun hw=>h2 ⟨hu,hw⟩,Decidable.not_not.1 h3,kf Gk.1,Gk.2,List.all_eq_true.1 h5⟩
     .cases h
theorem AW {w:Wd}(h1:cT w.d=0)(h2:w.up=true->w.d.wait=[])(h3:bP (iv w)=0)(h4:w.c=aZ (iv w))(h5:w.rd.length=3)(h6:∀v∈w.rd,fd w.up (iv w).length v=true):cu w=0:=by
 unfold cu
 rw[if_neg (by simp[h1]),if_neg (fun h=>h.2 (h2 h.1)),if_neg (by simp[h3]),if_neg (fun h=>h ⟨by rw[h4];exact me _,h5⟩),if_pos (List.all_eq_true.2 h6)]
theorem Mh (up:Bool)(n:Nat):∀v∈iw,fd up n v=true:=by
 intro v hv
 simp only[iw,List.mem_cons,List.not_mem_nil,or_false,or_self] at hv
 subst hv
 unfold fd
 simp
theorem Hm {d:Dk}(h:cT d=0)(hw:d.wait=[]):gu d=d:=by
 unfold gu kept
 rw[if_pos h,hw]
 simp only[List.take_nil,List.append_nil]
 rw[<-hw]
end Go.Proofs.YtoonnbhoiocoeaaGreatDoor
namespace Go.Proofs.YtoonnbhoiocoeaaGreatDoor
theorem Ce {s:ByteArray}(h:hI s=0):aV (dB s)=0/\(⟨(dh (dB s)).toArray⟩:ByteArray)=s:=by
 unfold hI at h
 split at h
 .cases h
 .rename_i hb
  unfold dB
  rw[if_neg hb]
  cases hT:jg s with
  |none=>rw[hT] at h;cases h
  |some r=>
   rw[hT] at h
   simp only at h⊢
   rw[if_pos h]
   exact⟨h,jK.2 (Dj hT h)⟩
theorem Ax {l:List UInt8}(h:fJ l=0):aV (kt l)=0/\l=dh (kt l)++10::ge l:=by
 have hy:=IC h
 unfold fJ at h
 rw[if_pos hy] at h
 obtain⟨h1,h2⟩:=Ce h
 have hR:kt l=dB (iz (mK l)):=if_pos hy
 have hB:ge l=pv l:=if_pos hy
 rw[hR,hB]
 refine⟨h1,?_⟩
 have h3:dh (dB (iz (mK l)))=mK l:=by
  have:=congrArg bytes h2
  rw[ju] at this
  simpa[bytes] using this
 rw[h3]
 rcases jG l with⟨h4,_⟩| ⟨_,h4,_⟩
 .rw[hy] at h4;cases h4
 .exact h4
theorem vk:∀(n k:Nat) (l:List UInt8),l.length<=n->(scan k l).2=0->l=bK (scan k l).1/\∀r∈(scan k l).1,aV r=0
 |0,k,l,hl,_=>by
  obtain rfl:=List.length_eq_zero_iff.1 (Nat.le_zero.1 hl)
  rw[iT]
  exact⟨rfl,fun r hr=>by simp at hr⟩
 |n+1,k,l,hl,h=>by
  by_cases h0:l=[]
  .subst h0
   rw[iT]
   exact⟨rfl,fun r hr=>by simp at hr⟩
  by_cases h1:fJ l=0
  .by_cases h2:k=60
   .subst h2
    rw[kh h0 h1] at h
    cases h
   .rw[ki h0 h1 h2] at h⊢
    obtain⟨c1,c2⟩:=Ax h1
    obtain⟨i1,i2⟩:=vk n (k+1) (ge l) (by have:=gE h1;omega) h
    refine⟨?_,fun r hr=>?_⟩
    .have e:=kb (kt l) (scan (k+1) (ge l)).1 []
     rw[List.append_nil,List.append_nil] at e
     rw[e,<-i1]
     exact c2
    .rcases List.mem_cons.1 hr with rfl|hr
     .exact c1
     .exact i2 r hr
  .rw[mj h0 h1] at h
   exact absurd h h1
theorem vg:∀(n k:Nat) (l:List UInt8),l.length<=n->k<=60->l=bK (tail k l).1++(tail k l).2/\(∀r∈(tail k l).1,aV r=0)/\(tail k l).1.length+k<=60
 |0,k,l,hl,hk=>by
  obtain rfl:=List.length_eq_zero_iff.1 (Nat.le_zero.1 hl)
  rw[qk]
  exact⟨rfl,fun r hr=>by simp at hr,by simpa using hk⟩
 |n+1,k,l,hl,hk=>by
  by_cases h1:k<60/\fJ l=0
  .rw[ke h1]
   obtain⟨c1,c2⟩:=Ax h1.2
   obtain⟨i1,i2,i3⟩:=vg n (k+1) (ge l) (by have:=gE h1.2;omega) (by omega)
   refine⟨?_,fun r hr=>?_,by simp only[List.length_cons];omega⟩
   .simp only
    rw[kb,<-i1]
    exact c2
   .rcases List.mem_cons.1 hr with rfl|hr
    .exact c1
    .exact i2 r hr
  .rw[dL h1]
   exact⟨by simp[bK],fun r hr=>by simp at hr,by simpa using hk⟩
theorem kQ {d:Dk}(h:cT d=0):d.safe=bK (iN d)/\(∀r∈ax d,aV r=0)/\(ax d).length<=60/\gu d=⟨bK (ax d),[]⟩/\(bK (ax d)).length<=60000/\cT (gu d)=0/\ax (gu d)=ax d/\gu (gu d)=gu d:=by
 have hd:=h
 unfold cT at hd
 split at hd
 .cases hd
 .rename_i dz
  have hL:iN d=(scan 0 d.safe).1:=if_pos h
  obtain⟨s1,s2⟩:=vk d.safe.length 0 d.safe (Nat.le_refl _) hd
  rw[<-hL] at s1 s2
  obtain⟨t1,t2,t3⟩:=vg d.wait.length (iN d).length d.wait (Nat.le_refl _) (CO d)
  have hR:ax d=iN d++(tail (iN d).length d.wait).1:=if_pos h
  have aw:=congrArg List.length t1
  rw[List.length_append] at aw
  have hk:kept d=bK (tail (iN d).length d.wait).1:=by
   unfold kept
   rw[show d.wait.length-(tail (iN d).length d.wait).2.length=(bK (tail (iN d).length d.wait).1).length by omega]
   generalize tail (iN d).length d.wait=T at*
   rw[t1,List.take_left]
  have hD:gu d=⟨bK (ax d),[]⟩:=by
   unfold gu
   rw[if_pos h,hk,hR,jN,<-s1]
  have ok:∀r∈ax d,aV r=0:=by
   intro r hr
   rw[hR] at hr
   exact(List.mem_append.1 hr).elim (s2 r) (t2 r)
  have TS:(ax d).length<=60:=by
   rw[hR,List.length_append]
   omega
  have sz:(bK (ax d)).length<=60000:=by
   have e:=congrArg List.length s1
   rw[hR,jN,List.length_append]
   omega
  obtain⟨k0,m,hm,k1,k2,k3,k4,k5⟩:=z' (ax d) [] 0 ok (fun r hr=>by simp at hr) (by simpa using TS) (by simpa[bK] using sz)
  have jq:(([]:List Rc).take m)=[]:=by simp
  rw[jq,List.append_nil] at k3 k4 k5
  refine⟨s1,ok,TS,hD,sz,?_,?_,?_⟩
  .rw[hD];exact k3
  .rw[hD];exact k4
  .rw[hD];exact k5
end Go.Proofs.YtoonnbhoiocoeaaGreatDoor
namespace Go.Proofs.YtoonnbhoiocoeaaGreatDoor
theorem wk {w:Wd}(h:cu w=0)(hu:w.up=true):w.d=ja (ax w.d)/\bP (ax w.d)=0/\w.c=aZ (ax w.d)/\(∀r∈ax w.d,aV r=0)/\(ax w.d).length<=60:=by
 obtain⟨h1,h2,h3,h4,_,_⟩:=dQ h
 have hL:iv w=ax w.d:=if_pos hu
 rw[hL] at h3 h4
 obtain⟨_,c2,c3,c4,_,_,_,_⟩:=kQ h1
 have:=Hm h1 (h2 hu)
 rw[c4] at this
 exact⟨this.symm,h3,h4,c2,c3⟩
theorem Jg {L:List Rc}{r:Rc}(hL:∀x∈L,aV x=0)(kw:L.length<=60)(hp:fq (ja L) r=0)(hs:jX (dj (ja L) r)=0):lu (dj (ja L) r)=ja (L++[r])/\aV r=0/\(L++[r]).length<=60:=by
 obtain⟨_,hr,hd,_⟩:=oD hp
 have e:dj (ja L) r=⟨bK L,dh r++[10]⟩:=by rw[hd];rfl
 have Np:bK L++(dh r++[10])=bK (L++[r]):=by rw[jN,AH]
 have Yq:lu (dj (ja L) r)=ja (L++[r]):=by
  unfold lu
  rw[if_pos hs,e]
  simp only
  rw[Np]
  rfl
 refine⟨Yq,hr,?_⟩
 rw[List.length_append]
 by_cases az:L.length<60
 .exact az
 .have Eo:L.length=60:=by omega
  unfold jX at hs
  split at hs
  .contradiction
  .rw[e] at hs
   simp only at hs
   rw[Np] at hs
   unfold cT at hs
   split at hs
   .cases hs
   .simp only at hs
    have:=uq L 0 (dh r++[10]) hL (by omega)
    rw[Np] at this
    rw[this,Eo] at hs
    simp only[Nat.zero_add] at hs
    have dK:=(BF hr ([]:List UInt8)).1
    rw[kh (by simp) dK] at hs
    cases hs
end Go.Proofs.YtoonnbhoiocoeaaGreatDoor
namespace Go.Proofs.YtoonnbhoiocoeaaGreatDoor
def qS (b:Int)(r:Rc):Int:=if r.k=4 then max b r.n else b
def H9 (s:Nat)(C:List Rw)(A:List Pt)(b:Int):Prop:=
 ∃m,m<=A.length/\be (C.getD s dN)=A.drop m/\∀p∈A.take m,p.1<b
theorem DX {r:Rc}(h:aV r=0)(hk:r.k≠1):r.e=[]:=by
 unfold aV at h
 rw[if_neg hk] at h
 split at h
 .split at h
  .cases h
  .rename_i h1
   exact Decidable.byContradiction fun e=>h1 (.inl e)
 .cases h
theorem KA {s:Nat}{C:List Rw}{r:Rc}{A:List Pt}{b:Int}(hs:s<4)(h:cd C r=0)(hP:H9 s C A b):H9 s (dW C r) (A++ee s (jd r.e)) (qS b r):=by
 obtain⟨hz,hr,hw,hL⟩:=pF h
 obtain⟨w1,w2,w3,w4⟩:=wO C r
 obtain⟨m,hm,e1,e2⟩:=hP
 rw[hL]
 by_cases k1:r.k=1
 .obtain⟨x1,x2⟩:=w1 k1
  rw[x1] at hw
  obtain⟨_,y1,y2⟩:=yI hw
  rw[x2,y2]
  unfold qS
  rw[if_neg (by omega)]
  refine⟨m,by rw[List.length_append];omega,?_,?_⟩
  .rw[zT _ _ (bL hz) y1 s hs,e1,List.drop_append_of_le_length hm]
  .rw[List.take_append_of_le_length hm]
   exact e2
 .have he:=DX hr k1
  rw[he]
  have e0:A++ee s (jd [])=A:=by simp[ee,jd]
  rw[e0]
  rcases kind_of hr with k|k|k|k
  .exact absurd k k1
  .obtain⟨x1,x2⟩:=w2 k
   rw[x1] at hw
   unfold qS
   rw[x2,if_neg (by omega)]
   exact⟨m,hm,by rw[(wW hz hw).2];exact e1,e2⟩
  .obtain⟨x1,x2⟩:=w3 k
   rw[x1] at hw
   unfold qS
   rw[x2,if_neg (by omega)]
   exact⟨m,hm,by rw[(Af hz hw).2];exact e1,e2⟩
  .obtain⟨x1,x2⟩:=w4 k
   rw[x1] at hw
   unfold qS
   rw[x2,if_pos k]
   obtain⟨h4,UV⟩:=fX hz
   obtain⟨_,m',jf,e3,e4⟩:=Aw (n:=r.n) (UV _ (mr (l:=C) (k:=s) (by omega)))
   unfold ip
   rw[if_pos hw]
   rw[e1] at jf e3 e4
   rw[List.length_drop] at jf
   refine⟨m+m',by omega,?_,?_⟩
   .rw[(drop_zero hz).2 s hs,e3,List.drop_drop]
   .intro p hp
    rw[List.take_add] at hp
    rcases List.mem_append.1 hp with hp|hp
    .have:=e2 p hp
     omega
    .have:=e4 p hp
     omega
 where
 kind_of {r:Rc} (h:aV r=0):r.k=1\/r.k=2\/r.k=3\/r.k=4:=by
  unfold aV at h
  split at h
  .exact .inl (by assumption)
  .split at h
   .rename_i h1
    exact .inr h1
   .cases h
end Go.Proofs.YtoonnbhoiocoeaaGreatDoor
namespace Go.Proofs.YtoonnbhoiocoeaaGreatDoor
open Go.RowKit
end Go.Proofs.YtoonnbhoiocoeaaGreatDoor
namespace Go.Proofs.YtoonnbhoiocoeaaGreatDoor
open Go.RowKit
def Fx (f t:Int)(p:Pt):Bool:=decide (f<=p.1/\p.1<t)
def gH (l:List Pt)(f t:Int):List Pt:=l.filter (Fx f t)
theorem Nu (l:List Pt)(f t:Int):(gH l f t).length<=l.length:=List.length_filter_le _ _
end Go.Proofs.YtoonnbhoiocoeaaGreatDoor
namespace Go.Proofs.YtoonnbhoiocoeaaGreatDoor
open Go.RowKit
theorem Sl.offKind {w:World}{ao:Option Addr}{cap g:Nat}{P:List Bool}{cs:List Value}{t:TypeId}(s:Sl w ao cap (P.map Value.bool))(B:ac w g cs t)(hk:∀v∈cs,∀b,v≠.bool b)(hP:P≠[]):Off g ao:=by
 obtain⟨b,off,rfl,hb,hc⟩:=s.row.at (by simpa using hP)
 intro ad e
 cases e
 intro e
 have e:b=g:=e
 subst e
 obtain⟨p,r,rfl⟩:=List.exists_cons_of_ne_nil hP
 have h0:=hc 0 (.bool p) (by simp)
 rw[B.cell] at h0
 exact hk _ (List.mem_of_getElem? h0) p rfl
structure dE (w:World)(g G:Nat)(l:List Lr):Prop where
 blk:∃L,ac w g (l.flatMap Lr.cells++L) 53/\∀v∈L,v=.slice none 0 0
 le:l.length<=G
 max:G<=9223372036854775807
theorem dE.lt {w:World}{g G:Nat}{l:List Lr}(h:dE w g G l):g<w.heap.size:=by
 obtain⟨L,B,_⟩:=h.blk
 exact B.lt
theorem dE.free {w:World}{g G:Nat}{l:List Lr}(h:dE w g G l)(i:Nat):w.frozen? ⟨g,i,none⟩=false:=by
 obtain⟨L,B,_⟩:=h.blk
 exact B.free i
theorem dE.keep {w w':World}{g G B:Nat}{l:List Lr}(h:dE w g G l)(hb:Below B w w')(hg:g<B):dE w' g G l:=by
 obtain⟨L,b,hL⟩:=h.blk
 exact⟨⟨L,b.keep hb hg,hL⟩,h.le,h.max⟩
theorem dE.call {w w':World}{g G:Nat}{l:List Lr}(h:dE w g G l)(hb:Below w.heap.size w w'):dE w' g G l:=h.keep hb h.lt
theorem dE.alloc {w:World}{g G:Nat}{l:List Lr}(h:dE w g G l)(o:Obj):dE (w.alloc o) g G l:=by
 obtain⟨L,b,hL⟩:=h.blk
 exact⟨⟨L,b.alc o,hL⟩,h.le,h.max⟩
theorem dE.cells {w:World}{g G:Nat}{l:List Lr}(h:dE w g G l)(k:Nat)(r:Lr)(hr:l[k]? =some r):
  w.cell? ⟨g,k*2,none⟩=some (.slice r.ba r.bs.length r.bc)/\w.cell? ⟨g,k*2+1,none⟩=some (.slice r.ha r.hd.length r.hc):=by
 obtain⟨L,B,_⟩:=h.blk
 have hk:k<l.length:=(List.getElem?_eq_some_iff.1 hr).1
 have hl:=ar Lr.two l
 rw[B.cell,B.cell,List.getElem?_append_left (by rw[hl];omega),List.getElem?_append_left (by rw[hl];omega)]
 exact⟨flat_get Lr.two l k 0 r hr (by decide),flat_get Lr.two l k 1 r hr (by decide)⟩
theorem dE.noBool {w:World}{g G:Nat}{l:List Lr}(h:dE w g G l):∃cs,ac w g cs 53/\∀v∈cs,∀b,v≠.bool b:=by
 obtain⟨L,B,hL⟩:=h.blk
 refine⟨_,B,fun v hv b e=>?_⟩
 rcases List.mem_append.1 hv with hv|hv
 .obtain⟨r,_,hr⟩:=List.mem_flatMap.1 hv
  simp only[Lr.cells,List.mem_cons,List.not_mem_nil,or_false] at hr
  rcases hr with rfl|rfl<;>cases e
 .rw[hL v hv] at e
  cases e
theorem dE.off {w:World}{g G:Nat}{l:List Lr}(h:dE w g G l){ao:Option Addr}{cap:Nat}{P:List Bool}(s:Sl w ao cap (P.map Value.bool))(hP:P≠[]):Off g ao:=by
 obtain⟨cs,B,hk⟩:=h.noBool
 exact s.offKind B hk hP
theorem dE.put {w:World}{g G:Nat}{l:List Lr}(h:dE w g G l)(k:Nat)(hk:k<l.length)(x:Lr):
  dE ((w.setCell ⟨g,k*2,none⟩ (.slice x.ba x.bs.length x.bc)).setCell ⟨g,k*2+1,none⟩ (.slice x.ha x.hd.length x.hc)) g G (l.set k x):=by
 obtain⟨L,B,hL⟩:=h.blk
 have hl:=ar Lr.two l
 have B2:=(B.set (k*2) (.slice x.ba x.bs.length x.bc)).set (k*2+1) (.slice x.ha x.hd.length x.hc)
 rw[List.set_append_left _ _ (by rw[hl];omega),List.set_append_left _ _ (by rw[List.length_set,hl];omega),qQ x _ _ rfl Lr.two l k hk] at B2
 exact⟨⟨L,B2,hL⟩,by rw[List.length_set];exact h.le,h.max⟩
theorem dE.other {w:World}{g G:Nat}{l:List Lr}(h:dE w g G l)(g' i:Nat)(u:Value)(aF:g'≠g):dE (w.setCell ⟨g',i,none⟩ u) g G l:=by
 obtain⟨L,B,hL⟩:=h.blk
 exact⟨⟨L,B.other i u aF,hL⟩,h.le,h.max⟩
theorem dE.slr {w:World}{g G:Nat}{l:List Lr}(h:dE w g G l)(hg:∀r∈l,r.Good w):bJ w (some ⟨g,0,none⟩) G l:=by
 obtain⟨L,B,_⟩:=h.blk
 refine⟨⟨B.row 0 _ (fun i v hv=>?_),h.le,h.max,fun e=>by cases e⟩,hg⟩
 rw[Nat.zero_add,List.getElem?_append_left (List.getElem?_eq_some_iff.1 hv).1]
 exact hv
abbrev wrote (w:World)(g k:Nat)(x:Lr)(gR:Nat)(c:Value):World:=
 ((w.setCell ⟨g,k*2,none⟩ (.slice x.ba x.bs.length x.bc)).setCell ⟨g,k*2+1,none⟩ (.slice x.ha x.hd.length x.hc)).setCell ⟨gR,0,none⟩ c
theorem sY {B:Nat}{w W:World}(h:Below B w W){g gR:Nat}(hg:B<=g)(hR:B<=gR)(k:Nat)(x:Lr)(c:Value):Below B w (wrote W g k x gR c):=
 ((h.setCell hg _).setCell hg _).setCell hR _
theorem yw {w:World}{base:Nat}{e:TypeId}{size n:Nat}{v:Value}{xs:List Value}(h:w.ownsRow base e size v n xs){g gR:Nat}(hg:g<base)(hR:gR<base)(k:Nat)(x:Lr)(c:Value):(wrote w g k x gR c).ownsRow base e size v n xs:=by
 have ne:∀j,j<base->v.ownBlock=none\/v.ownBlock≠some j:=by
  intro j hj
  cases hv:v.ownBlock with
  |none=>exact .inl rfl
  |some b=>
   refine .inr (fun e=>?_)
   have:=(h.lt b hv).1
   have:b=j:=Option.some.inj e
   omega
 have h1:=h.kept (row:=some g) (ak (ak (au w (some g)) (k*2) (.slice x.ba x.bs.length x.bc)) (k*2+1) (.slice x.ha x.hd.length x.hc)) (ne g hg)
 exact h1.kept (row:=some gR) (ak (au _ (some gR)) 0 c) (ne gR hR)
theorem ve {w:World}{ao:Option Addr}{cap g G gR:Nat}{P:List Bool}{l:List Lr}{cs:List Value}{t:TypeId}(s:Sl w ao cap (P.map Value.bool))(rows:dE w g G l)(BR:ac w gR cs t)(hk:∀v∈cs,∀b,v≠.bool b)(k:Nat)(x:Lr)(c:Value):Sl (wrote w g k x gR c) ao cap (P.map Value.bool):=by
 by_cases hP:P=[]
 .subst hP
  exact⟨.inl rfl,s.le,s.max,s.nil⟩
 .have o1:=rows.off s hP
  have o2:=s.offKind BR hk hP
  have s1:=s.off (ak (ak (au w (some g)) (k*2) (.slice x.ba x.bs.length x.bc)) (k*2+1) (.slice x.ha x.hd.length x.hc)) o1
  exact s1.off (ak (au _ (some gR)) 0 c) o2
theorem vq {w W:World}{g G gR:Nat}{l:List Lr}(rows:dE W g G l)(aF:gR≠g)(k:Nat)(hk:k<l.length)(x:Lr)(c:Value)(hb:Below w.heap.size w (wrote W g k x gR c))(hg:∀r∈l,r.Good w)(hx:x.Good (wrote W g k x gR c)):
  bJ (wrote W g k x gR c) (some ⟨g,0,none⟩) G (l.set k x):=by
 refine((rows.put k hk x).other gR 0 c aF).slr (fun r hr=>?_)
 rcases List.mem_or_eq_of_mem_set hr with h|rfl
 .exact(hg r h).keep hb (Nat.le_refl _)
 .exact hx
end Go.Proofs.YtoonnbhoiocoeaaGreatDoor
