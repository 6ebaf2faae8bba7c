/-
  eY worlds: a world's shelf is what its log makes; the power goes and comes back. No program is named.
-/
import Derived.Test.YtoonnbhoiocoeaaGreatDoorQ09
set_option maxHeartbeats 40000000
set_option maxRecDepth 100000
set_option linter.unusedVariables false
namespace Go.Proofs.YtoonnbhoiocoeaaGreatDoor
theorem zt:∀ {a b:List Bk},ef a b=true->a=b
 | [],[],_=>rfl
 | [],_::_,h=>by cases h
 |_::_,[],h=>by cases h
 |x::r,y::s,h=>by
  unfold ef at h
  rw[Bool.and_eq_true] at h
  rw[KY h.1,zt h.2]
theorem GU {x y:Rw}(h:ke x y=true):x=y:=by
 unfold ke at h
 rw[Bool.and_eq_true] at h
 cases x
 cases y
 simp only at h
 rw[zt h.1,of_decide_eq_true h.2]
theorem kx:∀ {a b:List Rw},bp a b=true->a=b
 | [],[],_=>rfl
 | [],_::_,h=>by cases h
 |_::_,[],h=>by cases h
 |x::r,y::s,h=>by
  unfold bp at h
  rw[Bool.and_eq_true] at h
  rw[GU h.1,kx h.2]
theorem fi {w:Wd}(h:dw w=0):cy w.d=0/\(w.up=true->w.d.wait=[])/\du (iW w)=0/\w.c=cd (iW w)/\w.rd.length=3/\∀v∈w.rd,fl w.up (iW w).length v=true:=by
 unfold dw at h
 split at h
 .contradiction
 rename_i h1
 split at h
 .cases h
 rename_i h2
 split at h
 .contradiction
 rename_i h3
 split at h
 .cases h
 rename_i h4
 split at h
 .rename_i h5
  have GV:=Decidable.not_not.1 h4
  exact⟨Decidable.not_not.1 h1,fun hu=>Decidable.not_not.1 fun hw=>h2 ⟨hu,hw⟩,Decidable.not_not.1 h3,kx GV.1,GV.2,List.all_eq_true.1 h5⟩
 cases h
theorem Cp {w:Wd}(h1:cy w.d=0)(h2:w.up=true->w.d.wait=[])(h3:du (iW w)=0)(h4:w.c=cd (iW w))(h5:w.rd.length=3)(h6:∀v∈w.rd,fl w.up (iW w).length v=true):dw w=0:=by
 unfold dw
 rw[if_neg (by simp[h1]),if_neg (fun h=>h.2 (h2 h.1)),if_neg (by simp[h3]),if_neg (fun h=>h ⟨by rw[h4];exact kc _,h5⟩),if_pos (List.all_eq_true.2 h6)]
theorem Mo (up:Bool)(n:Nat):∀v∈fJ,fl up n v=true:=by
 intro v hv
 simp only[fJ,List.mem_cons,List.not_mem_nil,or_false,or_self] at hv
 subst hv
 unfold fl
 simp
theorem Gs {d:Dk}(h:cy d=0)(hw:d.wait=[]):fQ d=d:=by
 unfold fQ kept
 rw[if_pos h,hw]
 simp only[List.take_nil,List.append_nil]
 rw[<-hw]
theorem DG {s:ByteArray}(h:im s=0):aP (dJ s)=0/\(⟨(bY (dJ s)).toArray⟩:ByteArray)=s:=by
 unfold im at h
 split at h
 .cases h
 rename_i hb
 unfold dJ
 rw[if_neg hb]
 cases hT:jn s with
 |none=>rw[hT] at h;cases h
 |some r=>
  rw[hT] at h
  simp only at h⊢
  rw[if_pos h]
  exact⟨h,jU.2 (Gf hT h)⟩
theorem AH {l:List UInt8}(h:fF l=0):aP (lv l)=0/\l=bY (lv l)++10::f6 l:=by
 have hy:=JI h
 unfold fF at h
 rw[if_pos hy] at h
 obtain⟨h1,h2⟩:=DG h
 have hR:lv l=dJ (iv (mS l)):=if_pos hy
 have hB:f6 l=pH l:=if_pos hy
 rw[hR,hB]
 refine⟨h1,?_⟩
 have h3:bY (dJ (iv (mS l)))=mS l:=by
  have:=congrArg bytes h2
  rw[jM] at this
  simpa[bytes] using this
 rw[h3]
 rcases jP l with⟨h4,_⟩| ⟨_,h4,_⟩
 .rw[hy] at h4;cases h4
 exact h4
theorem wm:∀(n k:Nat) (l:List UInt8),l.length<=n->(scan k l).2=0->l=dh (scan k l).1/\∀r∈(scan k l).1,aP r=0
 |0,k,l,hl,_=>by
  obtain rfl:=List.length_eq_zero_iff.1 (Nat.le_zero.1 hl)
  rw[jc]
  exact⟨rfl,fun r hr=>by simp at hr⟩
 |n+1,k,l,hl,h=>by
  by_cases h0:l=[]
  .subst h0
   rw[jc]
   exact⟨rfl,fun r hr=>by simp at hr⟩
  by_cases h1:fF l=0
  .by_cases h2:k=60
   .subst h2
    rw[kw h0 h1] at h
    cases h
   rw[kX h0 h1 h2] at h⊢
   obtain⟨c1,c2⟩:=AH h1
   obtain⟨i1,i2⟩:=wm n (k+1) (f6 l) (by have:=gu h1;omega) h
   refine⟨?_,fun r hr=>?_⟩
   .have e:=ks (lv l) (scan (k+1) (f6 l)).1 []
    rw[List.append_nil,List.append_nil] at e
    rw[e,<-i1]
    exact c2
   rcases List.mem_cons.1 hr with rfl|hr
   .exact c1
   exact i2 r hr
  rw[mC h0 h1] at h
  exact absurd h h1
theorem vW:∀(n k:Nat) (l:List UInt8),l.length<=n->k<=60->l=dh (tail k l).1++(tail k l).2/\(∀r∈(tail k l).1,aP r=0)/\(tail k l).1.length+k<=60
 |0,k,l,hl,hk=>by
  obtain rfl:=List.length_eq_zero_iff.1 (Nat.le_zero.1 hl)
  rw[qM]
  exact⟨rfl,fun r hr=>by simp at hr,by simpa using hk⟩
 |n+1,k,l,hl,hk=>by
  by_cases h1:k<60/\fF l=0
  .rw[kz h1]
   obtain⟨c1,c2⟩:=AH h1.2
   obtain⟨i1,i2,i3⟩:=vW n (k+1) (f6 l) (by have:=gu h1.2;omega) (by omega)
   refine⟨?_,fun r hr=>?_,by simp only[List.length_cons];omega⟩
   .simp only
    rw[ks,<-i1]
    exact c2
   rcases List.mem_cons.1 hr with rfl|hr
   .exact c1
   exact i2 r hr
  rw[ee h1]
  exact⟨by simp[dh],fun r hr=>by simp at hr,by simpa using hk⟩
theorem qv {d:Dk}(h:cy d=0):d.safe=dh (jk d)/\(∀r∈aO d,aP r=0)/\(aO d).length<=60/\fQ d=⟨dh (aO d),[]⟩/\(dh (aO d)).length<=60000/\cy (fQ d)=0/\aO (fQ d)=aO d/\fQ (fQ d)=fQ d:=by
 have hd:=h
 unfold cy at hd
 split at hd
 .cases hd
 rename_i dW
 have hL:jk d=(scan 0 d.safe).1:=if_pos h
 obtain⟨s1,s2⟩:=wm d.safe.length 0 d.safe (Nat.le_refl _) hd
 rw[<-hL] at s1 s2
 obtain⟨t1,t2,t3⟩:=vW d.wait.length (jk d).length d.wait (Nat.le_refl _) (DC d)
 have hR:aO d=jk d++(tail (jk d).length d.wait).1:=if_pos h
 have hlen:=congrArg List.length t1
 rw[List.length_append] at hlen
 have hk:kept d=dh (tail (jk d).length d.wait).1:=by
  unfold kept
  rw[show d.wait.length-(tail (jk d).length d.wait).2.length=(dh (tail (jk d).length d.wait).1).length by omega]
  generalize tail (jk d).length d.wait=T at*
  rw[t1,List.take_left]
 have hD:fQ d=⟨dh (aO d),[]⟩:=by
  unfold fQ
  rw[if_pos h,hk,hR,ka,<-s1]
 have ok:∀r∈aO d,aP r=0:=by
  intro r hr
  rw[hR] at hr
  exact(List.mem_append.1 hr).elim (s2 r) (t2 r)
 have UW:(aO d).length<=60:=by
  rw[hR,List.length_append]
  omega
 have sz:(dh (aO d)).length<=60000:=by
  have e:=congrArg List.length s1
  rw[hR,ka,List.length_append]
  omega
 obtain⟨k0,m,hm,k1,k2,k3,k4,k5⟩:=LU (aO d) [] 0 ok (fun r hr=>by simp at hr) (by simpa using UW) (by simpa[dh] using sz)
 have jr:(([]:List Rc).take m)=[]:=by simp
 rw[jr,List.append_nil] at k3 k4 k5
 refine⟨s1,ok,UW,hD,sz,?_,?_,?_⟩
 .rw[hD];exact k3
 .rw[hD];exact k4
 rw[hD];exact k5
theorem MY {w:Wd}(h:dw w=0)(hu:w.up=true):w.d=mh (aO w.d)/\du (aO w.d)=0/\w.c=cd (aO w.d)/\(∀r∈aO w.d,aP r=0)/\(aO w.d).length<=60:=by
 obtain⟨h1,h2,h3,h4,_,_⟩:=fi h
 have hL:iW w=aO w.d:=if_pos hu
 rw[hL] at h3 h4
 obtain⟨_,c2,c3,c4,_,_,_,_⟩:=qv h1
 have:=Gs h1 (h2 hu)
 rw[c4] at this
 exact⟨this.symm,h3,h4,c2,c3⟩
theorem Lv {L:List Rc}{r:Rc}(hL:∀x∈L,aP x=0)(tS:L.length<=60)(hp:dX (mh L) r=0)(hs:gk (cU (mh L) r)=0):iJ (cU (mh L) r)=mh (L++[r])/\aP r=0/\(L++[r]).length<=60:=by
 obtain⟨_,hr,hd,_⟩:=mD hp
 have e:cU (mh L) r=⟨dh L,bY r++[10]⟩:=by rw[hd];rfl
 have Ng:dh L++(bY r++[10])=dh (L++[r]):=by rw[ka,Li]
 have Yp:iJ (cU (mh L) r)=mh (L++[r]):=by
  unfold iJ
  rw[if_pos hs,e]
  simp only
  rw[Ng]
  rfl
 refine⟨Yp,hr,?_⟩
 rw[List.length_append]
 by_cases aE:L.length<60
 .exact aE
 have FT:L.length=60:=by omega
 unfold gk at hs
 split at hs
 .contradiction
 rw[e] at hs
 simp only at hs
 rw[Ng] at hs
 unfold cy at hs
 split at hs
 .cases hs
 simp only at hs
 have:=vq L 0 (bY r++[10]) hL (by omega)
 rw[Ng] at this
 rw[this,FT] at hs
 simp only[Nat.zero_add] at hs
 have eG:=(D5 hr ([]:List UInt8)).1
 rw[kw (by simp) eG] at hs
 cases hs
open Go.RowKit
def Ue (f t:Int)(p:Pt):Bool:=decide (f<=p.1/\p.1<t)
def qo (l:List Pt)(f t:Int):List Pt:=l.filter (Ue f t)
theorem OW (l:List Pt)(f t:Int):(qo l f t).length<=l.length:=List.length_filter_le _ _
theorem Sl.offKind {w:World}{ao:Option Addr}{cap g:Nat}{P:List Bool}{cs:List Value}{t:TypeId}(s:Sl w ao cap (P.map Value.bool))(B:ag w g cs t)(hk:∀v∈cs,∀b,v≠.bool b)(hP:P≠[]):Off g ao:=by
 obtain⟨b,off,rfl,hb,hc⟩:=s.row.at (by simpa using hP)
 intro ad e
 cases e
 intro e
 have e:b=g:=e
 subst e
 obtain⟨p,r,rfl⟩:=List.exists_cons_of_ne_nil hP
 have h0:=hc 0 (.bool p) (by simp)
 rw[B.cell] at h0
 exact hk _ (List.mem_of_getElem? h0) p rfl
structure dL (w:World)(g G:Nat)(l:List Lr):Prop where
 blk:∃L,ag w g (l.flatMap Lr.cells++L) 53/\∀v∈L,v=.slice none 0 0
 le:l.length<=G
 max:G<=9223372036854775807
theorem dL.lt {w:World}{g G:Nat}{l:List Lr}(h:dL w g G l):g<w.heap.size:=by
 obtain⟨L,B,_⟩:=h.blk
 exact B.lt
theorem dL.free {w:World}{g G:Nat}{l:List Lr}(h:dL w g G l)(i:Nat):w.frozen? ⟨g,i,none⟩=false:=by
 obtain⟨L,B,_⟩:=h.blk
 exact B.free i
theorem dL.keep {w w':World}{g G B:Nat}{l:List Lr}(h:dL w g G l)(hb:Below B w w')(hg:g<B):dL w' g G l:=by
 obtain⟨L,b,hL⟩:=h.blk
 exact⟨⟨L,b.keep hb hg,hL⟩,h.le,h.max⟩
theorem dL.call {w w':World}{g G:Nat}{l:List Lr}(h:dL w g G l)(hb:Below w.heap.size w w'):dL w' g G l:=h.keep hb h.lt
theorem dL.alloc {w:World}{g G:Nat}{l:List Lr}(h:dL w g G l)(o:Obj):dL (w.alloc o) g G l:=by
 obtain⟨L,b,hL⟩:=h.blk
 exact⟨⟨L,b.alc o,hL⟩,h.le,h.max⟩
theorem dL.cells {w:World}{g G:Nat}{l:List Lr}(h:dL w g G l)(k:Nat)(r:Lr)(hr:l[k]? =some r):
  w.cell? ⟨g,k*2,none⟩=some (.slice r.ba r.bs.length r.bc)/\w.cell? ⟨g,k*2+1,none⟩=some (.slice r.ha r.hd.length r.hc):=by
 obtain⟨L,B,_⟩:=h.blk
 have hk:k<l.length:=(List.getElem?_eq_some_iff.1 hr).1
 have hl:=av Lr.two l
 rw[B.cell,B.cell,List.getElem?_append_left (by rw[hl];omega),List.getElem?_append_left (by rw[hl];omega)]
 exact⟨flat_get Lr.two l k 0 r hr (by decide),flat_get Lr.two l k 1 r hr (by decide)⟩
theorem dL.noBool {w:World}{g G:Nat}{l:List Lr}(h:dL w g G l):∃cs,ag w g cs 53/\∀v∈cs,∀b,v≠.bool b:=by
 obtain⟨L,B,hL⟩:=h.blk
 refine⟨_,B,fun v hv b e=>?_⟩
 rcases List.mem_append.1 hv with hv|hv
 .obtain⟨r,_,hr⟩:=List.mem_flatMap.1 hv
  simp only[Lr.cells,List.mem_cons,List.not_mem_nil,or_false] at hr
  rcases hr with rfl|rfl<;>cases e
 rw[hL v hv] at e
 cases e
theorem dL.off {w:World}{g G:Nat}{l:List Lr}(h:dL w g G l){ao:Option Addr}{cap:Nat}{P:List Bool}(s:Sl w ao cap (P.map Value.bool))(hP:P≠[]):Off g ao:=by
 obtain⟨cs,B,hk⟩:=h.noBool
 exact s.offKind B hk hP
theorem dL.put {w:World}{g G:Nat}{l:List Lr}(h:dL w g G l)(k:Nat)(hk:k<l.length)(x:Lr):
  dL ((w.setCell ⟨g,k*2,none⟩ (.slice x.ba x.bs.length x.bc)).setCell ⟨g,k*2+1,none⟩ (.slice x.ha x.hd.length x.hc)) g G (l.set k x):=by
 obtain⟨L,B,hL⟩:=h.blk
 have hl:=av Lr.two l
 have B2:=(B.set (k*2) (.slice x.ba x.bs.length x.bc)).set (k*2+1) (.slice x.ha x.hd.length x.hc)
 rw[List.set_append_left _ _ (by rw[hl];omega),List.set_append_left _ _ (by rw[List.length_set,hl];omega),qY x _ _ rfl Lr.two l k hk] at B2
 exact⟨⟨L,B2,hL⟩,by rw[List.length_set];exact h.le,h.max⟩
theorem dL.other {w:World}{g G:Nat}{l:List Lr}(h:dL w g G l)(g' i:Nat)(u:Value)(aF:g'≠g):dL (w.setCell ⟨g',i,none⟩ u) g G l:=by
 obtain⟨L,B,hL⟩:=h.blk
 exact⟨⟨L,B.other i u aF,hL⟩,h.le,h.max⟩
theorem dL.slr {w:World}{g G:Nat}{l:List Lr}(h:dL w g G l)(hg:∀r∈l,r.Good w):bL w (some ⟨g,0,none⟩) G l:=by
 obtain⟨L,B,_⟩:=h.blk
 refine⟨⟨B.row 0 _ (fun i v hv=>?_),h.le,h.max,fun e=>by cases e⟩,hg⟩
 rw[Nat.zero_add,List.getElem?_append_left (List.getElem?_eq_some_iff.1 hv).1]
 exact hv
abbrev wrote (w:World)(g k:Nat)(x:Lr)(gR:Nat)(c:Value):World:=
 ((w.setCell ⟨g,k*2,none⟩ (.slice x.ba x.bs.length x.bc)).setCell ⟨g,k*2+1,none⟩ (.slice x.ha x.hd.length x.hc)).setCell ⟨gR,0,none⟩ c
theorem um {B:Nat}{w W:World}(h:Below B w W){g gR:Nat}(hg:B<=g)(hR:B<=gR)(k:Nat)(x:Lr)(c:Value):Below B w (wrote W g k x gR c):=
 ((h.setCell hg _).setCell hg _).setCell hR _
theorem y7 {w:World}{base:Nat}{e:TypeId}{size n:Nat}{v:Value}{xs:List Value}(h:w.ownsRow base e size v n xs){g gR:Nat}(hg:g<base)(hR:gR<base)(k:Nat)(x:Lr)(c:Value):(wrote w g k x gR c).ownsRow base e size v n xs:=by
 have ne:∀j,j<base->v.ownBlock=none\/v.ownBlock≠some j:=by
  intro j hj
  cases hv:v.ownBlock with
  |none=>exact .inl rfl
  |some b=>
   refine .inr (fun e=>?_)
   have:=(h.lt b hv).1
   have:b=j:=Option.some.inj e
   omega
 have h1:=h.kept (row:=some g) (al (al (au w (some g)) (k*2) (.slice x.ba x.bs.length x.bc)) (k*2+1) (.slice x.ha x.hd.length x.hc)) (ne g hg)
 exact h1.kept (row:=some gR) (al (au _ (some gR)) 0 c) (ne gR hR)
theorem vN {w:World}{ao:Option Addr}{cap g G gR:Nat}{P:List Bool}{l:List Lr}{cs:List Value}{t:TypeId}(s:Sl w ao cap (P.map Value.bool))(rows:dL w g G l)(BR:ag w gR cs t)(hk:∀v∈cs,∀b,v≠.bool b)(k:Nat)(x:Lr)(c:Value):Sl (wrote w g k x gR c) ao cap (P.map Value.bool):=by
 by_cases hP:P=[]
 .subst hP
  exact⟨.inl rfl,s.le,s.max,s.nil⟩
 have o1:=rows.off s hP
 have o2:=s.offKind BR hk hP
 have s1:=s.off (al (al (au w (some g)) (k*2) (.slice x.ba x.bs.length x.bc)) (k*2+1) (.slice x.ha x.hd.length x.hc)) o1
 exact s1.off (al (au _ (some gR)) 0 c) o2
theorem vJ {w W:World}{g G gR:Nat}{l:List Lr}(rows:dL W g G l)(aF:gR≠g)(k:Nat)(hk:k<l.length)(x:Lr)(c:Value)(hb:Below w.heap.size w (wrote W g k x gR c))(hg:∀r∈l,r.Good w)(hx:x.Good (wrote W g k x gR c)):
  bL (wrote W g k x gR c) (some ⟨g,0,none⟩) G (l.set k x):=by
 refine((rows.put k hk x).other gR 0 c aF).slr (fun r hr=>?_)
 rcases List.mem_or_eq_of_mem_set hr with h|rfl
 .exact(hg r h).keep hb (Nat.le_refl _)
 exact hx
end Go.Proofs.YtoonnbhoiocoeaaGreatDoor
