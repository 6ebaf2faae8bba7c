/-
  What the operations on a shelf make of it, as plain lists: seal, merge, drop, put; what a shelf that is right has. No program is named.
-/
import Derived.Test.YtoonnbhoiocoeaaGreatDoorQ07
set_option maxHeartbeats 40000000
set_option maxRecDepth 100000
set_option linter.unusedVariables false
namespace Go.Proofs.YtoonnbhoiocoeaaGreatDoor
open Go.RowKit
def fj:Rw:=⟨[],[]⟩
def dG (x a b:Int):Bool:=decide (a<=x/\x<=b)
def eB (l:List Rw)(s n:Int):Int:=
 if dG s 0 3=false then 5 else if dG n 1 (l.getD s.toNat fj).head.length=false then 3 else if 8<=(l.getD s.toNat fj).blocks.length then 2 else 0
def gA (l:List Rw)(s n:Int):List Rw:=
 if eB l s n=0 then l.set s.toNat ⟨(l.getD s.toNat fj).blocks++[dC ((l.getD s.toNat fj).head.take n.toNat)],(l.getD s.toNat fj).head.drop n.toNat⟩ else []
def mc (r:Rw)(k:Nat):Bk:=r.blocks.getD k wR
def gG (l:List Rw)(s k:Int):Int:=
 if dG s 0 3=false then 5 else if dG k 0 ((l.getD s.toNat fj).blocks.length-2)=false then 3 else eA (mc (l.getD s.toNat fj) k.toNat) (mc (l.getD s.toNat fj) (k.toNat+1))
def j7 (l:List Rw)(s k:Int):List Rw:=
 if gG l s k=0 then l.set s.toNat ⟨(l.getD s.toNat fj).blocks.take k.toNat++(eO (mc (l.getD s.toNat fj) k.toNat) (mc (l.getD s.toNat fj) (k.toNat+1))::(l.getD s.toNat fj).blocks.drop (k.toNat+2)),(l.getD s.toNat fj).head⟩ else []
structure eY (l:List Rw):Prop where
 four:l.length=4
 few:∀r∈l,r.blocks.length<=8/\r.head.length<=40
theorem lT:∀ {l:List Rw},iX l=0->∀r∈l,dV r=0
 | [],_,r,hr=>by simp at hr
 |x::l,h,r,hr=>by
  unfold iX at h
  split at h
  .rename_i h0
   rcases List.mem_cons.1 hr with rfl|hr
   .exact h0
   exact lT h r hr
  rename_i h0
  exact absurd h h0
theorem ig {r:Rw}(h:dV r=0):r.blocks.length<=8/\bU r.blocks=0/\aH (cm r)=0:=by
 unfold dV at h
 split at h
 .cases h
 split at h
 .exact⟨by omega,by assumption,h⟩
 rename_i h1
 exact absurd h h1
theorem i7 {l:List Rw}(h:az l=0):l.length=4/\iX l=0:=by
 unfold az at h
 split at h
 .exact⟨by assumption,h⟩
 cases h
theorem jO {l:List Rw}(h:az l=0):eY l:=by
 obtain⟨h4,hr⟩:=i7 h
 refine⟨h4,fun r Dq=>?_⟩
 obtain⟨h1,_,h3⟩:=ig (lT hr r Dq)
 have:=(eN h3).1
 unfold cm at this
 rw[List.length_append] at this
 exact⟨h1,by omega⟩
theorem qY {α:Type}{f:α->List Value}(x:α)(u v:Value)(hu:f x=[u,v])(hf:∀x,(f x).length=2):∀(l:List α) (k:Nat),k<l.length->((l.flatMap f).set (k*2) u).set (k*2+1) v=(l.set k x).flatMap f
 | [],k,h=>by simp at h
 |y::r,0,_=>by
  have h:=hf y
  obtain⟨y0,y1,e⟩:∃y0 y1,f y=[y0,y1]:=by
   match f y,h with
   | [y0,y1],_=>exact⟨y0,y1,rfl⟩
  rw[List.flatMap_cons,List.set_cons_zero,List.flatMap_cons,e,hu]
  rfl
 |y::r,k+1,h=>by
  have ih:=qY x u v hu hf r k (by simpa using h)
  have e:(f y).length=2:=hf y
  rw[List.flatMap_cons,List.set_cons_succ,List.flatMap_cons,<-ih,List.set_append_right _ _ (by rw[e];omega),e,List.set_append_right _ _ (by rw[e];omega),e,
   show(k+1)*2-2=k*2 by omega,show(k+1)*2+1-2=k*2+1 by omega]
theorem ag.put4 {w:World}{g:Nat}{c0 c1 c2 c3:Value}{t:TypeId}(h:ag w g [c0,c1,c2,c3] t)(u0 u1 u2 u3:Value):
  ag ((((w.setCell ⟨g,0,none⟩ u0).setCell ⟨g,1,none⟩ u1).setCell ⟨g,2,none⟩ u2).setCell ⟨g,3,none⟩ u3) g [u0,u1,u2,u3] t:=
 (((h.set 0 u0).set 1 u1).set 2 u2).set 3 u3
theorem ic {B:Nat}{w W:World}(h:Below B w W){g:Nat}(hg:B<=g)(u0 u1 u2 u3:Value):
  Below B w ((((W.setCell ⟨g,0,none⟩ u0).setCell ⟨g,1,none⟩ u1).setCell ⟨g,2,none⟩ u2).setCell ⟨g,3,none⟩ u3):=
 (((h.setCell hg _).setCell hg _).setCell hg _).setCell hg _
theorem Sl.offBlock {w:World}{ao:Option Addr}{cap g:Nat}{P:List Bool}{x y z:Int}{a:Option Addr}{n c:Nat}{t:TypeId}(s:Sl w ao cap (P.map Value.bool))(B:ag w g [.int .i64 x,.int .i64 y,.int .i64 z,.slice a n c] t)(hP:P≠[]):Off g ao:=by
 obtain⟨b,off,rfl,hb,hc⟩:=s.row.at (by simpa using hP)
 intro ad e
 cases e
 intro e
 have e:b=g:=e
 subst e
 obtain⟨p,r,rfl⟩:=List.exists_cons_of_ne_nil hP
 have h0:=hc 0 (.bool p) (by simp)
 rw[Nat.add_zero,B.cell] at h0
 match off,h0 with
 |0,h0=>simp at h0
 |1,h0=>simp at h0
 |2,h0=>simp at h0
 |3,h0=>simp at h0
 |k+4,h0=>simp at h0
theorem Sl.put4 {w:World}{ao:Option Addr}{cap g:Nat}{P:List Bool}{x y z:Int}{a:Option Addr}{n c:Nat}{t:TypeId}(s:Sl w ao cap (P.map Value.bool))(B:ag w g [.int .i64 x,.int .i64 y,.int .i64 z,.slice a n c] t)(u0 u1 u2 u3:Value):
  Sl ((((w.setCell ⟨g,0,none⟩ u0).setCell ⟨g,1,none⟩ u1).setCell ⟨g,2,none⟩ u2).setCell ⟨g,3,none⟩ u3) ao cap (P.map Value.bool):=by
 by_cases hP:P=[]
 .subst hP
  exact⟨.inl rfl,s.le,s.max,s.nil⟩
 exact s.off (al (al (al (al (au _ _) 0 u0) 1 u1) 2 u2) 3 u3) (s.offBlock B hP)
theorem Sl.drewS {w:World}{ao:Option Addr}{cap:Nat}{cs:List Value}(h:Sl w ao cap cs):Sl w.drew ao cap cs:=h.drewN 1
theorem aV.drewS {w:World}{ao:Option Addr}{cap:Nat}{l:List Pt}(h:aV w ao cap l):aV w.drew ao cap l:=h.drewN 1
theorem aV.first {w:World}{b off cap:Nat}{l:List Pt}(h:aV w (some ⟨b,off,none⟩) cap l)(hl:0<l.length):w.cell? ⟨b,off,none⟩=some (.int .i64 (firstT l)):=by
 obtain⟨x,y,e0,_,hx,_⟩:=h.pt 0 hl
 rw[Nat.zero_mul,Nat.add_zero] at e0
 rw[e0]
 simp[firstT,List.getD,hx]
theorem aV.last {w:World}{b off cap:Nat}{l:List Pt}(h:aV w (some ⟨b,off,none⟩) cap l)(hl:0<l.length):w.cell? ⟨b,off+(l.length-1)*2,none⟩=some (.int .i64 (lE l)):=by
 obtain⟨x,y,e0,_,hx,_⟩:=h.pt (l.length-1) (by omega)
 rw[e0]
 simp[lE,List.getD,hx]
theorem three (w:World)(x y z:List Value)(t:TypeId):ag (((w.alloc (.cells x.toArray t)).alloc (.cells y.toArray t)).alloc (.cells z.toArray t)) (w.heap.size+1) y t/\
  ag (((w.alloc (.cells x.toArray t)).alloc (.cells y.toArray t)).alloc (.cells z.toArray t)) (w.heap.size+2) z t/\Below w.heap.size w (((w.alloc (.cells x.toArray t)).alloc (.cells y.toArray t)).alloc (.cells z.toArray t)):=
 ⟨(ag.laid _ y t _ (by simp)).alc _,ag.laid _ z t _ (by simp),k6 w _ _ _⟩
theorem jb {b:Bk}(h:bP b=0):0<(bi b).length:=by
 unfold bi
 rw[if_pos h]
 unfold bP at h
 split at h
 .split at h
  .rename_i hf
   exact(of_decide_eq_true hf:0<_/\_).1
  cases h
 rename_i hn
 exact absurd h hn
theorem Jo:(Tryz.prog.info? 56).map (·.size)=some 2:=by kernel_rfl
theorem aV.part {w:World}{ao:Option Addr}{cap:Nat}{l:List Pt}(h:aV w ao cap l)(p q:Nat)(Yy:p<=q)(hq:q<=l.length):aV w (if cap=p then ao else Option.map (fun x=>x.add (p*2)) ao) (cap-p) ((l.take q).drop p):=by
 have fE:=h.le
 have hlen:((l.take q).drop p).length=q-p:=by rw[List.length_drop,List.length_take];omega
 refine⟨?_,by rw[hlen];omega,by have:=h.max;omega,?_⟩
 .by_cases he:p=q
  .left
   have e:(l.take q).drop p=[]:=List.eq_nil_of_length_eq_zero (by rw[hlen];omega)
   rw[e]
   rfl
  right
  obtain⟨b,off,rfl,hb,hc⟩:=(h.front q).row.at (fun e=>by
   have h0:=nw e
   have:(l.take q).length=0:=by rw[h0];rfl
   rw[List.length_take] at this
   omega)
  rw[if_neg (by omega)]
  refine⟨b,off+p*2,by rw[Option.map_some,Addr.add_lit],hb,fun i v hv=>?_⟩
  rw[<-uq,List.getElem?_drop] at hv
  rw[Nat.add_assoc]
  exact hc _ _ hv
 intro e
 by_cases hc:cap=p
 .omega
 rw[if_neg hc] at e
 have:=h.nil (by simpa using e)
 omega
theorem ax {w W:World}(h:Below w.heap.size w W)(o:Obj):Below w.heap.size w (W.alloc o):=h.alloc h.size o
theorem jx:∀a b:List Bk,bU (a++b)=if bU a=0 then bU b else bU a
 | [],b=>by simp[bU]
 |x::r,b=>by
  rw[List.cons_append,bU,bU,jx r b]
  split
  .rfl
  rfl
theorem iq (a b:List Bk):dp (a++b)=dp a++dp b:=by unfold dp;rw[List.flatMap_append]
theorem x9 {r:Rw}(h1:r.blocks.length<=8)(h2:bU r.blocks=0)(h3:aH (cm r)=0):dV r=0:=by
 unfold dV
 rw[if_neg (by omega),if_pos h2]
 exact h3
theorem mW:∀ {l:List Bk},bU l=0->∀b∈l,bP b=0
 | [],_,b,hb=>by simp at hb
 |x::r,h,b,hb=>by
  unfold bU at h
  split at h
  .rename_i h0
   rcases List.mem_cons.1 hb with rfl|hb
   .exact h0
   exact mW h b hb
  rename_i h0
  exact absurd h h0
theorem KF {r:Rw}(h:dV r=0)(q:Nat)(h1:1<=q)(h2:q<=r.head.length)(hb:r.blocks.length<8):
  dV ⟨r.blocks++[dC (r.head.take q)],r.head.drop q⟩=0/\cm ⟨r.blocks++[dC (r.head.take q)],r.head.drop q⟩=cm r:=by
 obtain⟨_,z2,z3⟩:=ig h
 have c1:=nv z3 (dp r.blocks).length
 unfold cm at c1
 rw[List.drop_left' rfl] at c1
 obtain⟨p1,p2⟩:=Bi (nJ c1 q) (by rw[List.length_take];omega)
 have e:cm ⟨r.blocks++[dC (r.head.take q)],r.head.drop q⟩=cm r:=by
  unfold cm
  simp only[iq]
  rw[show dp [dC (r.head.take q)]=r.head.take q by unfold dp;simp[p2],List.append_assoc,List.take_append_drop]
 refine⟨x9 (by simp only[List.length_append,List.length_singleton];omega) ?_ (by rw[e];exact z3),e⟩
 simp only[jx,z2,if_true]
 rw[bU,if_pos p1,bU]
theorem Hw {r:Rw}(h:dV r=0)(q:Nat)(x y:Bk)(hx:r.blocks[q]? =some x)(hy:r.blocks[q+1]? =some y):
  dV ⟨r.blocks.take q++eO x y::r.blocks.drop (q+2),r.head⟩=0/\cm ⟨r.blocks.take q++eO x y::r.blocks.drop (q+2),r.head⟩=cm r:=by
 obtain⟨z1,z2,z3⟩:=ig h
 have CB:r.blocks=r.blocks.take q++(x::y::r.blocks.drop (q+2)):=by
  have e1:r.blocks.drop q=x::r.blocks.drop (q+1):=by
   obtain⟨h',rfl⟩:=List.getElem?_eq_some_iff.1 hx
   exact List.drop_eq_getElem_cons h'
  have e2:r.blocks.drop (q+1)=y::r.blocks.drop (q+2):=by
   obtain⟨h',rfl⟩:=List.getElem?_eq_some_iff.1 hy
   exact List.drop_eq_getElem_cons h'
  rw[<-e2,<-e1,List.take_append_drop]
 have px:=mW z2 x (List.mem_of_getElem? hx)
 have py:=mW z2 y (List.mem_of_getElem? hy)
 generalize r.blocks.take q=A at*
 generalize r.blocks.drop (q+2)=D at*
 have RC:cm r=dp A++((bi x++bi y)++(dp D++r.head)):=by
  unfold cm
  rw[CB,iq]
  unfold dp
  simp[List.append_assoc]
 have c1:=nv z3 (dp A).length
 rw[RC,List.drop_left' rfl] at c1
 have c2:=nJ c1 (bi x++bi y).length
 rw[List.take_left' rfl] at c2
 have lp:0<(bi x++bi y).length:=by rw[List.length_append];have:=jb px;omega
 obtain⟨p1,p2⟩:=Bi c2 lp
 have em:eO x y=dC (bi x++bi y):=by unfold eO;rw[if_pos ⟨px,py⟩]
 have e:cm ⟨A++eO x y::D,r.head⟩=cm r:=by
  rw[RC,em]
  unfold cm
  simp only[iq]
  rw[show dp (dC (bi x++bi y)::D)=(bi x++bi y)++dp D by unfold dp;rw[List.flatMap_cons,p2],List.append_assoc,List.append_assoc]
 have zz:=z2
 rw[CB,jx] at zz
 have zA:bU A=0:=by
  by_cases h0:bU A=0
  .exact h0
  rw[if_neg h0] at zz
  exact zz
 rw[if_pos zA,bU,if_pos px,bU,if_pos py] at zz
 refine⟨x9 ?_ ?_ (by rw[e];exact z3),e⟩
 .have:=z1
  rw[CB] at this
  simp only[List.length_append,List.length_cons] at this⊢
  omega
 simp only[jx,zA,if_true]
 rw[em,bU,if_pos p1]
 exact zz
def putRow (l:List Rw)(x:En):Rw:=⟨(l.getD x.s.toNat fj).blocks,(l.getD x.s.toNat fj).head++[(x.t,x.v)]⟩
def fo (l:List Rw)(x:En):Int:=if dG x.s 0 3=false then 5 else dV (putRow l x)
def iV (l:List Rw)(x:En):List Rw:=l.set x.s.toNat (putRow l x)
def gn:List Rw->List En->Int
 |_,[]=>0
 |l,x::r=>if fo l x=0 then gn (iV l x) r else fo l x
def jl:List Rw->List En->List Rw
 |l,[]=>l
 |l,x::r=>jl (iV l x) r
def fB (l:List Rw)(b:List En):Int:=if 10<b.length then 2 else gn l b
def iO (l:List Rw)(b:List En):List Rw:=if fB l b=0 then jl l b else []
theorem se {l:List Rw}{x:En}(h:fo l x=0):dG x.s 0 3=true/\dV (putRow l x)=0:=by
 unfold fo at h
 split at h
 .cases h
 rename_i h0
 exact⟨by simpa using h0,h⟩
theorem eY.put {l:List Rw}(h:eY l){x:En}(hx:fo l x=0):eY (iV l x):=by
 obtain⟨_,h1⟩:=se hx
 obtain⟨z1,z2,z3⟩:=ig h1
 refine⟨by unfold iV;rw[List.length_set];exact h.four,fun r hr=>?_⟩
 rcases List.mem_or_eq_of_mem_set hr with hr|rfl
 .exact h.few r hr
 have:=(eN z3).1
 unfold cm at this
 rw[List.length_append] at this
 exact⟨z1,by omega⟩
theorem qO {s:Int}(h:dG s 0 3=true):∃k:Nat,s=k/\k<4:=by
 unfold dG at h
 have:0<=s/\s<=3:=by simpa using h
 exact⟨s.toNat,by omega,by omega⟩
def fN (n:Int):Int:=if dG n 0 100001=false then 3 else 0
def fb (n:Int)(r:Rw):Rw:=⟨r.blocks.filter (fun b=> !decide (b.to<n)),r.head⟩
def iI (l:List Rw)(n:Int):List Rw:=if fN n=0 then l.map (fb n) else []
theorem BE:∀ {l:List Rw},(∀r∈l,dV r=0)->iX l=0
 | [],_=>rfl
 |x::l,h=>by
  unfold iX
  rw[if_pos (h x List.mem_cons_self)]
  exact BE (fun r hr=>h r (List.mem_cons_of_mem _ hr))
theorem yz {l:List Rw}(h4:l.length=4)(h:∀r∈l,dV r=0):az l=0:=by
 unfold az
 rw[if_pos h4]
 exact BE h
theorem jN {l:List Rw}(h:az l=0):l.length=4/\∀r∈l,dV r=0:=
 ⟨(i7 h).1,lT (i7 h).2⟩
theorem vA {l:List Rw}{k:Nat}(hk:k<l.length):l.getD k fj∈l:=by
 rw[List.getD,List.getElem?_eq_getElem hk]
 exact List.getElem_mem hk
theorem qI {l:List Rw}{k:Nat}{r:Rw}(h:az l=0)(hr:dV r=0):az (l.set k r)=0:=by
 obtain⟨h4,hm⟩:=jN h
 refine yz (by rw[List.length_set];exact h4) (fun x hx=>?_)
 rcases List.mem_or_eq_of_mem_set hx with hx|rfl
 .exact hm x hx
 exact hr
theorem BV {l:List Rw}{k j:Nat}{r:Rw}(hk:k<l.length):(l.set k r).getD j fj=if j=k then r else l.getD j fj:=by
 rw[List.getD,List.getD]
 by_cases h:j=k
 .subst h
  rw[if_pos rfl,List.getElem?_set_self hk]
  rfl
 rw[if_neg h,List.getElem?_set_ne (fun e=>h e.symm)]
theorem vP:∀(L:List En) (l:List Rw),az l=0->gn l L=0->az (jl l L)=0
 | [],l,h,_=>h
 |x::r,l,h,h'=>by
  unfold gn at h'
  split at h'
  .rename_i h0
   exact vP r _ (qI h (se h0).2) h'
  rename_i h0
  exact absurd h' h0
theorem HA {l:List Rw}{L:List En}(h:fB l L=0):L.length<=10/\gn l L=0/\iO l L=jl l L:=by
 have h':=h
 unfold fB at h
 split at h
 .cases h
 exact⟨by omega,h,by unfold iO;rw[if_pos h']⟩
theorem Hz {l:List Rw}{s n:Int}(h:az l=0)(hs:eB l s n=0):
  az (gA l s n)=0/\∀j:Nat,cm ((gA l s n).getD j fj)=cm (l.getD j fj):=by
 have rP:=hs
 unfold eB at hs
 split at hs
 .cases hs
 rename_i h0
 split at hs
 .cases hs
 rename_i h1
 split at hs
 .cases hs
 rename_i h2
 obtain⟨k,rfl,hk⟩:=qO (by simpa using h0)
 rw[Int.toNat_natCast] at h1 h2
 have hn:1<=n/\n<=(l.getD k fj).head.length:=by
  have:dG n 1 (l.getD k fj).head.length=true:=by simpa using h1
  exact of_decide_eq_true this
 obtain⟨h4,hm⟩:=jN h
 have hr:=hm _ (vA (l:=l) (k:=k) (by omega))
 obtain⟨a1,a2⟩:=KF hr n.toNat (by omega) (by omega) (by omega)
 unfold gA
 rw[if_pos rP,Int.toNat_natCast]
 refine⟨qI h a1,fun j=>?_⟩
 rw[BV (by omega)]
 split
 .rename_i e
  rw[e,a2]
 rfl
theorem EK {r:Rw}{q:Nat}(h:q<r.blocks.length):r.blocks[q]? =some (mc r q):=by
 unfold mc
 rw[List.getD,List.getElem?_eq_getElem h]
 rfl
theorem Lf {l:List Rw}{s n:Int}(h:az l=0)(hs:gG l s n=0):
  az (j7 l s n)=0/\∀j:Nat,cm ((j7 l s n).getD j fj)=cm (l.getD j fj):=by
 have rP:=hs
 unfold gG at hs
 split at hs
 .cases hs
 rename_i h0
 split at hs
 .cases hs
 rename_i h1
 obtain⟨k,rfl,hk⟩:=qO (by simpa using h0)
 rw[Int.toNat_natCast] at h1 hs
 have hn:0<=n/\n<=(l.getD k fj).blocks.length-2:=by
  have:dG n 0 ((l.getD k fj).blocks.length-2)=true:=by simpa using h1
  exact of_decide_eq_true this
 obtain⟨q,rfl⟩:=Int.eq_ofNat_of_zero_le hn.1
 obtain⟨h4,hm⟩:=jN h
 have hr:=hm _ (vA (l:=l) (k:=k) (by omega))
 rw[Int.toNat_natCast] at hs
 have b0:=EK (r:=l.getD k fj) (q:=q) (by omega)
 have b1:=EK (r:=l.getD k fj) (q:=q+1) (by omega)
 obtain⟨a1,a2⟩:=Hw hr q _ _ b0 b1
 unfold j7
 rw[if_pos rP,Int.toNat_natCast,Int.toNat_natCast]
 refine⟨qI h a1,fun j=>?_⟩
 rw[BV (by omega)]
 split
 .rename_i e
  rw[e,a2]
 rfl
theorem y8:∀(l:List Pt) (a:Int),fp a l=0->l.Pairwise (fun p q=>p.1<q.1)/\∀p∈l,a<p.1/\ft p=true
 | [],_,_=>⟨List.Pairwise.nil,fun p hp=>by simp at hp⟩
 |p::r,a,h=>by
  obtain⟨h1,h2,h3⟩:=jQ h
  obtain⟨i1,i2⟩:=y8 r p.1 h3
  refine⟨List.Pairwise.cons (fun q hq=>(i2 q hq).1) i1,fun q hq=>?_⟩
  rcases List.mem_cons.1 hq with rfl|hq
  .exact⟨h2,h1⟩
  exact⟨by have:=(i2 q hq).1;omega,(i2 q hq).2⟩
theorem Dh {l:List Pt}(h:aH l=0):l.Pairwise (fun p q=>p.1<q.1)/\∀p∈l,ft p=true:=by
 unfold aH at h
 split at h
 .cases h
 obtain⟨h1,h2⟩:=y8 l _ h
 exact⟨h1,fun p hp=>(h2 p hp).2⟩
theorem JC {b:Bk}(h:bP b=0):b.to=lE (bi b):=by
 have h':=h
 unfold bP at h
 split at h
 .split at h
  .rename_i hf
   have:=(of_decide_eq_true hf:0<_/\_).2.2
   unfold bi
   rw[if_pos h']
   exact this
  cases h
 rename_i hn
 exact absurd h hn
theorem Cb {l:List Pt}(h:0<l.length):∃p∈l,p.1=lE l/\l.getLast?=some p:=by
 have hk:l.length-1<l.length:=by omega
 refine⟨l[l.length-1],List.getElem_mem hk,?_,?_⟩
 .unfold lE
  rw[List.getD,List.getElem?_eq_getElem hk]
  rfl
 rw[List.getLast?_eq_getElem?,List.getElem?_eq_getElem hk]
theorem Ii {l:List Pt}(h:l.Pairwise (fun p q=>p.1<q.1))(p:Pt)(hp:p∈l):p.1<=lE l:=by
 obtain⟨i,hi,rfl⟩:=List.mem_iff_getElem.1 hp
 unfold lE
 have hk:l.length-1<l.length:=by omega
 rw[List.getD,List.getElem?_eq_getElem hk]
 show l[i].1<=l[l.length-1].1
 by_cases e:i=l.length-1
 .subst e
  exact Int.le_refl _
 exact Int.le_of_lt (List.pairwise_iff_getElem.1 h i (l.length-1) hi hk (by omega))
theorem tN (n:Int):∀(bs:List Bk),bU bs=0->(dp bs).Pairwise (fun p q=>p.1<q.1)->
  ∃A B,bs=A++B/\bs.filter (fun b=> !decide (b.to<n))=B/\∀p∈dp A,p.1<n
 | [],_,_=>⟨[],[],rfl,rfl,fun p hp=>by simp[dp] at hp⟩
 |b::r,h,hp=>by
  unfold bU at h
  split at h
  .rename_i h0
   have hl:dp (b::r)=bi b++dp r:=rfl
   rw[hl,List.pairwise_append] at hp
   obtain⟨p1,p2,p3⟩:=hp
   have et:=JC h0
   have pos:=jb h0
   by_cases hb:b.to<n
   .obtain⟨A,B,e1,e2,e3⟩:=tN n r h p2
    refine⟨b::A,B,by rw[e1];rfl,by rw[List.filter_cons_of_neg (by simpa using hb)];exact e2,fun p hp=>?_⟩
    rw[show dp (b::A)=bi b++dp A from rfl,List.mem_append] at hp
    rcases hp with hp|hp
    .have:=Ii p1 p hp
     omega
    exact e3 p hp
   refine⟨[],b::r,rfl,?_,fun p hp=>by simp[dp] at hp⟩
   rw[List.filter_eq_self]
   intro c hc
   rcases List.mem_cons.1 hc with rfl|hc
   .simpa using hb
   have rN:=mW h c hc
   obtain⟨q,hq,eq,_⟩:=Cb (jb rN)
   obtain⟨u,hu,eu,_⟩:=Cb pos
   have:=p3 u hu q (List.mem_flatMap.2 ⟨c,hc,hq⟩)
   have ec:=JC rN
   have:¬c.to<n:=by omega
   simpa using this
  rename_i h0
  exact absurd h h0
theorem LP {n:Int}{r:Rw}(h:dV r=0):dV (fb n r)=0/\∃m,m<=(cm r).length/\cm (fb n r)=(cm r).drop m/\∀p∈(cm r).take m,p.1<n:=by
 obtain⟨z1,z2,z3⟩:=ig h
 have hr:=(Dh z3).1
 unfold cm at hr
 rw[List.pairwise_append] at hr
 obtain⟨A,B,e1,e2,e3⟩:=tN n r.blocks z2 hr.1
 have ea:cm (fb n r)=(cm r).drop (dp A).length:=by
  unfold cm fb
  simp only
  rw[e2]
  conv=>rhs;rw[e1,iq,List.append_assoc,List.drop_left' rfl]
 have zB:bU B=0:=by
  rw[e1,jx] at z2
  by_cases h0:bU A=0
  .rwa[if_pos h0] at z2
  rw[if_neg h0] at z2
  exact absurd z2 h0
 refine⟨x9 ?_ (by show bU (r.blocks.filter _)=0;rw[e2];exact zB) (by rw[ea];exact nv z3 _),(dp A).length,?_,ea,?_⟩
 .show(r.blocks.filter _).length<=8
  exact Nat.le_trans (List.length_filter_le _ _) z1
 .unfold cm
  rw[e1,iq,List.length_append,List.length_append]
  omega
 intro p hp
 unfold cm at hp
 rw[e1,iq,List.append_assoc,List.take_left' rfl] at hp
 exact e3 p hp
theorem drop_zero {l:List Rw}{n:Int}(h:az l=0):az (l.map (fb n))=0/\∀j:Nat,j<4->(l.map (fb n)).getD j fj=fb n (l.getD j fj):=by
 obtain⟨h4,hm⟩:=jN h
 refine⟨yz (by rw[List.length_map];exact h4) (fun r hr=>?_),fun j hj=>?_⟩
 .obtain⟨x,hx,rfl⟩:=List.mem_map.1 hr
  exact(LP (hm x hx)).1
 rw[List.getD,List.getD,List.getElem?_map,List.getElem?_eq_getElem (by omega)]
 rfl
def X0 (x:Nt):En:=⟨x.1,x.2.1,x.2.2⟩
def yc (l:List Nt):List En:=l.map X0
def gm (C:List Rw)(r:Rc):Int:=if r.k=1 then fB C (yc r.e) else if r.k=2 then eB C r.s r.n else if r.k=3 then gG C r.s r.n else fN r.n
def gj (C:List Rw)(r:Rc):List Rw:=if r.k=1 then iO C (yc r.e) else if r.k=2 then gA C r.s r.n else if r.k=3 then j7 C r.s r.n else iI C r.n
def bJ (C:List Rw)(r:Rc):Int:=if az C≠0 then az C else if aP r≠0 then aP r else gm C r
def dH (C:List Rw)(r:Rc):List Rw:=if az C≠0 then [] else if aP r≠0 then [] else gj C r
theorem EB (C:List Rw)(r:Rc):(r.k=1->gm C r=fB C (yc r.e)/\gj C r=iO C (yc r.e))/\(r.k=2->gm C r=eB C r.s r.n/\gj C r=gA C r.s r.n)/\(r.k=3->gm C r=gG C r.s r.n/\gj C r=j7 C r.s r.n)/\(r.k=4->gm C r=fN r.n/\gj C r=iI C r.n):=by
 unfold gm gj
 refine⟨fun h=>?_,fun h=>?_,fun h=>?_,fun h=>?_⟩<;>simp[h]
theorem LZ {C:List Rw}{r:Rc}(h:gm C r≠0):gj C r=[]:=by
 unfold gm at h
 unfold gj
 split
 .rename_i h1
  rw[if_pos h1] at h
  exact if_neg h
 rename_i h1
 rw[if_neg h1] at h
 split
 .rename_i h2
  rw[if_pos h2] at h
  exact if_neg h
 rename_i h2
 rw[if_neg h2] at h
 split
 .rename_i h3
  rw[if_pos h3] at h
  exact if_neg h
 rename_i h3
 rw[if_neg h3] at h
 exact if_neg h
theorem AG {C:List Rw}{r:Rc}(h:bJ C r≠0):dH C r=[]:=by
 unfold bJ at h
 unfold dH
 split
 .rfl
 rename_i h1
 rw[if_neg h1] at h
 split
 .rfl
 rename_i h2
 rw[if_neg h2] at h
 exact LZ h
theorem Iy {C:List Rw}{r:Rc}(h:bJ C r=0):az C=0/\aP r=0/\gm C r=0/\dH C r=gj C r:=by
 have h':=h
 unfold bJ at h
 unfold dH
 split at h
 .contradiction
 rename_i h1
 split at h
 .contradiction
 rename_i h2
 rw[if_neg h1,if_neg h2]
 exact⟨Decidable.not_not.1 h1,Decidable.not_not.1 h2,h,rfl⟩
theorem wu {C:List Rw}{r:Rc}(h:az C=0)(hw:gm C r=0):az (gj C r)=0:=by
 unfold gm at hw
 unfold gj
 split
 .rename_i h1
  rw[if_pos h1] at hw
  obtain⟨_,h2,h3⟩:=HA hw
  rw[h3]
  exact vP _ _ h h2
 rename_i h1
 rw[if_neg h1] at hw
 split
 .rename_i h2
  rw[if_pos h2] at hw
  exact(Hz h hw).1
 rename_i h2
 rw[if_neg h2] at hw
 split
 .rename_i h3
  rw[if_pos h3] at hw
  exact(Lf h hw).1
 rename_i h3
 rw[if_neg h3] at hw
 unfold iI
 rw[if_pos hw]
 exact(drop_zero h).1
theorem gV {C:List Rw}{r:Rc}(h:bJ C r=0):az (dH C r)=0:=by
 obtain⟨h1,_,h3,h4⟩:=Iy h
 rw[h4]
 exact wu h1 h3
theorem bZ {C:List Rw}(h:az C=0):C.length=4:=(i7 h).1
def aW:List Rw->List Rc->List Rw × Int
 |C,[]=>(C,0)
 |C,r::l=>if bJ C r=0 then aW (dH C r) l else([],bJ C r)
def dm:List Rw:=[fj,fj,fj,fj]
def du (l:List Rc):Int:=if 60<l.length then 2 else(aW dm l).2
def cd (l:List Rc):List Rw:=if 60<l.length then [] else(aW dm l).1
theorem mv:az dm=0:=by decide
theorem ob (C:List Rw)(r:Rc)(l:List Rc):aW C (r::l)=if bJ C r=0 then aW (dH C r) l else([],bJ C r):=rfl
theorem jC:∀(a b:List Rc) (C:List Rw),aW C (a++b)=if(aW C a).2=0 then aW (aW C a).1 b else([],(aW C a).2)
 | [],b,C=>by simp[aW]
 |r::a,b,C=>by
  rw[List.cons_append,ob,ob]
  split
  .exact jC a b _
  rfl
theorem mK:∀(l:List Rc) (C:List Rw),az C=0->(aW C l).2=0->az (aW C l).1=0
 | [],C,h,_=>h
 |r::l,C,h,h'=>by
  unfold aW at h'⊢
  split at h'
  .rename_i h1
   rw[if_pos h1]
   exact mK l _ (gV h1) h'
  rename_i h1
  exact absurd h' h1
theorem sd (l:List Rc)(r:Rc)(C:List Rw)(h:(aW C l).2=0):aW C (l++[r])=if bJ (aW C l).1 r=0 then(dH (aW C l).1 r,0) else([],bJ (aW C l).1 r):=by
 rw[jC,if_pos h]
 rfl
theorem Ar (a b:List Rc)(r:Rc)(C:List Rw)(h:(aW C a).2=0)(h':bJ (aW C a).1 r≠0):aW C (a++r::b)=([],bJ (aW C a).1 r):=by
 rw[jC,if_pos h,ob,if_neg h']
end Go.Proofs.YtoonnbhoiocoeaaGreatDoor
