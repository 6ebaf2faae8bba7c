/-
  What the operations on a shelf make of it, as plain lists: seal, merge, drop, put; what a shelf that is right has. No program is named.
-/
import Derived.Test.YtoonnbhoiocoeaaGreatDoorP07
import Derived.Test.YtoonnbhoiocoeaaGreatDoorP04
import Derived.Test.YtoonnbhoiocoeaaGreatDoorP03
set_option maxHeartbeats 40000000
set_option maxRecDepth 100000
set_option linter.unusedVariables false
namespace Go.Proofs.YtoonnbhoiocoeaaGreatDoor
open Go.RowKit
def dN:Rw:=⟨[],[]⟩
def dw (x a b:Int):Bool:=decide (a<=x/\x<=b)
def eJ (l:List Rw)(s n:Int):Int:=
 if dw s 0 3=false then 5 else if dw n 1 (l.getD s.toNat dN).head.length=false then 3 else if 8<=(l.getD s.toNat dN).blocks.length then 2 else 0
def gn (l:List Rw)(s n:Int):List Rw:=
 if eJ l s n=0 then l.set s.toNat ⟨(l.getD s.toNat dN).blocks++[dx ((l.getD s.toNat dN).head.take n.toNat)],(l.getD s.toNat dN).head.drop n.toNat⟩ else []
def ls (r:Rw)(k:Nat):Bk:=r.blocks.getD k vM
def gm (l:List Rw)(s k:Int):Int:=
 if dw s 0 3=false then 5 else if dw k 0 ((l.getD s.toNat dN).blocks.length-2)=false then 3 else eG (ls (l.getD s.toNat dN) k.toNat) (ls (l.getD s.toNat dN) (k.toNat+1))
def jQ (l:List Rw)(s k:Int):List Rw:=
 if gm l s k=0 then l.set s.toNat ⟨(l.getD s.toNat dN).blocks.take k.toNat++(eS (ls (l.getD s.toNat dN) k.toNat) (ls (l.getD s.toNat dN) (k.toNat+1))::(l.getD s.toNat dN).blocks.drop (k.toNat+2)),(l.getD s.toNat dN).head⟩ else []
structure ff (l:List Rw):Prop where
 four:l.length=4
 few:∀r∈l,r.blocks.length<=8/\r.head.length<=40
theorem ku:∀ {l:List Rw},lv l=0->∀r∈l,dV r=0
 | [],_,r,hr=>by simp at hr
 |x::l,h,r,hr=>by
  unfold lv at h
  split at h
  .rename_i h0
   rcases List.mem_cons.1 hr with rfl|hr
   .exact h0
   .exact ku h r hr
  .rename_i h0
   exact absurd h h0
theorem ii {r:Rw}(h:dV r=0):r.blocks.length<=8/\bV r.blocks=0/\aJ (be r)=0:=by
 unfold dV at h
 split at h
 .cases h
 .split at h
  .exact⟨by omega,by assumption,h⟩
  .rename_i h1
   exact absurd h h1
theorem iU {l:List Rw}(h:aE l=0):l.length=4/\lv l=0:=by
 unfold aE at h
 split at h
 .exact⟨by assumption,h⟩
 .cases h
theorem jJ {l:List Rw}(h:aE l=0):ff l:=by
 obtain⟨h4,hr⟩:=iU h
 refine⟨h4,fun r CV=>?_⟩
 obtain⟨h1,_,h3⟩:=ii (ku hr r CV)
 have:=(eU h3).1
 unfold be at this
 rw[List.length_append] at this
 exact⟨h1,by omega⟩
theorem qQ {α:Type}{f:α->List Value}(x:α)(u v:Value)(hu:f x=[u,v])(hf:∀x,(f x).length=2):∀(l:List α) (k:Nat),k<l.length->((l.flatMap f).set (k*2) u).set (k*2+1) v=(l.set k x).flatMap f
 | [],k,h=>by simp at h
 |y::r,0,_=>by
  have h:=hf y
  obtain⟨y0,y1,e⟩:∃y0 y1,f y=[y0,y1]:=by
   match f y,h with
   | [y0,y1],_=>exact⟨y0,y1,rfl⟩
  rw[List.flatMap_cons,List.set_cons_zero,List.flatMap_cons,e,hu]
  rfl
 |y::r,k+1,h=>by
  have ih:=qQ x u v hu hf r k (by simpa using h)
  have e:(f y).length=2:=hf y
  rw[List.flatMap_cons,List.set_cons_succ,List.flatMap_cons,<-ih,List.set_append_right _ _ (by rw[e];omega),e,List.set_append_right _ _ (by rw[e];omega),e,
   show(k+1)*2-2=k*2 by omega,show(k+1)*2+1-2=k*2+1 by omega]
end Go.Proofs.YtoonnbhoiocoeaaGreatDoor
namespace Go.Proofs.YtoonnbhoiocoeaaGreatDoor
open Go.RowKit
theorem ac.put4 {w:World}{g:Nat}{c0 c1 c2 c3:Value}{t:TypeId}(h:ac w g [c0,c1,c2,c3] t)(u0 u1 u2 u3:Value):
  ac ((((w.setCell ⟨g,0,none⟩ u0).setCell ⟨g,1,none⟩ u1).setCell ⟨g,2,none⟩ u2).setCell ⟨g,3,none⟩ u3) g [u0,u1,u2,u3] t:=
 (((h.set 0 u0).set 1 u1).set 2 u2).set 3 u3
theorem ig {B:Nat}{w W:World}(h:Below B w W){g:Nat}(hg:B<=g)(u0 u1 u2 u3:Value):
  Below B w ((((W.setCell ⟨g,0,none⟩ u0).setCell ⟨g,1,none⟩ u1).setCell ⟨g,2,none⟩ u2).setCell ⟨g,3,none⟩ u3):=
 (((h.setCell hg _).setCell hg _).setCell hg _).setCell hg _
theorem Sl.offBlock {w:World}{ao:Option Addr}{cap g:Nat}{P:List Bool}{x y z:Int}{a:Option Addr}{n c:Nat}{t:TypeId}(s:Sl w ao cap (P.map Value.bool))(B:ac w g [.int .i64 x,.int .i64 y,.int .i64 z,.slice a n c] t)(hP:P≠[]):Off g ao:=by
 obtain⟨b,off,rfl,hb,hc⟩:=s.row.at (by simpa using hP)
 intro ad e
 cases e
 intro e
 have e:b=g:=e
 subst e
 obtain⟨p,r,rfl⟩:=List.exists_cons_of_ne_nil hP
 have h0:=hc 0 (.bool p) (by simp)
 rw[Nat.add_zero,B.cell] at h0
 match off,h0 with
 |0,h0=>simp at h0
 |1,h0=>simp at h0
 |2,h0=>simp at h0
 |3,h0=>simp at h0
 |k+4,h0=>simp at h0
theorem Sl.put4 {w:World}{ao:Option Addr}{cap g:Nat}{P:List Bool}{x y z:Int}{a:Option Addr}{n c:Nat}{t:TypeId}(s:Sl w ao cap (P.map Value.bool))(B:ac w g [.int .i64 x,.int .i64 y,.int .i64 z,.slice a n c] t)(u0 u1 u2 u3:Value):
  Sl ((((w.setCell ⟨g,0,none⟩ u0).setCell ⟨g,1,none⟩ u1).setCell ⟨g,2,none⟩ u2).setCell ⟨g,3,none⟩ u3) ao cap (P.map Value.bool):=by
 by_cases hP:P=[]
 .subst hP
  exact⟨.inl rfl,s.le,s.max,s.nil⟩
 .exact s.off (ak (ak (ak (ak (au _ _) 0 u0) 1 u1) 2 u2) 3 u3) (s.offBlock B hP)
theorem Sl.drewS {w:World}{ao:Option Addr}{cap:Nat}{cs:List Value}(h:Sl w ao cap cs):Sl w.drew ao cap cs:=h.drewN 1
theorem aI.drewS {w:World}{ao:Option Addr}{cap:Nat}{l:List Pt}(h:aI w ao cap l):aI w.drew ao cap l:=h.drewN 1
theorem aI.first {w:World}{b off cap:Nat}{l:List Pt}(h:aI w (some ⟨b,off,none⟩) cap l)(hl:0<l.length):w.cell? ⟨b,off,none⟩=some (.int .i64 (firstT l)):=by
 obtain⟨x,y,e0,_,hx,_⟩:=h.pt 0 hl
 rw[Nat.zero_mul,Nat.add_zero] at e0
 rw[e0]
 simp[firstT,List.getD,hx]
theorem aI.last {w:World}{b off cap:Nat}{l:List Pt}(h:aI w (some ⟨b,off,none⟩) cap l)(hl:0<l.length):w.cell? ⟨b,off+(l.length-1)*2,none⟩=some (.int .i64 (k6 l)):=by
 obtain⟨x,y,e0,_,hx,_⟩:=h.pt (l.length-1) (by omega)
 rw[e0]
 simp[k6,List.getD,hx]
theorem three (w:World)(x y z:List Value)(t:TypeId):ac (((w.alloc (.cells x.toArray t)).alloc (.cells y.toArray t)).alloc (.cells z.toArray t)) (w.heap.size+1) y t/\
  ac (((w.alloc (.cells x.toArray t)).alloc (.cells y.toArray t)).alloc (.cells z.toArray t)) (w.heap.size+2) z t/\Below w.heap.size w (((w.alloc (.cells x.toArray t)).alloc (.cells y.toArray t)).alloc (.cells z.toArray t)):=
 ⟨(ac.laid _ y t _ (by simp)).alc _,ac.laid _ z t _ (by simp),pC w _ _ _⟩
theorem iS {b:Bk}(h:bI b=0):0<(aX b).length:=by
 unfold aX
 rw[if_pos h]
 unfold bI at h
 split at h
 .split at h
  .rename_i hf
   exact(of_decide_eq_true hf:0<_/\_).1
  .cases h
 .rename_i hn
  exact absurd h hn
theorem Im:(Tryz.prog.info? 56).map (·.size)=some 2:=by kernel_rfl
theorem aI.part {w:World}{ao:Option Addr}{cap:Nat}{l:List Pt}(h:aI w ao cap l)(p q:Nat)(RB:p<=q)(hq:q<=l.length):aI w (if cap=p then ao else Option.map (fun x=>x.add (p*2)) ao) (cap-p) ((l.take q).drop p):=by
 have fF:=h.le
 have aw:((l.take q).drop p).length=q-p:=by rw[List.length_drop,List.length_take];omega
 refine⟨?_,by rw[aw];omega,by have:=h.max;omega,?_⟩
 .by_cases he:p=q
  .left
   have e:(l.take q).drop p=[]:=List.eq_nil_of_length_eq_zero (by rw[aw];omega)
   rw[e]
   rfl
  .right
   obtain⟨b,off,rfl,hb,hc⟩:=(h.front q).row.at (fun e=>by
    have h0:=ni e
    have:(l.take q).length=0:=by rw[h0];rfl
    rw[List.length_take] at this
    omega)
   rw[if_neg (by omega)]
   refine⟨b,off+p*2,by rw[Option.map_some,Addr.add_lit],hb,fun i v hv=>?_⟩
   rw[<-sN,List.getElem?_drop] at hv
   rw[Nat.add_assoc]
   exact hc _ _ hv
 .intro e
  by_cases hc:cap=p
  .omega
  .rw[if_neg hc] at e
   have:=h.nil (by simpa using e)
   omega
theorem av {w W:World}(h:Below w.heap.size w W)(o:Obj):Below w.heap.size w (W.alloc o):=h.alloc h.size o
end Go.Proofs.YtoonnbhoiocoeaaGreatDoor
namespace Go.Proofs.YtoonnbhoiocoeaaGreatDoor
open Go.RowKit
theorem jp:∀a b:List Bk,bV (a++b)=if bV a=0 then bV b else bV a
 | [],b=>by simp[bV]
 |x::r,b=>by
  rw[List.cons_append,bV,bV,jp r b]
  split
  .rfl
  .rfl
theorem il (a b:List Bk):dm (a++b)=dm a++dm b:=by unfold dm;rw[List.flatMap_append]
theorem wX {r:Rw}(h1:r.blocks.length<=8)(h2:bV r.blocks=0)(h3:aJ (be r)=0):dV r=0:=by
 unfold dV
 rw[if_neg (by omega),if_pos h2]
 exact h3
theorem mR:∀ {l:List Bk},bV l=0->∀b∈l,bI b=0
 | [],_,b,hb=>by simp at hb
 |x::r,h,b,hb=>by
  unfold bV at h
  split at h
  .rename_i h0
   rcases List.mem_cons.1 hb with rfl|hb
   .exact h0
   .exact mR h b hb
  .rename_i h0
   exact absurd h h0
theorem Jr {r:Rw}(h:dV r=0)(q:Nat)(h1:1<=q)(h2:q<=r.head.length)(hb:r.blocks.length<8):
  dV ⟨r.blocks++[dx (r.head.take q)],r.head.drop q⟩=0/\be ⟨r.blocks++[dx (r.head.take q)],r.head.drop q⟩=be r:=by
 obtain⟨_,z2,z3⟩:=ii h
 have c1:=mZ z3 (dm r.blocks).length
 unfold be at c1
 rw[List.drop_left' rfl] at c1
 obtain⟨p1,p2⟩:=zV (m6 c1 q) (by rw[List.length_take];omega)
 have e:be ⟨r.blocks++[dx (r.head.take q)],r.head.drop q⟩=be r:=by
  unfold be
  simp only[il]
  rw[show dm [dx (r.head.take q)]=r.head.take q by unfold dm;simp[p2],List.append_assoc,List.take_append_drop]
 refine⟨wX (by simp only[List.length_append,List.length_singleton];omega) ?_ (by rw[e];exact z3),e⟩
 simp only[jp,z2,if_true]
 rw[bV,if_pos p1,bV]
theorem F3 {r:Rw}(h:dV r=0)(q:Nat)(x y:Bk)(hx:r.blocks[q]? =some x)(hy:r.blocks[q+1]? =some y):
  dV ⟨r.blocks.take q++eS x y::r.blocks.drop (q+2),r.head⟩=0/\be ⟨r.blocks.take q++eS x y::r.blocks.drop (q+2),r.head⟩=be r:=by
 obtain⟨z1,z2,z3⟩:=ii h
 have Cl:r.blocks=r.blocks.take q++(x::y::r.blocks.drop (q+2)):=by
  have e1:r.blocks.drop q=x::r.blocks.drop (q+1):=by
   obtain⟨h',rfl⟩:=List.getElem?_eq_some_iff.1 hx
   exact List.drop_eq_getElem_cons h'
  have e2:r.blocks.drop (q+1)=y::r.blocks.drop (q+2):=by
   obtain⟨h',rfl⟩:=List.getElem?_eq_some_iff.1 hy
   exact List.drop_eq_getElem_cons h'
  rw[<-e2,<-e1,List.take_append_drop]
 have px:=mR z2 x (List.mem_of_getElem? hx)
 have py:=mR z2 y (List.mem_of_getElem? hy)
 generalize r.blocks.take q=A at*
 generalize r.blocks.drop (q+2)=D at*
 have Qv:be r=dm A++((aX x++aX y)++(dm D++r.head)):=by
  unfold be
  rw[Cl,il]
  unfold dm
  simp[List.append_assoc]
 have c1:=mZ z3 (dm A).length
 rw[Qv,List.drop_left' rfl] at c1
 have c2:=m6 c1 (aX x++aX y).length
 rw[List.take_left' rfl] at c2
 have lp:0<(aX x++aX y).length:=by rw[List.length_append];have:=iS px;omega
 obtain⟨p1,p2⟩:=zV c2 lp
 have em:eS x y=dx (aX x++aX y):=by unfold eS;rw[if_pos ⟨px,py⟩]
 have e:be ⟨A++eS x y::D,r.head⟩=be r:=by
  rw[Qv,em]
  unfold be
  simp only[il]
  rw[show dm (dx (aX x++aX y)::D)=(aX x++aX y)++dm D by unfold dm;rw[List.flatMap_cons,p2],List.append_assoc,List.append_assoc]
 have zz:=z2
 rw[Cl,jp] at zz
 have zA:bV A=0:=by
  by_cases h0:bV A=0
  .exact h0
  .rw[if_neg h0] at zz
   exact zz
 rw[if_pos zA,bV,if_pos px,bV,if_pos py] at zz
 refine⟨wX ?_ ?_ (by rw[e];exact z3),e⟩
 .have:=z1
  rw[Cl] at this
  simp only[List.length_append,List.length_cons] at this⊢
  omega
 .simp only[jp,zA,if_true]
  rw[em,bV,if_pos p1]
  exact zz
end Go.Proofs.YtoonnbhoiocoeaaGreatDoor
namespace Go.Proofs.YtoonnbhoiocoeaaGreatDoor
open Go.RowKit
def putRow (l:List Rw)(x:En):Rw:=⟨(l.getD x.s.toNat dN).blocks,(l.getD x.s.toNat dN).head++[(x.t,x.v)]⟩
def fm (l:List Rw)(x:En):Int:=if dw x.s 0 3=false then 5 else dV (putRow l x)
def fV (l:List Rw)(x:En):List Rw:=l.set x.s.toNat (putRow l x)
def fQ:List Rw->List En->Int
 |_,[]=>0
 |l,x::r=>if fm l x=0 then fQ (fV l x) r else fm l x
def hH:List Rw->List En->List Rw
 |l,[]=>l
 |l,x::r=>hH (fV l x) r
def fG (l:List Rw)(b:List En):Int:=if 10<b.length then 2 else fQ l b
def iH (l:List Rw)(b:List En):List Rw:=if fG l b=0 then hH l b else []
theorem nC {l:List Rw}{x:En}(h:fm l x=0):dw x.s 0 3=true/\dV (putRow l x)=0:=by
 unfold fm at h
 split at h
 .cases h
 .rename_i h0
  exact⟨by simpa using h0,h⟩
theorem ff.put {l:List Rw}(h:ff l){x:En}(hx:fm l x=0):ff (fV l x):=by
 obtain⟨_,h1⟩:=nC hx
 obtain⟨z1,z2,z3⟩:=ii h1
 refine⟨by unfold fV;rw[List.length_set];exact h.four,fun r hr=>?_⟩
 rcases List.mem_or_eq_of_mem_set hr with hr|rfl
 .exact h.few r hr
 .have:=(eU z3).1
  unfold be at this
  rw[List.length_append] at this
  exact⟨z1,by omega⟩
theorem nX {s:Int}(h:dw s 0 3=true):∃k:Nat,s=k/\k<4:=by
 unfold dw at h
 have:0<=s/\s<=3:=by simpa using h
 exact⟨s.toNat,by omega,by omega⟩
end Go.Proofs.YtoonnbhoiocoeaaGreatDoor
namespace Go.Proofs.YtoonnbhoiocoeaaGreatDoor
open Go.RowKit
def fP (n:Int):Int:=if dw n 0 100001=false then 3 else 0
def fh (n:Int)(r:Rw):Rw:=⟨r.blocks.filter (fun b=> !decide (b.to<n)),r.head⟩
def ip (l:List Rw)(n:Int):List Rw:=if fP n=0 then l.map (fh n) else []
end Go.Proofs.YtoonnbhoiocoeaaGreatDoor
namespace Go.Proofs.YtoonnbhoiocoeaaGreatDoor
open Go.RowKit
def ee (s:Int)(L:List En):List Pt:=(L.filter (fun x=>decide (x.s=s))).map (fun x=>(x.t,x.v))
theorem Ag:∀ {l:List Rw},(∀r∈l,dV r=0)->lv l=0
 | [],_=>rfl
 |x::l,h=>by
  unfold lv
  rw[if_pos (h x List.mem_cons_self)]
  exact Ag (fun r hr=>h r (List.mem_cons_of_mem _ hr))
theorem yF {l:List Rw}(h4:l.length=4)(h:∀r∈l,dV r=0):aE l=0:=by
 unfold aE
 rw[if_pos h4]
 exact Ag h
theorem fX {l:List Rw}(h:aE l=0):l.length=4/\∀r∈l,dV r=0:=
 ⟨(iU h).1,ku (iU h).2⟩
theorem mr {l:List Rw}{k:Nat}(hk:k<l.length):l.getD k dN∈l:=by
 rw[List.getD,List.getElem?_eq_getElem hk]
 exact List.getElem_mem hk
theorem qo {l:List Rw}{k:Nat}{r:Rw}(h:aE l=0)(hr:dV r=0):aE (l.set k r)=0:=by
 obtain⟨h4,hm⟩:=fX h
 refine yF (by rw[List.length_set];exact h4) (fun x hx=>?_)
 rcases List.mem_or_eq_of_mem_set hx with hx|rfl
 .exact hm x hx
 .exact hr
theorem ux {l:List Rw}{k j:Nat}{r:Rw}(hk:k<l.length):(l.set k r).getD j dN=if j=k then r else l.getD j dN:=by
 rw[List.getD,List.getD]
 by_cases h:j=k
 .subst h
  rw[if_pos rfl,List.getElem?_set_self hk]
  rfl
 .rw[if_neg h,List.getElem?_set_ne (fun e=>h e.symm)]
theorem zT:∀(L:List En) (l:List Rw),l.length=4->fQ l L=0->∀s:Nat,s<4->be ((hH l L).getD s dN)=be (l.getD s dN)++ee s L
 | [],l,_,_,s,_=>by simp[hH,ee]
 |x::r,l,h4,h,s,hs=>by
  unfold fQ at h
  split at h
  .rename_i h0
   obtain⟨h1,_⟩:=nC h0
   obtain⟨k,ek,hk⟩:=nX h1
   have ih:=zT r (fV l x) (by unfold fV;rw[List.length_set];exact h4) h s hs
   rw[hH,ih]
   unfold fV
   rw[ux (by rw[ek,Int.toNat_natCast,h4];exact hk)]
   unfold ee
   by_cases e:s=k
   .subst e
    rw[if_pos (by rw[ek,Int.toNat_natCast]),List.filter_cons_of_pos (by simpa using ek),List.map_cons]
    unfold putRow be
    rw[ek,Int.toNat_natCast]
    simp only[List.append_assoc,List.cons_append,List.nil_append]
   .rw[if_neg (by rw[ek,Int.toNat_natCast];exact e),List.filter_cons_of_neg (by simp[ek];omega)]
  .rename_i h0
   exact absurd h h0
theorem vB:∀(L:List En) (l:List Rw),aE l=0->fQ l L=0->aE (hH l L)=0
 | [],l,h,_=>h
 |x::r,l,h,h'=>by
  unfold fQ at h'
  split at h'
  .rename_i h0
   exact vB r _ (qo h (nC h0).2) h'
  .rename_i h0
   exact absurd h' h0
theorem yI {l:List Rw}{L:List En}(h:fG l L=0):L.length<=10/\fQ l L=0/\iH l L=hH l L:=by
 have h':=h
 unfold fG at h
 split at h
 .cases h
 .exact⟨by omega,h,by unfold iH;rw[if_pos h']⟩
theorem wW {l:List Rw}{s n:Int}(h:aE l=0)(hs:eJ l s n=0):
  aE (gn l s n)=0/\∀j:Nat,be ((gn l s n).getD j dN)=be (l.getD j dN):=by
 have oJ:=hs
 unfold eJ at hs
 split at hs
 .cases hs
 .rename_i h0
  split at hs
  .cases hs
  .rename_i h1
   split at hs
   .cases hs
   .rename_i h2
    obtain⟨k,rfl,hk⟩:=nX (by simpa using h0)
    rw[Int.toNat_natCast] at h1 h2
    have hn:1<=n/\n<=(l.getD k dN).head.length:=by
     have:dw n 1 (l.getD k dN).head.length=true:=by simpa using h1
     exact of_decide_eq_true this
    obtain⟨h4,hm⟩:=fX h
    have hr:=hm _ (mr (l:=l) (k:=k) (by omega))
    obtain⟨a1,a2⟩:=Jr hr n.toNat (by omega) (by omega) (by omega)
    unfold gn
    rw[if_pos oJ,Int.toNat_natCast]
    refine⟨qo h a1,fun j=>?_⟩
    rw[ux (by omega)]
    split
    .rename_i e
     rw[e,a2]
    .rfl
theorem Ed {r:Rw}{q:Nat}(h:q<r.blocks.length):r.blocks[q]? =some (ls r q):=by
 unfold ls
 rw[List.getD,List.getElem?_eq_getElem h]
 rfl
theorem Af {l:List Rw}{s n:Int}(h:aE l=0)(hs:gm l s n=0):
  aE (jQ l s n)=0/\∀j:Nat,be ((jQ l s n).getD j dN)=be (l.getD j dN):=by
 have oJ:=hs
 unfold gm at hs
 split at hs
 .cases hs
 .rename_i h0
  split at hs
  .cases hs
  .rename_i h1
   obtain⟨k,rfl,hk⟩:=nX (by simpa using h0)
   rw[Int.toNat_natCast] at h1 hs
   have hn:0<=n/\n<=(l.getD k dN).blocks.length-2:=by
    have:dw n 0 ((l.getD k dN).blocks.length-2)=true:=by simpa using h1
    exact of_decide_eq_true this
   obtain⟨q,rfl⟩:=Int.eq_ofNat_of_zero_le hn.1
   obtain⟨h4,hm⟩:=fX h
   have hr:=hm _ (mr (l:=l) (k:=k) (by omega))
   rw[Int.toNat_natCast] at hs
   have b0:=Ed (r:=l.getD k dN) (q:=q) (by omega)
   have b1:=Ed (r:=l.getD k dN) (q:=q+1) (by omega)
   obtain⟨a1,a2⟩:=F3 hr q _ _ b0 b1
   unfold jQ
   rw[if_pos oJ,Int.toNat_natCast,Int.toNat_natCast]
   refine⟨qo h a1,fun j=>?_⟩
   rw[ux (by omega)]
   split
   .rename_i e
    rw[e,a2]
   .rfl
theorem xF:∀(l:List Pt) (a:Int),fs a l=0->l.Pairwise (fun p q=>p.1<q.1)/\∀p∈l,a<p.1/\fv p=true
 | [],_,_=>⟨List.Pairwise.nil,fun p hp=>by simp at hp⟩
 |p::r,a,h=>by
  obtain⟨h1,h2,h3⟩:=jC h
  obtain⟨i1,i2⟩:=xF r p.1 h3
  refine⟨List.Pairwise.cons (fun q hq=>(i2 q hq).1) i1,fun q hq=>?_⟩
  rcases List.mem_cons.1 hq with rfl|hq
  .exact⟨h2,h1⟩
  .exact⟨by have:=(i2 q hq).1;omega,(i2 q hq).2⟩
theorem CF {l:List Pt}(h:aJ l=0):l.Pairwise (fun p q=>p.1<q.1)/\∀p∈l,fv p=true:=by
 unfold aJ at h
 split at h
 .cases h
 .obtain⟨h1,h2⟩:=xF l _ h
  exact⟨h1,fun p hp=>(h2 p hp).2⟩
theorem IB {b:Bk}(h:bI b=0):b.to=k6 (aX b):=by
 have h':=h
 unfold bI at h
 split at h
 .split at h
  .rename_i hf
   have:=(of_decide_eq_true hf:0<_/\_).2.2
   unfold aX
   rw[if_pos h']
   exact this
  .cases h
 .rename_i hn
  exact absurd h hn
theorem Ai {l:List Pt}(h:0<l.length):∃p∈l,p.1=k6 l/\l.getLast?=some p:=by
 have hk:l.length-1<l.length:=by omega
 refine⟨l[l.length-1],List.getElem_mem hk,?_,?_⟩
 .unfold k6
  rw[List.getD,List.getElem?_eq_getElem hk]
  rfl
 .rw[List.getLast?_eq_getElem?,List.getElem?_eq_getElem hk]
theorem Hg {l:List Pt}(h:l.Pairwise (fun p q=>p.1<q.1))(p:Pt)(hp:p∈l):p.1<=k6 l:=by
 obtain⟨i,hi,rfl⟩:=List.mem_iff_getElem.1 hp
 unfold k6
 have hk:l.length-1<l.length:=by omega
 rw[List.getD,List.getElem?_eq_getElem hk]
 show l[i].1<=l[l.length-1].1
 by_cases e:i=l.length-1
 .subst e
  exact Int.le_refl _
 .exact Int.le_of_lt (List.pairwise_iff_getElem.1 h i (l.length-1) hi hk (by omega))
theorem tt (n:Int):∀(bs:List Bk),bV bs=0->(dm bs).Pairwise (fun p q=>p.1<q.1)->
  ∃A B,bs=A++B/\bs.filter (fun b=> !decide (b.to<n))=B/\∀p∈dm A,p.1<n
 | [],_,_=>⟨[],[],rfl,rfl,fun p hp=>by simp[dm] at hp⟩
 |b::r,h,hp=>by
  unfold bV at h
  split at h
  .rename_i h0
   have hl:dm (b::r)=aX b++dm r:=rfl
   rw[hl,List.pairwise_append] at hp
   obtain⟨p1,p2,p3⟩:=hp
   have et:=IB h0
   have pos:=iS h0
   by_cases hb:b.to<n
   .obtain⟨A,B,e1,e2,e3⟩:=tt n r h p2
    refine⟨b::A,B,by rw[e1];rfl,by rw[List.filter_cons_of_neg (by simpa using hb)];exact e2,fun p hp=>?_⟩
    rw[show dm (b::A)=aX b++dm A from rfl,List.mem_append] at hp
    rcases hp with hp|hp
    .have:=Hg p1 p hp
     omega
    .exact e3 p hp
   .refine⟨[],b::r,rfl,?_,fun p hp=>by simp[dm] at hp⟩
    rw[List.filter_eq_self]
    intro c hc
    rcases List.mem_cons.1 hc with rfl|hc
    .simpa using hb
    .have rq:=mR h c hc
     obtain⟨q,hq,eq,_⟩:=Ai (iS rq)
     obtain⟨u,hu,eu,_⟩:=Ai pos
     have:=p3 u hu q (List.mem_flatMap.2 ⟨c,hc,hq⟩)
     have ec:=IB rq
     have:¬c.to<n:=by omega
     simpa using this
  .rename_i h0
   exact absurd h h0
theorem Aw {n:Int}{r:Rw}(h:dV r=0):dV (fh n r)=0/\∃m,m<=(be r).length/\be (fh n r)=(be r).drop m/\∀p∈(be r).take m,p.1<n:=by
 obtain⟨z1,z2,z3⟩:=ii h
 have hr:=(CF z3).1
 unfold be at hr
 rw[List.pairwise_append] at hr
 obtain⟨A,B,e1,e2,e3⟩:=tt n r.blocks z2 hr.1
 have ea:be (fh n r)=(be r).drop (dm A).length:=by
  unfold be fh
  simp only
  rw[e2]
  conv=>rhs;rw[e1,il,List.append_assoc,List.drop_left' rfl]
 have zB:bV B=0:=by
  rw[e1,jp] at z2
  by_cases h0:bV A=0
  .rwa[if_pos h0] at z2
  .rw[if_neg h0] at z2
   exact absurd z2 h0
 refine⟨wX ?_ (by show bV (r.blocks.filter _)=0;rw[e2];exact zB) (by rw[ea];exact mZ z3 _),(dm A).length,?_,ea,?_⟩
 .show(r.blocks.filter _).length<=8
  exact Nat.le_trans (List.length_filter_le _ _) z1
 .unfold be
  rw[e1,il,List.length_append,List.length_append]
  omega
 .intro p hp
  unfold be at hp
  rw[e1,il,List.append_assoc,List.take_left' rfl] at hp
  exact e3 p hp
theorem drop_zero {l:List Rw}{n:Int}(h:aE l=0):aE (l.map (fh n))=0/\∀j:Nat,j<4->(l.map (fh n)).getD j dN=fh n (l.getD j dN):=by
 obtain⟨h4,hm⟩:=fX h
 refine⟨yF (by rw[List.length_map];exact h4) (fun r hr=>?_),fun j hj=>?_⟩
 .obtain⟨x,hx,rfl⟩:=List.mem_map.1 hr
  exact(Aw (hm x hx)).1
 .rw[List.getD,List.getD,List.getElem?_map,List.getElem?_eq_getElem (by omega)]
  rfl
end Go.Proofs.YtoonnbhoiocoeaaGreatDoor
namespace Go.Proofs.YtoonnbhoiocoeaaGreatDoor
open Go.RowKit
def LN (x:Nt):En:=⟨x.1,x.2.1,x.2.2⟩
def jd (l:List Nt):List En:=l.map LN
def iu (C:List Rw)(r:Rc):Int:=if r.k=1 then fG C (jd r.e) else if r.k=2 then eJ C r.s r.n else if r.k=3 then gm C r.s r.n else fP r.n
def iq (C:List Rw)(r:Rc):List Rw:=if r.k=1 then iH C (jd r.e) else if r.k=2 then gn C r.s r.n else if r.k=3 then jQ C r.s r.n else ip C r.n
def cd (C:List Rw)(r:Rc):Int:=if aE C≠0 then aE C else if aV r≠0 then aV r else iu C r
def dW (C:List Rw)(r:Rc):List Rw:=if aE C≠0 then [] else if aV r≠0 then [] else iq C r
theorem wO (C:List Rw)(r:Rc):(r.k=1->iu C r=fG C (jd r.e)/\iq C r=iH C (jd r.e))/\(r.k=2->iu C r=eJ C r.s r.n/\iq C r=gn C r.s r.n)/\(r.k=3->iu C r=gm C r.s r.n/\iq C r=jQ C r.s r.n)/\(r.k=4->iu C r=fP r.n/\iq C r=ip C r.n):=by
 unfold iu iq
 refine⟨fun h=>?_,fun h=>?_,fun h=>?_,fun h=>?_⟩<;>simp[h]
theorem KG {C:List Rw}{r:Rc}(h:iu C r≠0):iq C r=[]:=by
 unfold iu at h
 unfold iq
 split
 .rename_i h1
  rw[if_pos h1] at h
  exact if_neg h
 .rename_i h1
  rw[if_neg h1] at h
  split
  .rename_i h2
   rw[if_pos h2] at h
   exact if_neg h
  .rename_i h2
   rw[if_neg h2] at h
   split
   .rename_i h3
    rw[if_pos h3] at h
    exact if_neg h
   .rename_i h3
    rw[if_neg h3] at h
    exact if_neg h
theorem J2 {C:List Rw}{r:Rc}(h:cd C r≠0):dW C r=[]:=by
 unfold cd at h
 unfold dW
 split
 .rfl
 .rename_i h1
  rw[if_neg h1] at h
  split
  .rfl
  .rename_i h2
   rw[if_neg h2] at h
   exact KG h
theorem pF {C:List Rw}{r:Rc}(h:cd C r=0):aE C=0/\aV r=0/\iu C r=0/\dW C r=iq C r:=by
 have h':=h
 unfold cd at h
 unfold dW
 split at h
 .contradiction
 .rename_i h1
  split at h
  .contradiction
  .rename_i h2
   rw[if_neg h1,if_neg h2]
   exact⟨Decidable.not_not.1 h1,Decidable.not_not.1 h2,h,rfl⟩
theorem u' {C:List Rw}{r:Rc}(h:aE C=0)(hw:iu C r=0):aE (iq C r)=0:=by
 unfold iu at hw
 unfold iq
 split
 .rename_i h1
  rw[if_pos h1] at hw
  obtain⟨_,h2,h3⟩:=yI hw
  rw[h3]
  exact vB _ _ h h2
 .rename_i h1
  rw[if_neg h1] at hw
  split
  .rename_i h2
   rw[if_pos h2] at hw
   exact(wW h hw).1
  .rename_i h2
   rw[if_neg h2] at hw
   split
   .rename_i h3
    rw[if_pos h3] at hw
    exact(Af h hw).1
   .rename_i h3
    rw[if_neg h3] at hw
    unfold ip
    rw[if_pos hw]
    exact(drop_zero h).1
theorem jH {C:List Rw}{r:Rc}(h:cd C r=0):aE (dW C r)=0:=by
 obtain⟨h1,_,h3,h4⟩:=pF h
 rw[h4]
 exact u' h1 h3
theorem bL {C:List Rw}(h:aE C=0):C.length=4:=(iU h).1
def aG:List Rw->List Rc->List Rw × Int
 |C,[]=>(C,0)
 |C,r::l=>if cd C r=0 then aG (dW C r) l else([],cd C r)
def dg:List Rw:=[dN,dN,dN,dN]
def bP (l:List Rc):Int:=if 60<l.length then 2 else(aG dg l).2
def aZ (l:List Rc):List Rw:=if 60<l.length then [] else(aG dg l).1
theorem tq:aE dg=0:=by decide
theorem nT (C:List Rw)(r:Rc)(l:List Rc):aG C (r::l)=if cd C r=0 then aG (dW C r) l else([],cd C r):=rfl
theorem jr:∀(a b:List Rc) (C:List Rw),aG C (a++b)=if(aG C a).2=0 then aG (aG C a).1 b else([],(aG C a).2)
 | [],b,C=>by simp[aG]
 |r::a,b,C=>by
  rw[List.cons_append,nT,nT]
  split
  .exact jr a b _
  .rfl
theorem mE:∀(l:List Rc) (C:List Rw),aE C=0->(aG C l).2=0->aE (aG C l).1=0
 | [],C,h,_=>h
 |r::l,C,h,h'=>by
  unfold aG at h'⊢
  split at h'
  .rename_i h1
   rw[if_pos h1]
   exact mE l _ (jH h1) h'
  .rename_i h1
   exact absurd h' h1
theorem nQ (l:List Rc)(r:Rc)(C:List Rw)(h:(aG C l).2=0):aG C (l++[r])=if cd (aG C l).1 r=0 then(dW (aG C l).1 r,0) else([],cd (aG C l).1 r):=by
 rw[jr,if_pos h]
 rfl
theorem zJ (a b:List Rc)(r:Rc)(C:List Rw)(h:(aG C a).2=0)(h':cd (aG C a).1 r≠0):aG C (a++r::b)=([],cd (aG C a).1 r):=by
 rw[jr,if_pos h,nT,if_neg h']
end Go.Proofs.YtoonnbhoiocoeaaGreatDoor
