/-
  Versions of a world's log: they only grow; from one to the next. No program is named.
-/
import Derived.Test.YtoonnbhoiocoeaaGreatDoorP18
import Derived.Test.YtoonnbhoiocoeaaGreatDoorP29
import Derived.Test.YtoonnbhoiocoeaaGreatDoorP28
import Derived.Test.YtoonnbhoiocoeaaGreatDoorP20
import Derived.Test.YtoonnbhoiocoeaaGreatDoorP25
set_option maxHeartbeats 40000000
set_option maxRecDepth 100000
set_option linter.unusedVariables false
namespace Go.Proofs.YtoonnbhoiocoeaaGreatDoor
def JW (w:Wd):Prop:=cu w=0/\bP (ax w.d)=0
theorem OC:JW f7:=by
 have h:ax f7.d=[]:=rfl
 exact⟨we,by rw[h];rfl⟩
theorem NE {w:Wd}{x:Hp}(J:JW w)(h:ci w x=0):JW (dr w x)/\∃M,ax (dr w x).d=ax w.d++M:=by
 obtain⟨hr,hz⟩:=J
 obtain⟨hk,_⟩:=oo h
 have hR:=sc hr h
 by_cases k1:x.k<=4
 .obtain⟨e,e2,e3,kw⟩:=xD hr ⟨hk.1,k1⟩ h
  have hu:(dr w x).up=true:=by rw[e]
  exact⟨⟨hR,(wk hR hu).2.1⟩,[aO x],e2⟩
 by_cases k2:x.k=5\/x.k=6
 .obtain⟨_,_,hu,e,e2⟩:=nk hr k2 h
  have ed:(dr w x).d=w.d:=by rw[e]
  exact⟨⟨hR,by rw[ed];exact hz⟩,[],by rw[ed];simp⟩
 by_cases k3:x.k=7
 .obtain⟨e,_⟩:=wu hr k3 h
  have ed:(dr w x).d=w.d:=by rw[e]
  exact⟨⟨hR,by rw[ed];exact hz⟩,[],by rw[ed];simp⟩
 by_cases k4:x.k=8
 .obtain⟨_,_,_,_,e⟩:=uB hr k4 h
  exact⟨⟨hR,by rw[e];exact hz⟩,[],by rw[e];simp⟩
 .have k5:x.k=9:=by omega
  obtain⟨e,_⟩:=uK k5 h
  obtain⟨hu,h1,h2,_⟩:=uP (.inr k5) h
  obtain⟨u1,u2,u3,u4,u5⟩:=wk hr hu
  obtain⟨L,eL⟩:∃L,L=ax w.d:=⟨_,rfl⟩
  rw[<-eL] at u1 u2 u3 u4 u5⊢
  have Ok:=h2
  rw[u1] at Ok
  obtain⟨_,t1⟩:=FL u4 u5 Ok x.n.toNat
  have hd:(dr w x).d=⟨bK L,(dj (ja L) (aO x)).wait.take x.n.toNat⟩:=by rw[e];simp only;rw[u1];rfl
  rcases t1 with t1| ⟨az,t1⟩
  .exact⟨⟨hR,by rw[hd,t1];exact u2⟩,[],by rw[hd,t1];simp⟩
  .rw[u3] at h1
   obtain⟨p1,_⟩:=ye u2 h1 (by rw[List.length_append];simp only[List.length_cons,List.length_nil];omega)
   exact⟨⟨hR,by rw[hd,t1];exact p1⟩,[aO x],by rw[hd,t1]⟩
def lI (w:Wd):Nat:=(ax w.d).length
def tV (w:Wd):Int:=if cu w=0 then(lI w:Int) else 0
def oa (w:Wd)(v s:Int):Int:=
 if cu w≠0 then cu w else if¬(0<=v/\v<=(lI w:Int)) then 7 else if bP ((ax w.d).take v.toNat)≠0 then bP ((ax w.d).take v.toNat) else iK (aZ ((ax w.d).take v.toNat)) s
def je (w:Wd)(v s:Int):List Pt:=if oa w v s=0 then fC (aZ ((ax w.d).take v.toNat)) s else []
theorem GV {w:Wd}(J:JW w){v s:Nat}(hv:v<=lI w)(hs:s<4):oa w v s=0/\je w v s=be ((aZ ((ax w.d).take v)).getD s dN):=by
 have hz:=rM J.2 v
 obtain⟨a1,a2⟩:=sD (fp hz) hs
 have e:oa w v s=0:=by
  unfold oa
  rw[if_neg (by simp[J.1]),if_neg (fun h=>h ⟨by omega,by omega⟩),Int.toNat_natCast,if_neg (by simp[hz])]
  exact a1
 refine⟨e,?_⟩
 unfold je
 rw[if_pos e,Int.toNat_natCast,a2]
theorem low (l:List Pt):∃b:Int,∀p∈l,b<=p.1:=by
 induction l with
 |nil=>exact⟨0,fun p h=>by simp at h⟩
 |cons x l ih=>
  obtain⟨b,hb⟩:=ih
  refine⟨min b x.1,fun p hp=>?_⟩
  rcases List.mem_cons.1 hp with rfl|hp
  .omega
  .have:=hb p hp
   omega
theorem K1 {w:Wd}(J:JW w){n s:Nat}{r:Rc}(hr:(ax w.d)[n]? =some r)(hs:s<4):
  (r.k=4->r.e=[])/\∃m,m<=(je w n s++ee s (jd r.e)).length/\je w (n+1:Nat) s=(je w n s++ee s (jd r.e)).drop m/\(r.k≠4->m=0):=by
 obtain⟨hn,hg⟩:=List.getElem?_eq_some_iff.1 hr
 have kw:(ax w.d).length<=60:=(kQ (dQ J.1).1).2.2.1
 have hz:(aG dg (ax w.d)).2=0:=by have:=J.2;unfold bP at this;rw[if_neg (by omega)] at this;exact this
 obtain⟨x1,x2⟩:=ww hz hr
 have e1:aZ ((ax w.d).take n)=(aG dg ((ax w.d).take n)).1:=if_neg (by rw[List.length_take];omega)
 have e2:aZ ((ax w.d).take (n+1))=(aG dg ((ax w.d).take (n+1))).1:=if_neg (by rw[List.length_take];omega)
 rw[x2] at e2
 simp only at e2
 rw[<-e1] at x1 e2
 obtain⟨_,Tr,_,_⟩:=pF x1
 obtain⟨_,a1⟩:=GV J (v:=n) (s:=s) (Nat.le_of_lt hn) hs
 obtain⟨_,a2⟩:=GV J (v:=n+1) (s:=s) hn hs
 rw[e2] at a2
 obtain⟨b,hb⟩:=low (je w n s++ee s (jd r.e))
 have hE:H9 s (aZ ((ax w.d).take n)) (je w n s) b:=⟨0,Nat.zero_le _,by rw[a1];rfl,fun p hp=>by simp at hp⟩
 obtain⟨m,hm,k1,k2⟩:=KA hs x1 hE
 refine⟨fun h4=>DX Tr (by omega),m,hm,by rw[a2];exact k1,fun h4=>?_⟩
 unfold qS at k2
 rw[if_neg h4] at k2
 cases m with
 |zero=>rfl
 |succ m=>
  exfalso
  have aF:(je w n s++ee s (jd r.e)).take (m+1)≠[]:=by
   intro h
   have:=congrArg List.length h
   rw[List.length_take] at this
   simp only[List.length_nil] at this
   omega
  obtain⟨p,q,RB⟩:=List.exists_cons_of_ne_nil aF
  have hp:p∈(je w n s++ee s (jd r.e)).take (m+1):=by rw[RB];simp
  have l0:=k2 p hp
  have:=hb p (List.mem_of_mem_take hp)
  omega
end Go.Proofs.YtoonnbhoiocoeaaGreatDoor
namespace Go.Proofs.YtoonnbhoiocoeaaGreatDoor
open Go.RowKit
open Go.Lib (byteCells)
structure Gq (Q:Nat->Prop)(W W':World):Prop where
 os:W'.os=W.os
 tape:W'.tape=W.tape
 output:W'.output=W.output
 size:W.heap.size<=W'.heap.size
 block:∀k,k<W.heap.size->¬Q k->W'.heap[k]? =W.heap[k]?
theorem Gq.below {Q:Nat->Prop}{a b:World}(k:Below a.heap.size a b):Gq Q a b:=⟨k.os,k.tape,k.output,k.size,fun j hj _=>k.block j hj⟩
theorem Gq.from {Q:Nat->Prop}{base:Nat}{a b:World}(k:Gq Q a b)(hQ:∀q,Q q->base<=q)(hb:base<=a.heap.size):Below base a b:=
 ⟨k.os,k.tape,k.output,k.size,fun j hj=>k.block j (by omega) (fun h=>by have:=hQ j h;omega)⟩
theorem ac.gq {Q:Nat->Prop}{W W':World}{q:Nat}{cs:List Value}{t:TypeId}(B:ac W q cs t)(k:Gq Q W W')(hq:¬Q q):ac W' q cs t:=(k.block q B.lt hq).trans B
theorem JG {x:Wd}{p:Pw}(k s n:Int)(L:List Nt){ea:Option Addr}{en eC:Nat}{V:World}(h:cu x=0)(h3:en=L.length)(gl:Gl V)(I:ej V p x)(s3:aY ec V ea eC L):
  Calls Tryz.prog 8 #[p.val x.up,.agg #[.int .i64 k,.int .i64 s,.int .i64 n,.slice ea en eC]] V (Qq V (dr x ⟨k,s,n,L⟩) (ci x ⟨k,s,n,L⟩)):=
 Q8 x ⟨k,s,n,L⟩ p ea en eC V gl I h s3 (hide h3)
end Go.Proofs.YtoonnbhoiocoeaaGreatDoor
namespace Go.Proofs.YtoonnbhoiocoeaaGreatDoor
open Go.RowKit
open Go.Lib (byteCells)
theorem sg (b1:Nat)(Q:Nat->Prop)(Inv:World->Wd->Prop)(W0 W:World)(hg:Gl W0)(bel:Below W0.heap.size W0 W)(l:List bF)(la:Option Addr)(lc ln:Nat)(S:dI W0 la lc l)(hl:ln=l.length)
  (hQ:∀q,Q q->W0.heap.size<=q/\q<W.heap.size) (Ms:∀V V' x,Inv V x->W.heap.size<=V.heap.size->Below V.heap.size V V'->Inv V' x) (Tj:∀V V' x g (a1 a2 a3 a4:Option Addr) (n1 n2 n3 n4 c1 c2 c3 c4:Nat) (u:Bool),Inv V x->W.heap.size<=g->ac V g [.slice a1 n1 c1,.slice a2 n2 c2,.slice a3 n3 c3,.bool u,.slice a4 n4 c4] 30->V.grownBy V' (some g)->Inv V' x) (h0:Inv W f7)
  (fe:∀(x z:Wd) (p:Pw) (V:World),JW x->JW z->(∃M,ax z.d=ax x.d++M)->Below W0.heap.size W0 V->W.heap.size<=V.heap.size->ej V p z->Inv V x->Calls Tryz.prog 30 #[p.val z.up,.pointer (some ⟨b1,0,none⟩)] V fun e V'=>e=.returned (.bool true)/\Inv V' z/\ej V' p z/\Gq Q V V'):
  Calls Tryz.prog 29 #[.slice la ln lc,.func (.func 30) #[] #[.pointer (some ⟨b1,0,none⟩)]] W fun e W'=>e=.returned (.bool true)/\Below W0.heap.size W0 W':=by
 obtain⟨k0,vI⟩:∃k0:Nat,min (ln:Int) 60=k0:=⟨(min (ln:Int) 60).toNat,by omega⟩
 have kx:∀(ts:Array TypeId) (t:TypeId) (V:World),(Builtin.min_ ts t #[.int .i64 (ln:Int),.int .i64 60]).run Tryz.prog V=.ok (.int .i64 (k0:Int)) V:=by
  intro ts t V
  rw[Lib.run_min_ints,vI]
 have Fzs:ln<=lc:=by rw[hl];exact S.row.le
 have DI:lc<=9223372036854775807:=S.row.max
 have Cw:k0<=ln:=by omega
 clear vI
 replace hl:=hide hl
 have Xx:=bel.size
 go_enter Tryz.func29,Tryz.ntmps29
 go_wp2_with fail
 go_at_call 14
 refine(ur _).mono ?_
 rintro e w2 ⟨⟨ba,bn,bG,c1,JA,bk1,c2,Kg,bk2,br,JC,Ji⟩,rfl,I2,b0⟩
 simp only[Pw.val]
 have b:=newB b0 (.cells #[.slice ba bn bG,.slice c1 JA bk1,.slice c2 Kg bk2,.bool true,.slice br JC Ji] 30)
 have BX:=ac.laid w2 [.slice ba bn bG,.slice c1 JA bk1,.slice c2 Kg bk2,.bool true,.slice br JC Ji] 30 _ rfl
 replace I2:=I2.alloc (.cells #[.slice ba bn bG,.slice c1 JA bk1,.slice c2 Kg bk2,.bool true,.slice br JC Ji] 30)
 have inv:=Ms _ _ _ h0 (Nat.le_refl _) b
 have Sc:W.heap.size<=w2.heap.size:=b0.size
 have qB:=b.size
 replace bel:=aa bel b
 clear b b0 h0
 go_upto_region 2 with fail
 generalize w2.heap.size=gX at*
 generalize World.alloc w2 _=w3 at*
 have Y':¬Q gX:=fun h=>by have:=(hQ gX h).2;omega
 go_wp2_with fail
 go_loopw [17] (fun i wr=>∃(j:Nat) (P2:Pw) (Z:Wd),j<=k0/\i=.int .i64 j/\ac wr gX (P2.cells Z.up) 30/\ej wr P2 Z/\Hid (JW Z)/\Hid (Inv wr Z)/\W.heap.size<=wr.heap.size/\Below W0.heap.size W0 wr) (fun i _=>k0-(intOf i).toNat)
 case atStart=>exact⟨0,⟨ba,bn,bG,c1,JA,bk1,c2,Kg,bk2,br,JC,Ji⟩,f7,Nat.zero_le _,rfl,BX,I2,hide OC,hide inv,qB,bel⟩
 case round=>
  clear BX I2 inv bel qB
  obtain⟨j,⟨ca,cn,cG,d1,U7,Vx,d2,WP,Vu,cr,Uw,T6⟩,Z,hj,rfl,BX,I2,hZ,inv,qB,bel⟩:=hrel
  simp only[Pw.cells] at BX
  by_cases Hb:j<k0
  .have cy:j<l.length:=by have:=hl.out;omega
   obtain⟨y,hy⟩:∃y,l[j]? =some y:=⟨_,List.getElem?_eq_getElem cy⟩
   obtain⟨lb,lo,rfl,yA⟩:=S.row.where bF.four (by decide) (by intro h;subst h;simp at cy)
   have S':=S.keep bel (Nat.le_refl _)
   have t0:=S'.row.cell bF.four j 0 y _ hy rfl
   have t1:=S'.row.cell bF.four j 1 y _ hy rfl
   have t2:=S'.row.cell bF.four j 2 y _ hy rfl
   have t3:=S'.row.cell bF.four j 3 y _ hy rfl
   simp only[Nat.add_zero] at t0
   have MV:=Nat.lt_of_lt_of_le yA bel.size
   have jk:=S'.ent y (List.mem_of_getElem? hy)
   obtain⟨en,N9⟩:∃en,en=y.r.e.length:=⟨_,rfl⟩
   have cD:=fun V g i s=>JG (x:=Z) (p:=⟨ca,cn,cG,d1,U7,Vx,d2,WP,Vu,cr,Uw,T6⟩) (V:=V) (ea:=y.a) (eC:=y.c) y.r.k y.r.s y.r.n y.r.e hZ.out.1 N9 g i s
   have hJ:=fun h=>NE (x:=⟨y.r.k,y.r.s,y.r.n,y.r.e⟩) hZ.out h
   rw[<-N9] at t3
   obtain⟨⟨K,Sr,N,Y⟩,ya,yc⟩:=y
   simp only at*
   obtain⟨HE,eK⟩:∃HE,HE=ci Z ⟨K,Sr,N,Y⟩:=⟨_,rfl⟩
   obtain⟨Z2,Ty⟩:∃Z2,Z2=dr Z ⟨K,Sr,N,Y⟩:=⟨_,rfl⟩
   rw[<-eK,<-Ty] at cD hJ
   replace eK:=hide eK
   replace Ty:=hide Ty
   replace N9:=hide N9
   replace hy:=hide hy
   have bc:=newB (Below.refl wr.heap.size wr) (.cells #[.int .i64 K,.int .i64 Sr,.int .i64 N,.slice ya en yc] 33)
   have BC:=ac.laid wr [.int .i64 K,.int .i64 Sr,.int .i64 N,.slice ya en yc] 33 _ rfl
   replace BX:=BX.keep bc BX.lt
   replace I2:=I2.call bc
   replace inv:=hide (Ms _ _ _ inv.out qB bc)
   have jc:=jk.call bc
   replace qB:=Nat.le_trans qB bc.size
   replace bel:=aa bel bc
   clear S' cy jk bc
   go_upto_region 5 with fail
   generalize wr.heap.size=gC at*
   generalize World.alloc wr _=v1 at*
   clear t0 t1 t2 t3 MV
   have y0:=BC.cell 0
   have y1:=BC.cell 1
   have y2:=BC.cell 2
   have y3:=BC.cell 3
   have yl:=BC.lt
   have x0:=BX.cell 0
   have x1:=BX.cell 1
   have x2:=BX.cell 2
   have x3:=BX.cell 3
   have x4:=BX.cell 4
   have xl:=BX.lt
   go_wp2_with fail
   go_at_call 8
   refine(cD _ (hg.call bel) I2 jc).mono ?_
   rintro e v2 ⟨⟨ea,un,uG,e1,BE,CZ,e2,Bu,C4,er,Dd,Br⟩,rfl,I3,b0⟩
   simp only[Pw.val]
   have b:=newB b0 (.cells #[.slice ea un uG,.slice e1 BE CZ,.slice e2 Bu C4,.bool Z2.up,.slice er Dd Br] 30)
   have BY:=ac.laid v2 [.slice ea un uG,.slice e1 BE CZ,.slice e2 Bu C4,.bool Z2.up,.slice er Dd Br] 30 _ rfl
   replace I3:=I3.alloc (.cells #[.slice ea un uG,.slice e1 BE CZ,.slice e2 Bu C4,.bool Z2.up,.slice er Dd Br] 30)
   have nn:¬gX=v2.heap.size:=by
    have:=BX.lt
    have:=b0.size
    omega
   clear x0 x1 x2 x3 x4 xl y0 y1 y2 y3 yl b0 BC jc cD
   replace BX:=BX.keep b BX.lt
   replace I2:=I2.call b
   replace inv:=hide (Ms _ _ _ inv.out qB b)
   replace qB:=Nat.le_trans qB b.size
   replace bel:=aa bel b
   clear b
   go_upto_region 6 with fail
   have Ef:¬v2.heap.size=gX:=fun e=>nn e.symm
   generalize v2.heap.size=gY at*
   generalize World.alloc v2 _=v3 at*
   by_cases hz:HE=0
   .subst hz
    obtain⟨HT,hM⟩:=hJ rfl
    have TP:=jV HT.1
    have B9:=qq BX (.slice ea un uG) (.slice e1 BE CZ) (.slice e2 Bu C4) (.bool Z2.up) (.slice er Dd Br)
    have aq:=jW bel (Nat.le_trans Xx Sc) (.slice ea un uG) (.slice e1 BE CZ) (.slice e2 Bu C4) (.bool Z2.up) (.slice er Dd Br)
    have m8:=jW (Below.refl W.heap.size v3) Sc (.slice ea un uG) (.slice e1 BE CZ) (.slice e2 Bu C4) (.bool Z2.up) (.slice er Dd Br)
    have I9:=I3.boxW TP BX (BU (w:=v3) (g:=gX) (.slice ea un uG) (.slice e1 BE CZ) (.slice e2 Bu C4) (.bool Z2.up) (.slice er Dd Br))
    have II:=Tj _ _ _ _ _ _ _ _ _ _ _ _ _ _ _ _ _ inv.out Sc BX (BU (w:=v3) (g:=gX) (.slice ea un uG) (.slice e1 BE CZ) (.slice e2 Bu C4) (.bool Z2.up) (.slice er Dd Br))
    have Pk:=Nat.le_trans qB m8.size
    replace B9:=hide B9
    replace aq:=hide aq
    replace I9:=hide I9
    replace II:=hide II
    replace HT:=hide HT
    replace hM:=hide hM
    replace Pk:=hide Pk
    replace bel:=hide bel
    have z0:=BY.cell 0
    have z1:=BY.cell 1
    have z2:=BY.cell 2
    have z3:=BY.cell 3
    have z4:=BY.cell 4
    have zl:=BY.lt
    have x0:=BX.cell 0
    have f0:=BX.free 0
    have x1:=BX.cell 1
    have f1:=BX.free 1
    have x2:=BX.cell 2
    have f2:=BX.free 2
    have x3:=BX.cell 3
    have f3:=BX.free 3
    have x4:=BX.cell 4
    have f4:=BX.free 4
    have xl:=BX.lt
    clear hJ I2 I3 BY TP m8 inv qB
    go_upto_region 8 with fail
    clear x0 f0 x1 f1 x2 f2 x3 f3 x4 f4 xl z0 z1 z2 z3 z4 zl BX bel
    have BX:=B9.out
    have bel:=aq.out
    have I2:=I9.out
    have qB:=Pk.out
    clear B9 aq I9 Pk
    generalize World.setCell (World.setCell (World.setCell (World.setCell (World.setCell v3 _ _) _ _) _ _) _ _) _ _=v4 at*
    have x0:=BX.cell 0
    have x1:=BX.cell 1
    have x2:=BX.cell 2
    have x3:=BX.cell 3
    have x4:=BX.cell 4
    have xl:=BX.lt
    go_wp2_with fail
    go_at_call 30
    refine(fe Z Z2 _ _ hZ.out HT.out hM.out bel qB I2 II.out).mono ?_
    rintro e v5 ⟨rfl,WY,I4,gq⟩
    clear x0 x1 x2 x3 x4 xl I2 II
    replace BX:=BX.gq gq Y'
    replace bel:=bel.trans (gq.from (fun q h=>(hQ q h).1) bel.size)
    replace qB:=Nat.le_trans qB gq.size
    clear gq
    go_wp2_with fail
    go_roundw
    case rel=>exact⟨j+1,⟨ea,un,uG,e1,BE,CZ,e2,Bu,C4,er,Dd,Br⟩,Z2,Nat.succ_le_of_lt Hb,by go_num,BX,I4,HT,hide WY,qB,bel⟩
    case measure=>
     have:=Nat.sub_lt_sub_left Hb (Nat.lt_succ_self j)
     simpa[intOf] using this
   .have hd:decide (HE=0)=false:=decide_eq_false hz
    have nF:(HE==0)=false:=by simpa using hz
    clear hJ I3 BY
    go_wp2_with fail
    go_roundw
    case rel=>exact⟨j+1,⟨ca,cn,cG,d1,U7,Vx,d2,WP,Vu,cr,Uw,T6⟩,Z,Nat.succ_le_of_lt Hb,by go_num,BX,I2,hZ,inv,qB,bel⟩
    case measure=>
     have:=Nat.sub_lt_sub_left Hb (Nat.lt_succ_self j)
     simpa[intOf] using this
  .obtain rfl:j=k0:=Nat.le_antisymm hj (Nat.le_of_not_lt Hb)
   go_wp2_with fail
   go_ret
   exact⟨rfl,bel⟩
end Go.Proofs.YtoonnbhoiocoeaaGreatDoor
namespace Go.Proofs.YtoonnbhoiocoeaaGreatDoor
open Go.RowKit
open Go.Lib (byteCells)
def GX (W:World)(E:Int)(L:List Rc)(e:Ending)(w':World):Prop:=
 ∃(la:Option Addr) (n c:Nat) (l:List bF),e=.returned (.tuple #[.slice la n c,.int .i64 E])/\Hid (n=l.length)/\Hid (l.map (·.r)=L)/\dI w' la c l/\Below W.heap.size W w'
theorem tf (x:Wd)(p:Pw)(w:World)(hg:Gl w)(I:ej w p x)(few:p.n1+p.n2<=9223372036854775807)(gV:p.sn<=140737488355328):
  Calls Tryz.prog 63 #[p.val x.up] w (GX w (cu x) (if cu x=0 then ax x.d else [])):=by
 have cC:=fun V g i=>Ej x p V g i few gV
 by_cases h:cu x=0
 .rw[if_pos h]
  rw[h] at cC⊢
  obtain⟨r1,_,_,_,_,_⟩:=dQ h
  have cQ:=fun V g s t=>i6 x.d p.a1 p.a2 p.c1 p.c2 p.n1 p.n2 V g s t I.e1 I.e2 few
  rw[r1] at cQ
  obtain⟨L,hL⟩:∃L,L=ax x.d:=⟨_,rfl⟩
  rw[<-hL] at cQ⊢
  replace hL:=hide hL
  obtain⟨U,hU⟩:∃U,U=x.up:=⟨_,rfl⟩
  rw[<-hU] at cC⊢
  replace hU:=hide hU
  obtain⟨sa,sn,sG,a1,n1,c1,a2,n2,c2,ra,rn,rc⟩:=p
  simp only[Pw.val] at*
  have BX:=ac.laid w [.slice sa sn sG,.slice a1 n1 c1,.slice a2 n2 c2,.bool U,.slice ra rn rc] 30 _ rfl
  have bel:=newB (Below.refl w.heap.size w) (.cells #[.slice sa sn sG,.slice a1 n1 c1,.slice a2 n2 c2,.bool U,.slice ra rn rc] 30)
  replace I:=I.alloc (.cells #[.slice sa sn sG,.slice a1 n1 c1,.slice a2 n2 c2,.bool U,.slice ra rn rc] 30)
  go_enter Tryz.func63,Tryz.ntmps63
  go_upto_region 1 with fail
  generalize World.alloc w _=w1 at*
  have x0:=BX.cell 0
  have x1:=BX.cell 1
  have x2:=BX.cell 2
  have x3:=BX.cell 3
  have x4:=BX.cell 4
  have xl:=BX.lt
  go_wp2_with fail
  go_at_call 11
  refine(cC _ (hg.call bel) I).mono ?_
  rintro e w2 ⟨rfl,b⟩
  clear x0 x1 x2 x3 x4 xl
  replace BX:=BX.keep b BX.lt
  replace I:=I.call b
  replace bel:=aa bel b
  clear b
  have x0:=BX.cell 0
  have x1:=BX.cell 1
  have x2:=BX.cell 2
  have x3:=BX.cell 3
  have x4:=BX.cell 4
  have xl:=BX.lt
  go_wp2_with fail
  go_at_call 31
  refine(cQ _ (hg.call bel) I.s1 I.s2).mono ?_
  rintro e w3 ⟨p1,p2,la,q1,q2,q3,q4,ln,lG,l,rfl,kY,kW,T3,T4,LR,iQ,b0⟩
  have b:=newB b0 (.cells #[.slice p1 q1 q3,.slice p2 q2 q4] 27)
  have LS:=LR.sl.call (newB (Below.refl w3.heap.size w3) (.cells #[.slice p1 q1 q3,.slice p2 q2 q4] 27))
  have dK:=hide LR.len
  replace kY:=hide kY
  replace kW:=hide kW
  replace iQ:=hide iQ
  clear T3 T4 b0 LR
  clear x0 x1 x2 x3 x4 xl
  replace BX:=BX.keep b BX.lt
  replace I:=I.call b
  replace bel:=aa bel b
  clear b
  have x0:=BX.cell 0
  have x1:=BX.cell 1
  have x2:=BX.cell 2
  have x3:=BX.cell 3
  have x4:=BX.cell 4
  have xl:=BX.lt
  go_upto_region 5 with fail
  generalize World.alloc w3 _=w4 at*
  go_wp2_with fail
  exact bodyPost_ret (v:=.tuple #[.slice la ln lG,.int .i64 0]) (by simp[results,Tryz.results63,go_sem]) rfl ⟨la,ln,lG,l,rfl,dK,iQ,LS,bel⟩
 .rw[if_neg h]
  have hd:decide (cu x=0)=false:=decide_eq_false h
  obtain⟨E,hE⟩:∃E,E=cu x:=⟨_,rfl⟩
  rw[<-hE] at cC hd h⊢
  have nF:(E != 0)=true:=by simpa using h
  replace hE:=hide hE
  obtain⟨U,hU⟩:∃U,U=x.up:=⟨_,rfl⟩
  rw[<-hU] at cC⊢
  replace hU:=hide hU
  obtain⟨sa,sn,sG,a1,n1,c1,a2,n2,c2,ra,rn,rc⟩:=p
  simp only[Pw.val] at*
  have BX:=ac.laid w [.slice sa sn sG,.slice a1 n1 c1,.slice a2 n2 c2,.bool U,.slice ra rn rc] 30 _ rfl
  have bel:=newB (Below.refl w.heap.size w) (.cells #[.slice sa sn sG,.slice a1 n1 c1,.slice a2 n2 c2,.bool U,.slice ra rn rc] 30)
  replace I:=I.alloc (.cells #[.slice sa sn sG,.slice a1 n1 c1,.slice a2 n2 c2,.bool U,.slice ra rn rc] 30)
  go_enter Tryz.func63,Tryz.ntmps63
  go_upto_region 1 with fail
  generalize World.alloc w _=w1 at*
  have x0:=BX.cell 0
  have x1:=BX.cell 1
  have x2:=BX.cell 2
  have x3:=BX.cell 3
  have x4:=BX.cell 4
  have xl:=BX.lt
  go_wp2_with fail
  go_at_call 11
  refine(cC _ (hg.call bel) I).mono ?_
  rintro e w2 ⟨rfl,b⟩
  clear x0 x1 x2 x3 x4 xl
  replace BX:=BX.keep b BX.lt
  replace I:=I.call b
  replace bel:=aa bel b
  clear b
  have x0:=BX.cell 0
  have x1:=BX.cell 1
  have x2:=BX.cell 2
  have x3:=BX.cell 3
  have x4:=BX.cell 4
  have xl:=BX.lt
  go_wp2_with fail
  exact bodyPost_ret (v:=.tuple #[.slice none 0 0,.int .i64 E]) (by simp[results,Tryz.results63,go_sem]) rfl ⟨none,0,0,[],rfl,hide rfl,hide rfl,⟨aY.ofNil _ _,fun q h=>by simp at h⟩,bel⟩
theorem nU (x:Wd)(p:Pw)(w:World)(hg:Gl w)(I:ej w p x)(few:p.n1+p.n2<=9223372036854775807)(gV:p.sn<=140737488355328):
  Calls Tryz.prog 25 #[p.val x.up] w fun e w'=>e=.returned (.tuple #[.int .i64 (tV x),.int .i64 (cu x)])/\Below w.heap.size w w':=by
 have cC:=fun V g i=>tf x p V g i few gV
 unfold GX at cC
 have hv:∀(l:List bF),l.map (·.r)=(if cu x=0 then ax x.d else [])->((l.length:Nat):Int)=tV x:=by
  intro l h
  have:=congrArg List.length h
  rw[List.length_map] at this
  unfold tV lI
  split
  .rename_i h0
   rw[if_pos h0] at this
   rw[this]
  .rename_i h0
   rw[if_neg h0] at this
   rw[this]
   rfl
 obtain⟨E,hE⟩:∃E,E=cu x:=⟨_,rfl⟩
 obtain⟨VV,Jo⟩:∃VV,VV=tV x:=⟨_,rfl⟩
 rw[<-Jo] at hv⊢
 rw[<-hE] at cC hv⊢
 replace hE:=hide hE
 replace Jo:=hide Jo
 obtain⟨U,hU⟩:∃U,U=x.up:=⟨_,rfl⟩
 rw[<-hU] at cC⊢
 replace hU:=hide hU
 obtain⟨sa,sn,sG,a1,n1,c1,a2,n2,c2,ra,rn,rc⟩:=p
 simp only[Pw.val] at*
 have BX:=ac.laid w [.slice sa sn sG,.slice a1 n1 c1,.slice a2 n2 c2,.bool U,.slice ra rn rc] 30 _ rfl
 have bel:=newB (Below.refl w.heap.size w) (.cells #[.slice sa sn sG,.slice a1 n1 c1,.slice a2 n2 c2,.bool U,.slice ra rn rc] 30)
 replace I:=I.alloc (.cells #[.slice sa sn sG,.slice a1 n1 c1,.slice a2 n2 c2,.bool U,.slice ra rn rc] 30)
 go_enter Tryz.func25,Tryz.ntmps25
 go_upto_region 1 with fail
 generalize World.alloc w _=w1 at*
 have x0:=BX.cell 0
 have x1:=BX.cell 1
 have x2:=BX.cell 2
 have x3:=BX.cell 3
 have x4:=BX.cell 4
 have xl:=BX.lt
 go_wp2_with fail
 go_at_call 63
 refine(cC _ (hg.call bel) I).mono ?_
 rintro e w2 ⟨la,n,c,l,rfl,hn,hl,LS,b⟩
 have Xw:(n:Int)=VV:=by rw[hn.out];exact hv l hl.out
 subst Xw
 replace bel:=aa bel b
 clear b LS hl hn hv
 clear x0 x1 x2 x3 x4 xl
 go_wp2_with fail
 exact bodyPost_ret (v:=.tuple #[.int .i64 (n:Int),.int .i64 E]) (by simp[results,Tryz.results25,go_sem]) rfl ⟨rfl,bel⟩
theorem xZ (x:Wd)(v s:Int):
  (cu x≠0->oa x v s=cu x)/\(cu x=0->¬(0<=v/\v<=(lI x:Int))->oa x v s=7)/\(cu x=0->(0<=v/\v<=(lI x:Int))->bP ((ax x.d).take v.toNat)≠0->oa x v s=bP ((ax x.d).take v.toNat))/\
   (cu x=0->(0<=v/\v<=(lI x:Int))->bP ((ax x.d).take v.toNat)=0->oa x v s=iK (aZ ((ax x.d).take v.toNat)) s):=by
 unfold oa
 refine⟨fun h=>if_pos h,fun h k=>?_,fun h k e=>?_,fun h k e=>?_⟩
 .rw[if_neg (by simp[h]),if_pos k]
 .rw[if_neg (by simp[h]),if_neg (fun q=>q k),if_pos e]
 .rw[if_neg (by simp[h]),if_neg (fun q=>q k),if_neg (by simp[e])]
theorem FE {x:Wd}{v s:Int}(h:oa x v s≠0):je x v s=[]:=if_neg h
theorem p6 (x:Wd)(p:Pw)(v s:Int)(w:World)(hg:Gl w)(I:ej w p x)(few:p.n1+p.n2<=9223372036854775807)(gV:p.sn<=140737488355328):
  Calls Tryz.prog 26 #[p.val x.up,.int .i64 v,.int .i64 s] w (Ar w (je x v s) (oa x v s)):=by
 obtain⟨z1,z2,z3,z4⟩:=xZ x v s
 have dq:oa x v s≠0->je x v s=[]:=FE
 have uj:oa x v s=0->je x v s=fC (aZ ((ax x.d).take v.toNat)) s:=fun h=>if_pos h
 have cC:=fun V g i=>tf x p V g i few gV
 unfold GX at cC
 obtain⟨AE,BT⟩:∃AE,AE=oa x v s:=⟨_,rfl⟩
 obtain⟨AL,QC⟩:∃AL,AL=je x v s:=⟨_,rfl⟩
 rw[<-BT] at z1 z2 z3 z4 dq uj⊢
 rw[<-QC] at dq uj⊢
 clear BT QC
 obtain⟨L,hL⟩:∃L,L=ax x.d:=⟨_,rfl⟩
 have hN:lI x=L.length:=by rw[hL];rfl
 rw[hN] at z2 z3 z4
 rw[<-hL] at z3 z4 cC uj
 clear hL hN
 by_cases h:cu x=0
 .rw[h] at cC
  replace z2:=z2 h
  replace z3:=z3 h
  replace z4:=z4 h
  clear z1 h
  simp only[if_true] at cC
  by_cases hv:0<=v/\v<=(L.length:Int)
  .replace z3:=z3 hv
   replace z4:=z4 hv
   obtain⟨V,rfl⟩:∃V:Nat,v=V:=⟨v.toNat,by omega⟩
   rw[Int.toNat_natCast] at z3 z4 uj
   have hV:V<=L.length:=by omega
   have Nw:¬(V:Int)<0:=by omega
   clear z2 hv
   obtain⟨U,hU⟩:∃U,U=x.up:=⟨_,rfl⟩
   rw[<-hU] at cC⊢
   replace hU:=hide hU
   obtain⟨sa,sn,sG,a1,n1,c1,a2,n2,c2,ra,rn,rc⟩:=p
   simp only[Pw.val] at*
   have BX:=ac.laid w [.slice sa sn sG,.slice a1 n1 c1,.slice a2 n2 c2,.bool U,.slice ra rn rc] 30 _ rfl
   have bel:=newB (Below.refl w.heap.size w) (.cells #[.slice sa sn sG,.slice a1 n1 c1,.slice a2 n2 c2,.bool U,.slice ra rn rc] 30)
   replace I:=I.alloc (.cells #[.slice sa sn sG,.slice a1 n1 c1,.slice a2 n2 c2,.bool U,.slice ra rn rc] 30)
   go_enter Tryz.func26,Tryz.ntmps26
   go_upto_region 1 with fail
   generalize World.alloc w _=w1 at*
   have x0:=BX.cell 0
   have x1:=BX.cell 1
   have x2:=BX.cell 2
   have x3:=BX.cell 3
   have x4:=BX.cell 4
   have xl:=BX.lt
   go_wp2_with fail
   go_at_call 63
   refine(cC _ (hg.call bel) I).mono ?_
   rintro e w2 ⟨la,n,c,l,rfl,hn,hl,LS,b⟩
   clear x0 x1 x2 x3 x4 xl
   replace BX:=BX.keep b BX.lt
   replace I:=I.call b
   replace bel:=aa bel b
   clear b
   have x0:=BX.cell 0
   have x1:=BX.cell 1
   have x2:=BX.cell 2
   have x3:=BX.cell 3
   have x4:=BX.cell 4
   have xl:=BX.lt
   have pb:n=L.length:=by rw[hn.out,<-List.length_map (f:=fun q:bF=>q.r),hl.out]
   have rV:V<=n:=by omega
   have Z5:¬(n:Int)<(V:Int):=by omega
   have G0:n<=c:=by rw[hn.out];exact LS.row.le
   have rW:c<=9223372036854775807:=LS.row.max
   have YV:(V:Int)<=(c:Int):=by omega
   have hVz:(0:Int)<=(V:Int):=by omega
   have tQ:(l.take V).map (·.r)=L.take V:=by rw[List.map_take,hl.out]
   have NO:Hid (V=(l.take V).length):=hide (by rw[List.length_take,<-hn.out];omega)
   obtain⟨E2,j5⟩:∃E2,E2=bP (L.take V):=⟨_,rfl⟩
   obtain⟨dn,dp⟩:∃dn,dn=(aZ (L.take V)).length:=⟨_,rfl⟩
   have cP:=fun W S=>kZ (l.take V) la V c dn W S NO (hide (by rw[tQ];exact dp))
   rw[tQ,<-j5] at cP
   rw[<-j5] at z3 z4
   replace pb:=hide pb
   replace j5:=hide j5
   replace dp:=hide dp
   go_wp2_with fail
   go_at_call 54
   refine(cP _ ⟨LS.row.front bF.four V,fun q hq=>LS.ent q (List.mem_of_mem_take hq)⟩).mono ?_
   rintro e w3 ⟨aN,GN,rfl,IN,b0⟩
   have b:=newB b0 (.cells #[.slice aN dn GN] 24)
   have BN:=ac.laid w3 [.slice aN dn GN] 24 _ rfl
   have Vh:=IN.is.alloc (.cells #[.slice aN dn GN] 24)
   clear b0 cP LS IN
   clear x0 x1 x2 x3 x4 xl
   replace BX:=BX.keep b BX.lt
   replace I:=I.call b
   replace bel:=aa bel b
   clear b
   have x0:=BX.cell 0
   have x1:=BX.cell 1
   have x2:=BX.cell 2
   have x3:=BX.cell 3
   have x4:=BX.cell 4
   have xl:=BX.lt
   go_upto_region 7 with fail
   generalize w3.heap.size=gN at*
   generalize World.alloc w3 _=w4 at*
   have n0:=BN.cell 0
   have nl:=BN.lt
   by_cases hz:E2=0
   .subst hz
    replace z4:=z4 rfl
    obtain⟨CX,mM⟩:∃CX,CX=aZ (L.take V):=⟨_,rfl⟩
    rw[<-mM] at Vh z4 uj dp
    have cA:=fun W (k:dC W aN GN CX)=>Bp s k
    rw[<-dp.out,<-z4] at cA
    have VS:AL=fC CX s:=by
     by_cases h0:AE=0
     .exact uj h0
     .rw[dq h0]
      unfold fC
      rw[if_neg (by rw[<-z4];exact h0)]
    rw[<-VS] at cA
    obtain⟨q,hq⟩:∃q,q=AL.length:=⟨_,rfl⟩
    rw[<-hq] at cA
    replace hq:=hide hq
    clear z3 z4 dq uj VS mM j5
    go_wp2_with fail
    go_at_call 38
    refine(cA _ Vh).mono ?_
    rintro e w5 ⟨aQ,GQ,rfl,own,b⟩
    have eM:=xM own bel.size
    replace bel:=aa bel b
    clear own b cA
    go_wp2_with fail
    exact bodyPost_ret (v:=.tuple #[.slice aQ q GQ,.int .i64 AE]) (by simp[results,Tryz.results26,go_sem]) rfl ⟨aQ,q,GQ,rfl,hq,eM,bel⟩
   .have hA:=z3 hz
    have Ba:=dq (by rw[hA];exact hz)
    subst Ba
    have hd:decide (E2=0)=false:=decide_eq_false hz
    have nF:(E2 != 0)=true:=by simpa using hz
    subst hA
    clear z3 z4 dq uj j5
    go_wp2_with fail
    exact bodyPost_ret (v:=.tuple #[.slice none 0 0,.int .i64 AE]) (by simp[results,Tryz.results26,go_sem]) rfl (kp bel)
  .have hA:=z2 hv
   have Ba:=dq (by rw[hA];decide)
   subst hA
   subst Ba
   clear z2 z3 z4 dq uj
   by_cases si:v<0
   .obtain⟨U,hU⟩:∃U,U=x.up:=⟨_,rfl⟩
    rw[<-hU] at cC⊢
    replace hU:=hide hU
    obtain⟨sa,sn,sG,a1,n1,c1,a2,n2,c2,ra,rn,rc⟩:=p
    simp only[Pw.val] at*
    have BX:=ac.laid w [.slice sa sn sG,.slice a1 n1 c1,.slice a2 n2 c2,.bool U,.slice ra rn rc] 30 _ rfl
    have bel:=newB (Below.refl w.heap.size w) (.cells #[.slice sa sn sG,.slice a1 n1 c1,.slice a2 n2 c2,.bool U,.slice ra rn rc] 30)
    replace I:=I.alloc (.cells #[.slice sa sn sG,.slice a1 n1 c1,.slice a2 n2 c2,.bool U,.slice ra rn rc] 30)
    go_enter Tryz.func26,Tryz.ntmps26
    go_upto_region 1 with fail
    generalize World.alloc w _=w1 at*
    have x0:=BX.cell 0
    have x1:=BX.cell 1
    have x2:=BX.cell 2
    have x3:=BX.cell 3
    have x4:=BX.cell 4
    have xl:=BX.lt
    go_wp2_with fail
    go_at_call 63
    refine(cC _ (hg.call bel) I).mono ?_
    rintro e w2 ⟨la,n,c,l,rfl,hn,hl,LS,b⟩
    clear x0 x1 x2 x3 x4 xl
    replace BX:=BX.keep b BX.lt
    replace I:=I.call b
    replace bel:=aa bel b
    clear b
    have x0:=BX.cell 0
    have x1:=BX.cell 1
    have x2:=BX.cell 2
    have x3:=BX.cell 3
    have x4:=BX.cell 4
    have xl:=BX.lt
    have pb:n=L.length:=by rw[hn.out,<-List.length_map (f:=fun q:bF=>q.r),hl.out]
    replace pb:=hide pb
    go_wp2_with fail
    exact bodyPost_ret (v:=.tuple #[.slice none 0 0,.int .i64 7]) (by simp[results,Tryz.results26,go_sem]) rfl (kp bel)
   .obtain⟨U,hU⟩:∃U,U=x.up:=⟨_,rfl⟩
    rw[<-hU] at cC⊢
    replace hU:=hide hU
    obtain⟨sa,sn,sG,a1,n1,c1,a2,n2,c2,ra,rn,rc⟩:=p
    simp only[Pw.val] at*
    have BX:=ac.laid w [.slice sa sn sG,.slice a1 n1 c1,.slice a2 n2 c2,.bool U,.slice ra rn rc] 30 _ rfl
    have bel:=newB (Below.refl w.heap.size w) (.cells #[.slice sa sn sG,.slice a1 n1 c1,.slice a2 n2 c2,.bool U,.slice ra rn rc] 30)
    replace I:=I.alloc (.cells #[.slice sa sn sG,.slice a1 n1 c1,.slice a2 n2 c2,.bool U,.slice ra rn rc] 30)
    go_enter Tryz.func26,Tryz.ntmps26
    go_upto_region 1 with fail
    generalize World.alloc w _=w1 at*
    have x0:=BX.cell 0
    have x1:=BX.cell 1
    have x2:=BX.cell 2
    have x3:=BX.cell 3
    have x4:=BX.cell 4
    have xl:=BX.lt
    go_wp2_with fail
    go_at_call 63
    refine(cC _ (hg.call bel) I).mono ?_
    rintro e w2 ⟨la,n,c,l,rfl,hn,hl,LS,b⟩
    clear x0 x1 x2 x3 x4 xl
    replace BX:=BX.keep b BX.lt
    replace I:=I.call b
    replace bel:=aa bel b
    clear b
    have x0:=BX.cell 0
    have x1:=BX.cell 1
    have x2:=BX.cell 2
    have x3:=BX.cell 3
    have x4:=BX.cell 4
    have xl:=BX.lt
    have pb:n=L.length:=by rw[hn.out,<-List.length_map (f:=fun q:bF=>q.r),hl.out]
    have Ia:(n:Int)<v:=by omega
    replace pb:=hide pb
    go_wp2_with fail
    exact bodyPost_ret (v:=.tuple #[.slice none 0 0,.int .i64 7]) (by simp[results,Tryz.results26,go_sem]) rfl (kp bel)
 .have hA:=z1 h
  have Ba:=dq (by rw[hA];exact h)
  subst Ba
  have hd:decide (cu x=0)=false:=decide_eq_false h
  have nF:(cu x != 0)=true:=by simpa using h
  subst hA
  generalize cu x=E at*
  clear z2 z3 z4 dq uj
  obtain⟨U,hU⟩:∃U,U=x.up:=⟨_,rfl⟩
  rw[<-hU] at cC⊢
  replace hU:=hide hU
  obtain⟨sa,sn,sG,a1,n1,c1,a2,n2,c2,ra,rn,rc⟩:=p
  simp only[Pw.val] at*
  have BX:=ac.laid w [.slice sa sn sG,.slice a1 n1 c1,.slice a2 n2 c2,.bool U,.slice ra rn rc] 30 _ rfl
  have bel:=newB (Below.refl w.heap.size w) (.cells #[.slice sa sn sG,.slice a1 n1 c1,.slice a2 n2 c2,.bool U,.slice ra rn rc] 30)
  replace I:=I.alloc (.cells #[.slice sa sn sG,.slice a1 n1 c1,.slice a2 n2 c2,.bool U,.slice ra rn rc] 30)
  go_enter Tryz.func26,Tryz.ntmps26
  go_upto_region 1 with fail
  generalize World.alloc w _=w1 at*
  have x0:=BX.cell 0
  have x1:=BX.cell 1
  have x2:=BX.cell 2
  have x3:=BX.cell 3
  have x4:=BX.cell 4
  have xl:=BX.lt
  go_wp2_with fail
  go_at_call 63
  refine(cC _ (hg.call bel) I).mono ?_
  rintro e w2 ⟨la,n,c,l,rfl,hn,hl,LS,b⟩
  clear x0 x1 x2 x3 x4 xl
  replace BX:=BX.keep b BX.lt
  replace I:=I.call b
  replace bel:=aa bel b
  clear b
  have x0:=BX.cell 0
  have x1:=BX.cell 1
  have x2:=BX.cell 2
  have x3:=BX.cell 3
  have x4:=BX.cell 4
  have xl:=BX.lt
  go_wp2_with fail
  exact bodyPost_ret (v:=.tuple #[.slice none 0 0,.int .i64 E]) (by simp[results,Tryz.results26,go_sem]) rfl (kp bel)
end Go.Proofs.YtoonnbhoiocoeaaGreatDoor
namespace Go.Proofs.YtoonnbhoiocoeaaGreatDoor
open Go.RowKit
open Go.Lib (byteCells)
theorem mq {w:World}{base n:Nat}{a:Option Addr}{G:Nat}{l:List Pt}(o:w.ownsRow base 56 2 (.slice a n G) n (am l)):aI w a G l:=by
 obtain⟨a3,G3,e3,s3,_,_⟩:=aI.ofOwn o
 simp only[Value.slice.injEq,true_and] at e3
 obtain⟨rfl,rfl⟩:=e3
 exact s3
theorem sX {x:Wd}{p:Pw}{w:World}(I:ej w p x)(h:cu x=0):p.n1+p.n2<=9223372036854775807/\p.sn<=140737488355328:=by
 obtain⟨a,b,_⟩:=mI I h
 omega
theorem Fb {x:Wd}{p:Pw}{w:World}(J:JW x)(hg:Gl w)(I:ej w p x):
  Calls Tryz.prog 25 #[p.val x.up] w fun e w'=>e=.returned (.tuple #[.int .i64 (lI x:Int),.int .i64 0])/\Below w.heap.size w w':=by
 have c:=nU x p w hg I (sX I J.1).1 (sX I J.1).2
 unfold tV at c
 rw[J.1,if_pos rfl] at c
 exact c
theorem Nr {a1 a2:Option Addr}{c1 c2 n m:Nat}{l:List Pt}{w:World}(hl:l.length<=4611686018427387904)(r1:aI w a1 c1 l)(r2:aI w a2 c2 l)(hn:Hid (n=l.length))(hm:Hid (m=l.length)):
  Calls Tryz.prog 21 #[.slice a1 n c1,.slice a2 m c2] w fun e w'=>e=.returned (.bool true)/\Below w.heap.size w w':=by
 obtain rfl:=hn.out
 obtain rfl:=hm.out
 refine(oG a1 a2 c1 c2 l l w r1 r2 hl hl).mono ?_
 rintro e w' ⟨rfl,q,rfl⟩
 exact⟨by simp,bj (Below.refl _ _) q⟩
theorem Fa (x:Wd)(v s:Int):(je x v s).length<=40:=by
 unfold je
 split
 .exact ud _ _
 .simp
end Go.Proofs.YtoonnbhoiocoeaaGreatDoor
namespace Go.Proofs.YtoonnbhoiocoeaaGreatDoor
open Go.RowKit
open Go.Lib (byteCells)
end Go.Proofs.YtoonnbhoiocoeaaGreatDoor
namespace Go.Proofs.YtoonnbhoiocoeaaGreatDoor
open Go.RowKit
open Go.Lib (byteCells)
def Om:List Hp:=[⟨1,0,0,[(0,5,0),(0,6,0)]⟩,⟨2,0,2,[]⟩,⟨4,0,9,[]⟩]
def td:Wd:=(ez f7 Om).1
theorem WA:(ez f7 Om).2=[0,0,0]:=by decide+kernel
theorem U6:cu td=0:=by decide+kernel
theorem UW:tV td=3:=by decide+kernel
theorem Qs:oa td 2 0=0/\(je td 2 0).length=2:=by decide+kernel
theorem Qn:oa td 3 0=0/\(je td 3 0).length=0:=by decide+kernel
theorem WR:oa td 4 0=7:=by decide+kernel
theorem PW:td.d.safe.length+td.d.wait.length<=1000/\td.c.length<=1000:=by decide+kernel
theorem Jf (w:World)(l:List bF)(cs:Array Value)(hc:cs.toList=l.flatMap bF.cells)(t:TypeId)(n:Nat)(hn:n=w.heap.size)(cap:Nat)(hl:l.length=cap)(hm:cap<=9223372036854775807):aY bF.cells (w.alloc (.cells cs t)) (some ⟨n,0,none⟩) cap l:=by
 have h:=Row.laid w cs.toList t n hn
 rw[Array.toArray_toList,hc] at h
 exact⟨h,by rw[hl];exact Nat.le_refl _,hm,fun e=>by cases e⟩
theorem OK (w:World)(l:List Nt)(cs:Array Value)(hc:cs.toList=l.flatMap ec)(t:TypeId)(n:Nat)(hn:n=w.heap.size)(cap:Nat)(hl:l.length=cap)(hm:cap<=9223372036854775807):aY ec (w.alloc (.cells cs t)) (some ⟨n,0,none⟩) cap l:=by
 have h:=Row.laid w cs.toList t n hn
 rw[Array.toArray_toList,hc] at h
 exact⟨h,by rw[hl];exact Nat.le_refl _,hm,fun e=>by cases e⟩
theorem OW (p:Pw)(g g1:Nat)(W:World)(gl:Gl W)(I:ej W p f7)(S:dI W (some ⟨g,0,none⟩) 3 [⟨⟨1,0,0,[(0,5,0),(0,6,0)]⟩,some ⟨g1,0,none⟩,2⟩,⟨⟨2,0,2,[]⟩,none,0⟩,⟨⟨4,0,9,[]⟩,none,0⟩]):
  Calls Tryz.prog 23 #[p.val true,.slice (some ⟨g,0,none⟩) 3 3] W (qU W td [0,0,0] 0):=by
 have c:=Cc f7 [⟨⟨1,0,0,[(0,5,0),(0,6,0)]⟩,some ⟨g1,0,none⟩,2⟩,⟨⟨2,0,2,[]⟩,none,0⟩,⟨⟨4,0,9,[]⟩,none,0⟩] p (some ⟨g,0,none⟩) 3 3 W gl I we S (hide rfl)
 rw[if_neg (by simp)] at c
 have e:(ez f7 Om).1=td/\(ez f7 Om).2=[0,0,0]:=⟨rfl,WA⟩
 rw[<-e.1,<-e.2]
 exact c
theorem QK (W:World):
  dI ((W.alloc (.cells #[.int .i64 0,.int .i64 5,.int .i64 0,.int .i64 0,.int .i64 6,.int .i64 0] 75)).alloc (.cells #[.int .i64 1,.int .i64 0,.int .i64 0,.slice (some ⟨W.heap.size,0,none⟩) 2 2,.int .i64 2,.int .i64 0,.int .i64 2,.slice none 0 0,.int .i64 4,.int .i64 0,.int .i64 9,.slice none 0 0] 33)) (some ⟨W.heap.size+1,0,none⟩) 3 [⟨⟨1,0,0,[(0,5,0),(0,6,0)]⟩,some ⟨W.heap.size,0,none⟩,2⟩,⟨⟨2,0,2,[]⟩,none,0⟩,⟨⟨4,0,9,[]⟩,none,0⟩]:=by
 refine⟨Jf _ _ _ (by rfl) _ _ (by simp) _ rfl (by decide),fun x hx=>?_⟩
 simp only[List.mem_cons,List.not_mem_nil,or_false] at hx
 rcases hx with rfl|rfl|rfl
 .exact(OK W [(0,5,0),(0,6,0)] _ (by rfl) _ _ rfl _ rfl (by decide)).alloc _
 .exact aY.ofNil ec _
 .exact aY.ofNil ec _
theorem qN (w:World)(hg:Gl w):Calls Tryz.prog 27 #[] w fun e w'=>e=.returned (.bool true)/\Below w.heap.size w w':=by
 obtain⟨Xc,XX⟩:=PW
 have cV:=fun p V g (i:ej V p td)=>nU td p V g i (by rw[i.e1,i.e2];omega) (by rw[i.es];omega)
 have P3:=fun p V g (i:ej V p td)=>p6 td p 2 0 V g i (by rw[i.e1,i.e2];omega) (by rw[i.es];omega)
 have Qc:=fun p V g (i:ej V p td)=>p6 td p 3 0 V g i (by rw[i.e1,i.e2];omega) (by rw[i.es];omega)
 have PQ:=fun p V g (i:ej V p td)=>p6 td p 4 0 V g i (by rw[i.e1,i.e2];omega) (by rw[i.es];omega)
 have cR:=OW
 rw[UW,U6] at cV
 rw[Qs.1] at P3
 rw[Qn.1] at Qc
 rw[WR] at PQ
 unfold Ar at P3 Qc PQ
 unfold qU at cR
 have h2:(je td 2 0).length=2:=Qs.2
 have h3:(je td 3 0).length=0:=Qn.2
 clear Xc XX
 generalize td=T at*
 generalize je T 2 0=A2 at*
 generalize je T 3 0=A3 at*
 generalize je T 4 0=A4 at*
 replace h2:=hide h2
 replace h3:=hide h3
 simp only[Pw.val] at cV P3 Qc PQ cR
 go_enter Tryz.func27,Tryz.ntmps27
 go_wp2_with fail
 go_at_call 14
 refine(ur _).mono ?_
 rintro e w2 ⟨⟨ba,bn,bG,c1,JA,bk1,c2,Kg,bk2,br,JC,Ji⟩,rfl,I,bel⟩
 simp only[Pw.val]
 go_wp2_with fail
 go_at_call 23
 have bb:=newB (newB (Below.refl w2.heap.size w2) (.cells #[.int .i64 0,.int .i64 5,.int .i64 0,.int .i64 0,.int .i64 6,.int .i64 0] 75)) (.cells #[.int .i64 1,.int .i64 0,.int .i64 0,.slice (some ⟨w2.heap.size,0,none⟩) 2 2,.int .i64 2,.int .i64 0,.int .i64 2,.slice none 0 0,.int .i64 4,.int .i64 0,.int .i64 9,.slice none 0 0] 33)
 refine(cR ⟨ba,bn,bG,c1,JA,bk1,c2,Kg,bk2,br,JC,Ji⟩ _ _ _ (hg.call (aa bel bb)) (I.call bb) (QK w2)).mono ?_
 rintro e w3 ⟨⟨sa,sn,sG,a1,n1,d1,a2,n2,d2,ra,rn,rc⟩,ss,qn,qG,rfl,I2,YS,RS,b0⟩
 have b1:=aa bb b0
 have b:=newB b1 (.cells #[.slice sa sn sG,.slice a1 n1 d1,.slice a2 n2 d2,.bool T.up,.slice ra rn rc] 30)
 have BX:=ac.laid w3 [.slice sa sn sG,.slice a1 n1 d1,.slice a2 n2 d2,.bool T.up,.slice ra rn rc] 30 _ rfl
 replace I2:=I2.alloc (.cells #[.slice sa sn sG,.slice a1 n1 d1,.slice a2 n2 d2,.bool T.up,.slice ra rn rc] 30)
 replace bel:=aa bel b
 clear b b1 b0 bb RS YS I cR
 go_upto_region 2 with fail
 generalize w3.heap.size=gX at*
 generalize World.alloc w3 _=w4 at*
 have x0:=BX.cell 0
 have x1:=BX.cell 1
 have x2:=BX.cell 2
 have x3:=BX.cell 3
 have x4:=BX.cell 4
 have xl:=BX.lt
 go_wp2_with fail
 go_at_call 25
 refine(cV ⟨sa,sn,sG,a1,n1,d1,a2,n2,d2,ra,rn,rc⟩ _ (hg.call bel) I2).mono ?_
 rintro e w5 ⟨rfl,b⟩
 clear x0 x1 x2 x3 x4 xl
 replace BX:=BX.keep b BX.lt
 replace I2:=I2.call b
 replace bel:=aa bel b
 clear b
 have x0:=BX.cell 0
 have x1:=BX.cell 1
 have x2:=BX.cell 2
 have x3:=BX.cell 3
 have x4:=BX.cell 4
 have xl:=BX.lt
 go_wp2_with fail
 go_at_call 26
 refine(P3 ⟨sa,sn,sG,a1,n1,d1,a2,n2,d2,ra,rn,rc⟩ _ (hg.call bel) I2).mono ?_
 rintro e w6 ⟨l2,m2,G2,rfl,mS,_,b⟩
 obtain rfl:m2=2:=mS.out.trans h2.out
 clear x0 x1 x2 x3 x4 xl
 replace BX:=BX.keep b BX.lt
 replace I2:=I2.call b
 replace bel:=aa bel b
 clear b
 have x0:=BX.cell 0
 have x1:=BX.cell 1
 have x2:=BX.cell 2
 have x3:=BX.cell 3
 have x4:=BX.cell 4
 have xl:=BX.lt
 go_wp2_with fail
 go_at_call 26
 refine(Qc ⟨sa,sn,sG,a1,n1,d1,a2,n2,d2,ra,rn,rc⟩ _ (hg.call bel) I2).mono ?_
 rintro e w7 ⟨l3,m3,G3,rfl,Dm,_,b⟩
 obtain rfl:m3=0:=Dm.out.trans h3.out
 clear x0 x1 x2 x3 x4 xl
 replace BX:=BX.keep b BX.lt
 replace I2:=I2.call b
 replace bel:=aa bel b
 clear b
 have x0:=BX.cell 0
 have x1:=BX.cell 1
 have x2:=BX.cell 2
 have x3:=BX.cell 3
 have x4:=BX.cell 4
 have xl:=BX.lt
 go_wp2_with fail
 go_at_call 26
 refine(PQ ⟨sa,sn,sG,a1,n1,d1,a2,n2,d2,ra,rn,rc⟩ _ (hg.call bel) I2).mono ?_
 rintro e w8 ⟨l4,m4,G4,rfl,hm4,_,b⟩
 go_wp2_with fail
 go_ret
 exact⟨rfl,aa bel b⟩
end Go.Proofs.YtoonnbhoiocoeaaGreatDoor
