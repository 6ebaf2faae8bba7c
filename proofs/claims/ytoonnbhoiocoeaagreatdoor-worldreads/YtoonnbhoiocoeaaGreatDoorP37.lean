/-
  The walk of WorldReads.
-/
import Derived.Test.YtoonnbhoiocoeaaGreatDoorRows
import Derived.Test.YtoonnbhoiocoeaaGreatDoorCards
import Derived.Test.YtoonnbhoiocoeaaGreatDoorTie
import Derived.ProofKit
import Derived.ChangeMaps5
import Derived.LaidMore
import Derived.Stop.Joined
import Derived.SevenTiedAt
import Derived.Test.YtoonnbhoiocoeaaGreatDoorP29
import Derived.Test.YtoonnbhoiocoeaaGreatDoorP36
import Derived.Test.YtoonnbhoiocoeaaGreatDoorP32
import Derived.Test.YtoonnbhoiocoeaaGreatDoorP01
import Derived.Test.YtoonnbhoiocoeaaGreatDoorP24
import Derived.Test.YtoonnbhoiocoeaaGreatDoorP28
set_option maxHeartbeats 40000000
set_option maxRecDepth 100000
set_option linter.unusedVariables false
namespace Go.Proofs.YtoonnbhoiocoeaaGreatDoor
open Go.RowKit
open Go.Lib (byteCells)
theorem Oi {l:List Pt}{ao:Option Addr}{cap n:Nat}{w:World}(f t:Int)(few:l.length<=40)(S:aI w ao cap l)(hn:n=l.length):
  Calls Tryz.prog 22 #[.slice ao n cap,.int .i64 f,.int .i64 t] w fun e w'=>∃a' n' G',e=.returned (.slice a' n' G')/\Hid (n'=(gH l f t).length)/\aI w' a' G' (gH l f t)/\Below w.heap.size w w':=by
 subst hn
 refine(DS l ao cap _ f t w S rfl few).mono ?_
 rintro e w' ⟨a',G',rfl,o,b⟩
 exact⟨a',_,G',rfl,hide rfl,kz o,b⟩
theorem Fd (W:World)(hg:Gl W)(x:Wd)(p:Pw)(I:ej W p x)(few:p.n1+p.n2<=9223372036854775807)(gV:p.sn<=140737488355328)(_:p.rn<=140737488355328)(r:Int)(_:(Lit.int .i64 r).wf=true)(s:Int)(_:(Lit.int .i64 s).wf=true)(f:Int)(_:(Lit.int .i64 f).wf=true)(t:Int)(_:(Lit.int .i64 t).wf=true):
  Calls Tryz.prog 4 #[p.val x.up,.int .i64 r,.int .i64 s,.int .i64 f,.int .i64 t] W fun e w'=>e=.returned (.bool true)/\Below W.heap.size W w':=by
 have cR:=fun V g i=>yr x p r s f t V g i few gV
 unfold Ar at cR
 have cC:=fun V g i=>tU x p V g i
 obtain⟨c1,c2,c3,c4⟩:=tx x r s
 have dq:jB x r s≠0->mz x r s f t=[]:=xU
 obtain⟨RE,om⟩:∃RE,RE=jB x r s:=⟨_,rfl⟩
 obtain⟨RL,oN⟩:∃RL,RL=mz x r s f t:=⟨_,rfl⟩
 rw[<-om] at c1 c2 c3 c4 cR dq
 rw[<-oN] at cR dq
 by_cases hz:cu x=0
 .rw[hz] at cC
  by_cases hr:0<=r/\r<=2
  .obtain⟨k,rfl⟩:∃k:Nat,r=k:=⟨r.toNat,by omega⟩
   rw[Int.toNat_natCast] at c3 c4
   have my:k<3:=by omega
   obtain⟨r1,r2,r3,r4,r5,r6⟩:=dQ hz
   have cy:k<x.rd.length:=by omega
   have y6:p.rn=3:=by rw[I.er];exact r5
   have nZ:fd x.up (iv x).length (x.rd.getD k 0)=true:=r6 _ (by rw[List.getD_eq_getElem?_getD,List.getElem?_eq_getElem cy];exact List.getElem_mem cy)
   obtain⟨R,hR⟩:∃R,R=x.rd:=⟨_,rfl⟩
   have vD:∀V,ej V p x->Sl V p.ra p.rc (R.map (Value.int .i64)):=fun V i=>by rw[hR];exact i.r
   rw[<-hR] at c3 c4 cy nZ
   have Yf:(k:Int)<3:=by omega
   have ZF:¬(k:Int)<0:=by omega
   have Z3:¬(2:Int)<(k:Int):=by omega
   obtain⟨v,hv⟩:∃v,v=R.getD k 0:=⟨_,rfl⟩
   rw[<-hv] at c3 c4 nZ
   by_cases si:v<0
   .have hE:=c3 hz hr si
    have hL:=dq (by rw[hE];decide)
    rw[hE,hL] at cR
    clear c1 c2 c3 c4 dq om oN hE hL few gV hz nZ r1 r2 r3 r4 r5 r6 hr
    obtain⟨U,hU⟩:∃U,U=x.up:=⟨_,rfl⟩
    rw[<-hU] at cR cC⊢
    replace hU:=hide hU
    replace hR:=hide hR
    replace hv:=hide hv
    obtain⟨sa,sn,sG,a1,n1,iV,a2,n2,iR,ra,rn,rc⟩:=p
    simp only at y6
    subst y6
    obtain⟨rb,ro,rfl,tJ,sP⟩:=(vD _ I).row.at (by intro e;rw[List.map_eq_nil_iff] at e;rw[e] at cy;simp at cy)
    clear tJ sP
    simp only[Pw.val] at*
    have BX:=ac.laid W [.slice sa sn sG,.slice a1 n1 iV,.slice a2 n2 iR,.bool U,.slice (some ⟨rb,ro,none⟩) 3 rc] 30 _ rfl
    have bel:=newB (Below.refl W.heap.size W) (.cells #[.slice sa sn sG,.slice a1 n1 iV,.slice a2 n2 iR,.bool U,.slice (some ⟨rb,ro,none⟩) 3 rc] 30)
    replace I:=I.alloc (.cells #[.slice sa sn sG,.slice a1 n1 iV,.slice a2 n2 iR,.bool U,.slice (some ⟨rb,ro,none⟩) 3 rc] 30)
    go_enter Tryz.func4,Tryz.ntmps4
    go_upto_region 1 with fail
    generalize World.alloc W _=w1 at*
    have x0:=BX.cell 0
    have x1:=BX.cell 1
    have x2:=BX.cell 2
    have x3:=BX.cell 3
    have x4:=BX.cell 4
    have xl:=BX.lt
    go_wp2_with fail
    go_at_call 17
    refine(cR _ (hg.call bel) I).mono ?_
    rintro e w2 ⟨a3,n3,G3,rfl,fD,o3,b⟩
    have T1:=kz o3
    clear o3
    clear x0 x1 x2 x3 x4 xl
    replace BX:=BX.keep b BX.lt
    replace I:=I.call b
    replace bel:=aa bel b
    clear b
    have x0:=BX.cell 0
    have x1:=BX.cell 1
    have x2:=BX.cell 2
    have x3:=BX.cell 3
    have x4:=BX.cell 4
    have xl:=BX.lt
    go_wp2_with fail
    go_at_call 9
    refine(cC _ (hg.call bel) I).mono ?_
    rintro e w3 ⟨rfl,b⟩
    clear x0 x1 x2 x3 x4 xl
    replace BX:=BX.keep b BX.lt
    replace I:=I.call b
    replace T1:=T1.call b
    replace bel:=aa bel b
    clear b
    have x0:=BX.cell 0
    have x1:=BX.cell 1
    have x2:=BX.cell 2
    have x3:=BX.cell 3
    have x4:=BX.cell 4
    have xl:=BX.lt
    have v0:=(vD _ I).int k cy
    rw[<-hv.out] at v0
    have hn0:n3=0:=fD.out
    subst hn0
    go_wp2_with fail
    go_at_call 10
    refine(dP _ (hg.call bel)).mono ?_
    rintro e w4 ⟨rfl,b⟩
    replace bel:=aa bel b
    clear b
    go_wp2_with fail
    go_at_call 10
    refine(dP _ (hg.call bel)).mono ?_
    rintro e w5 ⟨rfl,b⟩
    go_wp2_with fail
    go_ret
    exact⟨rfl,aa bel b⟩
   .have hE:=c4 hz hr si
    unfold fd at nZ
    simp only[Bool.and_eq_true,Bool.or_eq_true,decide_eq_true_eq] at nZ
    obtain⟨⟨_,Ia⟩,Kl⟩:=nZ
    have EX:x.up=true:=Kl.elim id (fun e=>absurd e si)
    have zG:iv x=ax x.d:=if_pos EX
    rw[zG] at Ia
    obtain⟨V,hV⟩:∃V:Nat,v=V:=⟨v.toNat,by omega⟩
    subst hV
    rw[Int.toNat_natCast] at hE
    have bk:=rM (wk hz EX).2.1 V
    obtain⟨CX,mM⟩:∃CX,CX=aZ ((ax x.d).take V):=⟨_,rfl⟩
    have jM:=fp bk
    rw[<-mM] at hE jM
    have hvI:¬(V:Int)<0:=by omega
    by_cases hs:0<=s/\s<=3
    .obtain⟨q,rfl⟩:∃q:Nat,s=q:=⟨s.toNat,by omega⟩
     have hq:q<4:=by omega
     obtain⟨A1,A2⟩:=sD jM hq
     rw[A1] at hE
     have vo:RL=gH (be (CX.getD q dN)) f t:=by
      rw[oN]
      unfold mz
      rw[if_pos (by rw[<-om];exact hE),Int.toNat_natCast,<-hR,<-hv,Int.toNat_natCast,<-mM,A2]
     have Mn:(be (CX.getD q dN)).length<=40:=by rw[<-A2];exact ud _ _
     have uT:RL.length<=4611686018427387904:=by rw[vo];exact Nat.le_trans (List.length_filter_le _ _) (Nat.le_trans Mn (by decide))
     rw[hE] at cR
     have cQ:=fun V g s t=>qH x.d p.a1 p.a2 p.c1 p.c2 p.n1 p.n2 V g s t I.e1 I.e2 r1
     have h4:=bL jM
     have TT:q<CX.length:=by omega
     have dA:dV (CX.getD q dN)=0/\og (CX.getD q dN)=be (CX.getD q dN):=by
      have h0:=(fX jM).2 _ (mr (l:=CX) (k:=q) TT)
      refine⟨h0,?_⟩
      unfold og
      rw[if_pos h0]
     obtain⟨D0,ue⟩:∃D0,D0=x.d:=⟨_,rfl⟩
     rw[<-ue] at cQ bk mM Ia
     have s1:∀V,ej V p x->Sl V p.a1 p.c1 (byteCells D0.safe)/\Sl V p.a2 p.c2 (byteCells D0.wait):=fun V i=>by rw[ue];exact⟨i.s1,i.s2⟩
     have Za:(q:Int)<4:=by omega
     have Ud:¬(q:Int)<0:=by omega
     have Ui:¬(3:Int)<(q:Int):=by omega
     replace mM:=hide mM
     replace h4:=hide h4
     replace dA:=hide dA
     replace vo:=hide vo
     replace Mn:=hide Mn
     replace uT:=hide uT
     clear c1 c2 c3 c4 dq om oN few gV hz r1 r2 r3 r4 r5 r6 hr Kl zG jM EX hE A1 A2 ue TT
     obtain⟨U,hU⟩:∃U,U=x.up:=⟨_,rfl⟩
     rw[<-hU] at cR cC⊢
     replace hU:=hide hU
     replace hR:=hide hR
     replace hv:=hide hv
     obtain⟨sa,sn,sG,a1,n1,iV,a2,n2,iR,ra,rn,rc⟩:=p
     simp only at y6
     subst y6
     obtain⟨rb,ro,rfl,tJ,sP⟩:=(vD _ I).row.at (by intro e;rw[List.map_eq_nil_iff] at e;rw[e] at cy;simp at cy)
     clear tJ sP
     simp only[Pw.val] at*
     have BX:=ac.laid W [.slice sa sn sG,.slice a1 n1 iV,.slice a2 n2 iR,.bool U,.slice (some ⟨rb,ro,none⟩) 3 rc] 30 _ rfl
     have bel:=newB (Below.refl W.heap.size W) (.cells #[.slice sa sn sG,.slice a1 n1 iV,.slice a2 n2 iR,.bool U,.slice (some ⟨rb,ro,none⟩) 3 rc] 30)
     replace I:=I.alloc (.cells #[.slice sa sn sG,.slice a1 n1 iV,.slice a2 n2 iR,.bool U,.slice (some ⟨rb,ro,none⟩) 3 rc] 30)
     go_enter Tryz.func4,Tryz.ntmps4
     go_upto_region 1 with fail
     generalize World.alloc W _=w1 at*
     have x0:=BX.cell 0
     have x1:=BX.cell 1
     have x2:=BX.cell 2
     have x3:=BX.cell 3
     have x4:=BX.cell 4
     have xl:=BX.lt
     go_wp2_with fail
     go_at_call 17
     refine(cR _ (hg.call bel) I).mono ?_
     rintro e w2 ⟨a3,n3,G3,rfl,fD,o3,b⟩
     have T1:=kz o3
     clear o3
     clear x0 x1 x2 x3 x4 xl
     replace BX:=BX.keep b BX.lt
     replace I:=I.call b
     replace bel:=aa bel b
     clear b
     have x0:=BX.cell 0
     have x1:=BX.cell 1
     have x2:=BX.cell 2
     have x3:=BX.cell 3
     have x4:=BX.cell 4
     have xl:=BX.lt
     go_wp2_with fail
     go_at_call 9
     refine(cC _ (hg.call bel) I).mono ?_
     rintro e w3 ⟨rfl,b⟩
     clear x0 x1 x2 x3 x4 xl
     replace BX:=BX.keep b BX.lt
     replace I:=I.call b
     replace T1:=T1.call b
     replace bel:=aa bel b
     clear b
     have x0:=BX.cell 0
     have x1:=BX.cell 1
     have x2:=BX.cell 2
     have x3:=BX.cell 3
     have x4:=BX.cell 4
     have xl:=BX.lt
     have v0:=(vD _ I).int k cy
     rw[<-hv.out] at v0
     go_wp2_with fail
     go_at_call 10
     refine(dP _ (hg.call bel)).mono ?_
     rintro e w4 ⟨rfl,b⟩
     clear v0
     clear x0 x1 x2 x3 x4 xl
     replace BX:=BX.keep b BX.lt
     replace I:=I.call b
     replace T1:=T1.call b
     replace bel:=aa bel b
     clear b
     have x0:=BX.cell 0
     have x1:=BX.cell 1
     have x2:=BX.cell 2
     have x3:=BX.cell 3
     have x4:=BX.cell 4
     have xl:=BX.lt
     go_wp2_with fail
     go_at_call 18
     refine(cQ _ (hg.call bel) (s1 _ I).1 (s1 _ I).2).mono ?_
     rintro e w5 ⟨p1,p2,la,q1,q2,q3,q4,ln,lG,l,rfl,kY,kW,T3,T4,LS,dK,iQ,b0⟩
     have b:=newB b0 (.cells #[.slice p1 q1 q3,.slice p2 q2 q4] 27)
     replace LS:=LS.call (newB (Below.refl w5.heap.size w5) (.cells #[.slice p1 q1 q3,.slice p2 q2 q4] 27))
     clear T3 T4 cQ b0
     replace kY:=hide kY
     replace kW:=hide kW
     have Fzs:ln<=lG:=by rw[dK];exact LS.row.le
     have DI:lG<=9223372036854775807:=LS.row.max
     have rV:V<=ln:=by rw[dK,<-List.length_map (f:=fun q:bF=>q.r),iQ];omega
     have NO:V<=lG:=Nat.le_trans rV Fzs
     have Xs:(V:Int)<=(lG:Int):=by omega
     have UY:(0:Int)<=(V:Int):=by omega
     have tQ:(l.take V).map (·.r)=(ax D0).take V:=by rw[List.map_take,iQ]
     have cS:=fun W S=>ks (l.take V) la V lG 4 W S (hide (by rw[List.length_take,<-dK];omega)) (hide (by rw[tQ,<-mM.out];exact h4.out.symm))
     rw[tQ,bk,<-mM.out] at cS
     replace dK:=hide dK
     replace iQ:=hide iQ
     clear tQ Ia bk
     clear x0 x1 x2 x3 x4 xl
     replace BX:=BX.keep b BX.lt
     replace I:=I.call b
     replace T1:=T1.call b
     replace bel:=aa bel b
     clear b
     have x0:=BX.cell 0
     have x1:=BX.cell 1
     have x2:=BX.cell 2
     have x3:=BX.cell 3
     have x4:=BX.cell 4
     have xl:=BX.lt
     go_upto_region 13 with fail
     generalize w5.heap.size=gD at*
     generalize World.alloc w5 _=w6 at*
     have v0:=(vD _ I).int k cy
     rw[<-hv.out] at v0
     go_wp2_with fail
     go_at_call 19
     refine(cS _ ⟨LS.row.front bF.four V,fun q hq=>LS.ent q (List.mem_of_mem_take hq)⟩).mono ?_
     rintro e w7 ⟨aN,GN,rfl,IN,b0⟩
     have b:=newB b0 (.cells #[.slice aN 4 GN] 24)
     have BN:=ac.laid w7 [.slice aN 4 GN] 24 _ rfl
     replace IN:=IN.alloc (.cells #[.slice aN 4 GN] 24)
     clear b0 cS LS v0
     clear x0 x1 x2 x3 x4 xl
     replace BX:=BX.keep b BX.lt
     replace I:=I.call b
     replace T1:=T1.call b
     replace bel:=aa bel b
     clear b
     have x0:=BX.cell 0
     have x1:=BX.cell 1
     have x2:=BX.cell 2
     have x3:=BX.cell 3
     have x4:=BX.cell 4
     have xl:=BX.lt
     go_upto_region 14 with fail
     generalize w7.heap.size=gN at*
     generalize World.alloc w7 _=w8 at*
     have n0:=BN.cell 0
     have nl:=BN.lt
     obtain⟨rs,rU,SS⟩:=IN.ex
     have oM:rs.length=4:=by rw[<-h4.out,<-rU,List.length_map]
     obtain⟨y,hy⟩:∃y,rs[q]? =some y:=⟨_,List.getElem?_eq_getElem (by omega)⟩
     obtain⟨zb,zo,rfl,P5⟩:=SS.where (by intro h;rw[h] at oM;simp at oM)
     obtain⟨t0,t1,good⟩:=SS.at q y hy
     have NV:CX.getD q dN=y.rw:=by
      rw[<-rU,List.getD_eq_getElem?_getD,List.getElem?_map,hy]
      rfl
     rw[NV] at dA Mn vo
     obtain⟨m1,m2⟩:=dA.out
     have cW:=fun V g=>qd y V g
     rw[m1,m2] at cW
     unfold Lr.v at cW
     obtain⟨nL,Bm⟩:∃nL,nL=(be y.rw).length:=⟨_,rfl⟩
     rw[<-Bm] at cW
     replace Bm:=hide Bm
     obtain⟨ey,LB⟩:∃ey,ey=y.bs.length:=⟨_,rfl⟩
     obtain⟨fy,NG⟩:∃fy,fy=y.hd.length:=⟨_,rfl⟩
     rw[<-LB] at t0 cW
     rw[<-NG] at t1 cW
     clear rU oM hy SS IN NV m1 m2 dA LB NG
     go_wp2_with fail
     go_at_call 20
     refine(cW _ good).mono ?_
     rintro e w9 ⟨aL,GL,rfl,SL,b⟩
     clear t0 t1 n0 nl BN good cW P5
     replace T1:=T1.call b
     replace bel:=aa bel b
     clear b x0 x1 x2 x3 x4 xl BX I
     go_wp2_with fail
     go_at_call 22
     refine(Oi f t Mn.out SL Bm.out).mono ?_
     rintro e w10 ⟨aR,nR,GR,rfl,WU,Up,b⟩
     replace T1:=T1.call b
     replace bel:=aa bel b
     clear b SL
     rw[<-vo.out] at WU Up
     go_wp2_with fail
     go_at_call 21
     refine(Rz uT.out T1 Up fD WU).mono ?_
     rintro e w11 ⟨rfl,b⟩
     go_wp2_with fail
     go_ret
     exact⟨rfl,aa bel b⟩
    .have MM:RE=5:=by
      rw[hE]
      unfold iK
      rw[if_pos jM,if_pos]
      unfold dw
      simp
      omega
     have hL:=dq (by rw[MM];decide)
     rw[MM,hL] at cR
     clear c1 c2 c3 c4 dq om oN hE MM hL few gV hz r1 r2 r3 r4 r5 r6 hr Ia Kl zG bk mM jM EX
     by_cases iJ:s<0
     .obtain⟨U,hU⟩:∃U,U=x.up:=⟨_,rfl⟩
      rw[<-hU] at cR cC⊢
      replace hU:=hide hU
      replace hR:=hide hR
      replace hv:=hide hv
      obtain⟨sa,sn,sG,a1,n1,iV,a2,n2,iR,ra,rn,rc⟩:=p
      simp only at y6
      subst y6
      obtain⟨rb,ro,rfl,tJ,sP⟩:=(vD _ I).row.at (by intro e;rw[List.map_eq_nil_iff] at e;rw[e] at cy;simp at cy)
      clear tJ sP
      simp only[Pw.val] at*
      have BX:=ac.laid W [.slice sa sn sG,.slice a1 n1 iV,.slice a2 n2 iR,.bool U,.slice (some ⟨rb,ro,none⟩) 3 rc] 30 _ rfl
      have bel:=newB (Below.refl W.heap.size W) (.cells #[.slice sa sn sG,.slice a1 n1 iV,.slice a2 n2 iR,.bool U,.slice (some ⟨rb,ro,none⟩) 3 rc] 30)
      replace I:=I.alloc (.cells #[.slice sa sn sG,.slice a1 n1 iV,.slice a2 n2 iR,.bool U,.slice (some ⟨rb,ro,none⟩) 3 rc] 30)
      go_enter Tryz.func4,Tryz.ntmps4
      go_upto_region 1 with fail
      generalize World.alloc W _=w1 at*
      have x0:=BX.cell 0
      have x1:=BX.cell 1
      have x2:=BX.cell 2
      have x3:=BX.cell 3
      have x4:=BX.cell 4
      have xl:=BX.lt
      go_wp2_with fail
      go_at_call 17
      refine(cR _ (hg.call bel) I).mono ?_
      rintro e w2 ⟨a3,n3,G3,rfl,fD,o3,b⟩
      have T1:=kz o3
      clear o3
      clear x0 x1 x2 x3 x4 xl
      replace BX:=BX.keep b BX.lt
      replace I:=I.call b
      replace bel:=aa bel b
      clear b
      have x0:=BX.cell 0
      have x1:=BX.cell 1
      have x2:=BX.cell 2
      have x3:=BX.cell 3
      have x4:=BX.cell 4
      have xl:=BX.lt
      go_wp2_with fail
      go_at_call 9
      refine(cC _ (hg.call bel) I).mono ?_
      rintro e w3 ⟨rfl,b⟩
      clear x0 x1 x2 x3 x4 xl
      replace BX:=BX.keep b BX.lt
      replace I:=I.call b
      replace T1:=T1.call b
      replace bel:=aa bel b
      clear b
      have x0:=BX.cell 0
      have x1:=BX.cell 1
      have x2:=BX.cell 2
      have x3:=BX.cell 3
      have x4:=BX.cell 4
      have xl:=BX.lt
      have v0:=(vD _ I).int k cy
      rw[<-hv.out] at v0
      have hn0:n3=0:=fD.out
      subst hn0
      go_wp2_with fail
      go_at_call 10
      refine(dP _ (hg.call bel)).mono ?_
      rintro e w4 ⟨rfl,b⟩
      replace bel:=aa bel b
      clear b
      go_wp2_with fail
      go_at_call 10
      refine(dP _ (hg.call bel)).mono ?_
      rintro e w5 ⟨rfl,b⟩
      go_wp2_with fail
      go_ret
      exact⟨rfl,aa bel b⟩
     .have EN:3<s:=by omega
      obtain⟨U,hU⟩:∃U,U=x.up:=⟨_,rfl⟩
      rw[<-hU] at cR cC⊢
      replace hU:=hide hU
      replace hR:=hide hR
      replace hv:=hide hv
      obtain⟨sa,sn,sG,a1,n1,iV,a2,n2,iR,ra,rn,rc⟩:=p
      simp only at y6
      subst y6
      obtain⟨rb,ro,rfl,tJ,sP⟩:=(vD _ I).row.at (by intro e;rw[List.map_eq_nil_iff] at e;rw[e] at cy;simp at cy)
      clear tJ sP
      simp only[Pw.val] at*
      have BX:=ac.laid W [.slice sa sn sG,.slice a1 n1 iV,.slice a2 n2 iR,.bool U,.slice (some ⟨rb,ro,none⟩) 3 rc] 30 _ rfl
      have bel:=newB (Below.refl W.heap.size W) (.cells #[.slice sa sn sG,.slice a1 n1 iV,.slice a2 n2 iR,.bool U,.slice (some ⟨rb,ro,none⟩) 3 rc] 30)
      replace I:=I.alloc (.cells #[.slice sa sn sG,.slice a1 n1 iV,.slice a2 n2 iR,.bool U,.slice (some ⟨rb,ro,none⟩) 3 rc] 30)
      go_enter Tryz.func4,Tryz.ntmps4
      go_upto_region 1 with fail
      generalize World.alloc W _=w1 at*
      have x0:=BX.cell 0
      have x1:=BX.cell 1
      have x2:=BX.cell 2
      have x3:=BX.cell 3
      have x4:=BX.cell 4
      have xl:=BX.lt
      go_wp2_with fail
      go_at_call 17
      refine(cR _ (hg.call bel) I).mono ?_
      rintro e w2 ⟨a3,n3,G3,rfl,fD,o3,b⟩
      have T1:=kz o3
      clear o3
      clear x0 x1 x2 x3 x4 xl
      replace BX:=BX.keep b BX.lt
      replace I:=I.call b
      replace bel:=aa bel b
      clear b
      have x0:=BX.cell 0
      have x1:=BX.cell 1
      have x2:=BX.cell 2
      have x3:=BX.cell 3
      have x4:=BX.cell 4
      have xl:=BX.lt
      go_wp2_with fail
      go_at_call 9
      refine(cC _ (hg.call bel) I).mono ?_
      rintro e w3 ⟨rfl,b⟩
      clear x0 x1 x2 x3 x4 xl
      replace BX:=BX.keep b BX.lt
      replace I:=I.call b
      replace T1:=T1.call b
      replace bel:=aa bel b
      clear b
      have x0:=BX.cell 0
      have x1:=BX.cell 1
      have x2:=BX.cell 2
      have x3:=BX.cell 3
      have x4:=BX.cell 4
      have xl:=BX.lt
      have v0:=(vD _ I).int k cy
      rw[<-hv.out] at v0
      have hn0:n3=0:=fD.out
      subst hn0
      go_wp2_with fail
      go_at_call 10
      refine(dP _ (hg.call bel)).mono ?_
      rintro e w4 ⟨rfl,b⟩
      replace bel:=aa bel b
      clear b
      go_wp2_with fail
      go_at_call 10
      refine(dP _ (hg.call bel)).mono ?_
      rintro e w5 ⟨rfl,b⟩
      go_wp2_with fail
      go_ret
      exact⟨rfl,aa bel b⟩
  .have hE:=c2 hz hr
   have hL:=dq (by rw[hE];decide)
   rw[hE,hL] at cR
   clear c1 c2 c3 c4 dq om oN hE hL few gV hz
   by_cases qr:r<0
   .obtain⟨U,hU⟩:∃U,U=x.up:=⟨_,rfl⟩
    rw[<-hU] at cR cC⊢
    replace hU:=hide hU
    obtain⟨sa,sn,sG,a1,n1,iV,a2,n2,iR,ra,rn,rc⟩:=p
    simp only[Pw.val] at*
    have BX:=ac.laid W [.slice sa sn sG,.slice a1 n1 iV,.slice a2 n2 iR,.bool U,.slice ra rn rc] 30 _ rfl
    have bel:=newB (Below.refl W.heap.size W) (.cells #[.slice sa sn sG,.slice a1 n1 iV,.slice a2 n2 iR,.bool U,.slice ra rn rc] 30)
    replace I:=I.alloc (.cells #[.slice sa sn sG,.slice a1 n1 iV,.slice a2 n2 iR,.bool U,.slice ra rn rc] 30)
    go_enter Tryz.func4,Tryz.ntmps4
    go_upto_region 1 with fail
    generalize World.alloc W _=w1 at*
    have x0:=BX.cell 0
    have x1:=BX.cell 1
    have x2:=BX.cell 2
    have x3:=BX.cell 3
    have x4:=BX.cell 4
    have xl:=BX.lt
    go_wp2_with fail
    go_at_call 17
    refine(cR _ (hg.call bel) I).mono ?_
    rintro e w2 ⟨a3,n3,G3,rfl,fD,o3,b⟩
    have T1:=kz o3
    clear o3
    clear x0 x1 x2 x3 x4 xl
    replace BX:=BX.keep b BX.lt
    replace I:=I.call b
    replace bel:=aa bel b
    clear b
    have x0:=BX.cell 0
    have x1:=BX.cell 1
    have x2:=BX.cell 2
    have x3:=BX.cell 3
    have x4:=BX.cell 4
    have xl:=BX.lt
    go_wp2_with fail
    go_at_call 9
    refine(cC _ (hg.call bel) I).mono ?_
    rintro e w3 ⟨rfl,b⟩
    clear x0 x1 x2 x3 x4 xl
    replace BX:=BX.keep b BX.lt
    replace I:=I.call b
    replace T1:=T1.call b
    replace bel:=aa bel b
    clear b
    have x0:=BX.cell 0
    have x1:=BX.cell 1
    have x2:=BX.cell 2
    have x3:=BX.cell 3
    have x4:=BX.cell 4
    have xl:=BX.lt
    have hn0:n3=0:=fD.out
    subst hn0
    go_wp2_with fail
    go_at_call 10
    refine(dP _ (hg.call bel)).mono ?_
    rintro e w4 ⟨rfl,b⟩
    replace bel:=aa bel b
    clear b
    go_wp2_with fail
    go_at_call 10
    refine(dP _ (hg.call bel)).mono ?_
    rintro e w5 ⟨rfl,b⟩
    go_wp2_with fail
    go_ret
    exact⟨rfl,aa bel b⟩
   .have OV:2<r:=by omega
    obtain⟨U,hU⟩:∃U,U=x.up:=⟨_,rfl⟩
    rw[<-hU] at cR cC⊢
    replace hU:=hide hU
    obtain⟨sa,sn,sG,a1,n1,iV,a2,n2,iR,ra,rn,rc⟩:=p
    simp only[Pw.val] at*
    have BX:=ac.laid W [.slice sa sn sG,.slice a1 n1 iV,.slice a2 n2 iR,.bool U,.slice ra rn rc] 30 _ rfl
    have bel:=newB (Below.refl W.heap.size W) (.cells #[.slice sa sn sG,.slice a1 n1 iV,.slice a2 n2 iR,.bool U,.slice ra rn rc] 30)
    replace I:=I.alloc (.cells #[.slice sa sn sG,.slice a1 n1 iV,.slice a2 n2 iR,.bool U,.slice ra rn rc] 30)
    go_enter Tryz.func4,Tryz.ntmps4
    go_upto_region 1 with fail
    generalize World.alloc W _=w1 at*
    have x0:=BX.cell 0
    have x1:=BX.cell 1
    have x2:=BX.cell 2
    have x3:=BX.cell 3
    have x4:=BX.cell 4
    have xl:=BX.lt
    go_wp2_with fail
    go_at_call 17
    refine(cR _ (hg.call bel) I).mono ?_
    rintro e w2 ⟨a3,n3,G3,rfl,fD,o3,b⟩
    have T1:=kz o3
    clear o3
    clear x0 x1 x2 x3 x4 xl
    replace BX:=BX.keep b BX.lt
    replace I:=I.call b
    replace bel:=aa bel b
    clear b
    have x0:=BX.cell 0
    have x1:=BX.cell 1
    have x2:=BX.cell 2
    have x3:=BX.cell 3
    have x4:=BX.cell 4
    have xl:=BX.lt
    go_wp2_with fail
    go_at_call 9
    refine(cC _ (hg.call bel) I).mono ?_
    rintro e w3 ⟨rfl,b⟩
    clear x0 x1 x2 x3 x4 xl
    replace BX:=BX.keep b BX.lt
    replace I:=I.call b
    replace T1:=T1.call b
    replace bel:=aa bel b
    clear b
    have x0:=BX.cell 0
    have x1:=BX.cell 1
    have x2:=BX.cell 2
    have x3:=BX.cell 3
    have x4:=BX.cell 4
    have xl:=BX.lt
    have hn0:n3=0:=fD.out
    subst hn0
    go_wp2_with fail
    go_at_call 10
    refine(dP _ (hg.call bel)).mono ?_
    rintro e w4 ⟨rfl,b⟩
    replace bel:=aa bel b
    clear b
    go_wp2_with fail
    go_at_call 10
    refine(dP _ (hg.call bel)).mono ?_
    rintro e w5 ⟨rfl,b⟩
    go_wp2_with fail
    go_ret
    exact⟨rfl,aa bel b⟩
 .have hE:=c1 hz
  have hL:=dq (by rw[hE];exact hz)
  rw[hE,hL] at cR
  have hd:decide (cu x=0)=false:=decide_eq_false hz
  generalize cu x=E at*
  have nF:(E != 0)=true:=by simpa using hz
  clear c1 c2 c3 c4 dq om oN hE hL few gV
  obtain⟨U,hU⟩:∃U,U=x.up:=⟨_,rfl⟩
  rw[<-hU] at cR cC⊢
  replace hU:=hide hU
  obtain⟨sa,sn,sG,a1,n1,iV,a2,n2,iR,ra,rn,rc⟩:=p
  simp only[Pw.val] at*
  have BX:=ac.laid W [.slice sa sn sG,.slice a1 n1 iV,.slice a2 n2 iR,.bool U,.slice ra rn rc] 30 _ rfl
  have bel:=newB (Below.refl W.heap.size W) (.cells #[.slice sa sn sG,.slice a1 n1 iV,.slice a2 n2 iR,.bool U,.slice ra rn rc] 30)
  replace I:=I.alloc (.cells #[.slice sa sn sG,.slice a1 n1 iV,.slice a2 n2 iR,.bool U,.slice ra rn rc] 30)
  go_enter Tryz.func4,Tryz.ntmps4
  go_upto_region 1 with fail
  generalize World.alloc W _=w1 at*
  have x0:=BX.cell 0
  have x1:=BX.cell 1
  have x2:=BX.cell 2
  have x3:=BX.cell 3
  have x4:=BX.cell 4
  have xl:=BX.lt
  go_wp2_with fail
  go_at_call 17
  refine(cR _ (hg.call bel) I).mono ?_
  rintro e w2 ⟨a3,n3,G3,rfl,fD,o3,b⟩
  have T1:=kz o3
  clear o3
  clear x0 x1 x2 x3 x4 xl
  replace BX:=BX.keep b BX.lt
  replace I:=I.call b
  replace bel:=aa bel b
  clear b
  have x0:=BX.cell 0
  have x1:=BX.cell 1
  have x2:=BX.cell 2
  have x3:=BX.cell 3
  have x4:=BX.cell 4
  have xl:=BX.lt
  go_wp2_with fail
  go_at_call 9
  refine(cC _ (hg.call bel) I).mono ?_
  rintro e w3 ⟨rfl,b⟩
  clear x0 x1 x2 x3 x4 xl
  replace BX:=BX.keep b BX.lt
  replace I:=I.call b
  replace T1:=T1.call b
  replace bel:=aa bel b
  clear b
  have x0:=BX.cell 0
  have x1:=BX.cell 1
  have x2:=BX.cell 2
  have x3:=BX.cell 3
  have x4:=BX.cell 4
  have xl:=BX.lt
  have hn0:n3=0:=fD.out
  subst hn0
  go_wp2_with fail
  go_at_call 10
  refine(dP _ (hg.call bel)).mono ?_
  rintro e w4 ⟨rfl,b⟩
  replace bel:=aa bel b
  clear b
  go_wp2_with fail
  go_at_call 10
  refine(dP _ (hg.call bel)).mono ?_
  rintro e w5 ⟨rfl,b⟩
  go_wp2_with fail
  go_ret
  exact⟨rfl,aa bel b⟩
end Go.Proofs.YtoonnbhoiocoeaaGreatDoor
namespace Go.Proofs.YtoonnbhoiocoeaaGreatDoor.worldReads
open Go.ChangeShapes Go.WideShapes Go.ChangeAt Go.RowKit Go.ChangeMaps
def jP:List (String × DataW Unit):=Rows.worldReadsRow.laid
theorem lifted (os:Os)(started:os.Started)(H:Type)(enc:TypeId × Value->H):
  ReturnsInHanded {} Tryz.checked os 4 .any (fun w args=>(Rows.worldReadsSpec.pre enc Tryz.prog Tryz.f4 [] false w args/\laidMetH Tryz.prog jP w)/\sizedMet enc Tryz.prog Tryz.f4 (OpenSpec.ofChange Rows.worldReadsSpec) false w args)
   (Rows.worldReadsSpec.post enc Tryz.prog Tryz.f4 false true false false):=by
 refine nw (C:=Tryz.checked) (X:=fun w _=>laidMetH Tryz.prog jP w) (fun _ _ _ hh h=>h.of_heap hh) own started (by kernel_rfl) Tryz.func4
  (ChangeSpec.witness_shaped (enc:=enc) (C:=Tryz.checked) (os:=os) (X:=fun w _=>laidMetH Tryz.prog jP w) false (World.laidAll Tryz.prog os jP) #[.agg #[.slice none 0 0,.slice none 0 0,.slice none 0 0,.bool false,.slice none 0 0],.int .i64 0,.int .i64 0,.int .i64 0,.int .i64 0] 8 (World.laidAll_os _ _ _)
   (World.shaped_of_ZipB (by kernel_rfl) (by kernel_rfl)) (by kernel_rfl) (by kernel_rfl) (by kernel_rfl)
   (by rw[MakeChecks.laidMetH_plain _ _ _ (by kernel_rfl)];exact laidMet_laidAll _ (by kernel_rfl) (by kernel_rfl))) ?_
 intro W base args ds gs before yn hW FC hL ze
 have dz:(DataW.weightsEach Tryz.prog (Tryz.f4.params.toList++Rows.worldReadsSpec.plain.varTypes Tryz.prog) (ds++gs)).all (·<=reachBytes)=true:=FC
 have lf:∀(j:Nat) t v,Tryz.f4.params[j]? =some t->args[j]? =some v->Value.okWide Tryz.prog W .any base t v:=yn
 have Ln:=hW
 obtain⟨p,q,nS,hV,rfl,UR,Wc⟩:=hW
 have hA:DataW.TrodAll enc Tryz.prog W 0 (fun _=>true) true Tryz.f4.params.toList args.toList ds p:=nS
 rw[Tryz.params4] at hA lf dz
 obtain⟨v0,Wb,d0,ds0,p0,q0,hargs,rfl,rfl,h0,r0⟩:=trodAll_cons hA
 obtain⟨v1,W7,d1,Vc,p1,q1,rfl,rfl,rfl,h1,r1⟩:=trodAll_cons r0
 obtain⟨v2,YL,d2,Y0,p2,q2,rfl,rfl,rfl,h2,r2⟩:=trodAll_cons r1
 obtain⟨v3,vs3,d3,ds3,p3,q3,rfl,rfl,rfl,h3,r3⟩:=trodAll_cons r2
 obtain⟨v4,vs4,d4,ds4,p4,q4,rfl,rfl,rfl,h4,r4⟩:=trodAll_cons r3
 obtain⟨rfl,rfl,rfl⟩:=trodAll_nil r4
 obtain rfl:args=#[v0,v1,v2,v3,v4]:=by cases args;simp_all
 obtain⟨rfl,rfl⟩:=trodVars_none hV
 have k0:=h0
 have M3:∀x∈p0,x.block<W.heap.size:=by obtain⟨m,hm⟩:=k0;exact DataW.trod_lt m _ _ _ hm
 obtain⟨x0,q0,rfl,I0,M6,F8,Ho⟩:=vc (lf 0 30 v0 rfl rfl) h0 (sC (j:=0) dz rfl rfl)
 obtain⟨a1,rfl,rfl,rfl,w1⟩:=open_int Tryz.underlying3 (lf 1 3 v1 rfl rfl) h1
 obtain⟨a2,rfl,rfl,rfl,w2⟩:=open_int Tryz.underlying3 (lf 2 3 v2 rfl rfl) h2
 obtain⟨a3,rfl,rfl,rfl,w3⟩:=open_int Tryz.underlying3 (lf 3 3 v3 rfl rfl) h3
 obtain⟨a4,rfl,rfl,rfl,w4⟩:=open_int Tryz.underlying3 (lf 4 3 v4 rfl rfl) h4
 rw[MakeChecks.laidMetH_plain _ _ _ (by kernel_rfl)] at hL
 have g:=xY hL ze
 refine(Fd W g x0 q0 I0 M6 F8 Ho a1 w1 a2 w2 a3 w3 a4 w4).mono fun e W' ⟨he,bel⟩=>?_
 subst he
 exact⟨_,rfl,_,_,_,[],_,[],Ln,trodAll_mk1 (shut_bool Tryz.underlying4 _),(trodAll_cons_mk (Below.trod laidOut (by kernel_rfl) (of_decide_eq_true (by kernel_rfl)) k0 bel M3) (trodAll_cons_mk (shut_int Tryz.underlying3 w1) (trodAll_cons_mk (shut_int Tryz.underlying3 w2) (trodAll_cons_mk (shut_int Tryz.underlying3 w3) (trodAll_cons_mk (shut_int Tryz.underlying3 w4) trodAll_mk0))))),rfl,bel.frame _,fun h=>by cases h⟩
theorem row_holds:Rows.WorldReadsSaid:=
 OpenClaim.holds_of_wide 4 Tryz.f4 rfl rfl rfl rfl rfl rfl rfl ⟨rfl,rfl,rfl,rfl,rfl⟩ rfl rfl rfl rfl rfl (by kernel_rfl) Tryz.func4 (by kernel_rfl)
  (of_decide_eq_true (by kernel_rfl)) (by unfold Func.isWrapper;first| (rw[if_pos (by decide+kernel)];kernel_rfl)| (rw[if_neg (by decide+kernel)];exact⟨rfl,rfl⟩))
  (fun os started H enc _=>lifted os started H enc)
end Go.Proofs.YtoonnbhoiocoeaaGreatDoor.worldReads
