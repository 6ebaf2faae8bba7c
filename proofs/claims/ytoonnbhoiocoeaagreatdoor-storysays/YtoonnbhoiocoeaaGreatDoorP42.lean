/-
  The walk of StorySays.
-/
import Derived.Test.YtoonnbhoiocoeaaGreatDoorRows
import Derived.Test.YtoonnbhoiocoeaaGreatDoorCards
import Derived.Test.YtoonnbhoiocoeaaGreatDoorTie
import Derived.ProofKit
import Derived.ChangeMaps5
import Derived.LaidMore
import Derived.Stop.Joined
import Derived.SevenTiedAt
import Derived.Test.YtoonnbhoiocoeaaGreatDoorP39
import Derived.Test.YtoonnbhoiocoeaaGreatDoorP36
import Derived.Test.YtoonnbhoiocoeaaGreatDoorP32
import Derived.Test.YtoonnbhoiocoeaaGreatDoorP01
import Derived.Test.YtoonnbhoiocoeaaGreatDoorP24
import Derived.Test.YtoonnbhoiocoeaaGreatDoorP28
set_option maxHeartbeats 40000000
set_option maxRecDepth 100000
set_option linter.unusedVariables false
namespace Go.Proofs.YtoonnbhoiocoeaaGreatDoor
open Go.RowKit
open Go.Lib (byteCells)
theorem Hk (W:World)(hg:Gl W)(x:Wd)(p:Pw)(I:ej W p x)(few:p.n1+p.n2<=9223372036854775807)(gV:p.sn<=140737488355328)(_:p.rn<=140737488355328)(v:Int)(_:(Lit.int .i64 v).wf=true)(s:Int)(_:(Lit.int .i64 s).wf=true):
  Calls Tryz.prog 6 #[p.val x.up,.int .i64 v,.int .i64 s] W fun e w'=>e=.returned (.bool true)/\Below W.heap.size W w':=by
 have cV:=fun V g i=>nU x p V g i few gV
 have cA:=fun V g i=>p6 x p v s V g i few gV
 unfold Ar at cA
 have cC:=fun V g i=>tU x p V g i
 obtain⟨z1,z2,z3,z4⟩:=xZ x v s
 have dq:oa x v s≠0->je x v s=[]:=FE
 have Nw:cu x≠0->tV x=0:=fun h=>if_neg h
 have Oh:cu x=0->tV x=(lI x:Int):=fun h=>if_pos h
 have rA:oa x v s=0->je x v s=fC (aZ ((ax x.d).take v.toNat)) s:=fun h=>if_pos h
 have wT:(je x v s).length<=40:=Fa x v s
 obtain⟨AE,BT⟩:∃AE,AE=oa x v s:=⟨_,rfl⟩
 obtain⟨AL,uj⟩:∃AL,AL=je x v s:=⟨_,rfl⟩
 obtain⟨VV,Jo⟩:∃VV,VV=tV x:=⟨_,rfl⟩
 rw[<-BT] at z1 z2 z3 z4 cA dq rA
 rw[<-uj] at cA dq rA wT
 rw[<-Jo] at cV Nw Oh
 clear BT uj Jo
 by_cases hz:cu x=0
 .have rV:=Oh hz
  rw[hz] at cV cC
  have r1:=(dQ hz).1
  have cQ:=fun V g s t=>qH x.d p.a1 p.a2 p.c1 p.c2 p.n1 p.n2 V g s t I.e1 I.e2 r1
  replace z2:=z2 hz
  replace z3:=z3 hz
  replace z4:=z4 hz
  have Gb:lI x=(ax x.d).length:=rfl
  rw[Gb] at z2 z3 z4 rV
  have kw:=sQ x.d
  obtain⟨D0,ue⟩:∃D0,D0=x.d:=⟨_,rfl⟩
  rw[<-ue] at cQ z2 z3 z4 rV kw rA
  have s1:∀V,ej V p x->Sl V p.a1 p.c1 (byteCells D0.safe)/\Sl V p.a2 p.c2 (byteCells D0.wait):=fun V i=>by rw[ue];exact⟨i.s1,i.s2⟩
  replace z2:=hide z2
  replace z3:=hide z3
  replace z4:=hide z4
  replace rA:=hide rA
  replace rV:=hide rV
  replace kw:=hide kw
  replace dq:=hide dq
  replace wT:=hide wT
  clear z1 Nw Oh ue Gb r1 hz few gV
  obtain⟨U,hU⟩:∃U,U=x.up:=⟨_,rfl⟩
  rw[<-hU] at cV cA cC⊢
  replace hU:=hide hU
  obtain⟨sa,sn,sG,a1,n1,c1,a2,n2,c2,ra,rn,rc⟩:=p
  simp only[Pw.val] at*
  have BX:=ac.laid W [.slice sa sn sG,.slice a1 n1 c1,.slice a2 n2 c2,.bool U,.slice ra rn rc] 30 _ rfl
  have bel:=newB (Below.refl W.heap.size W) (.cells #[.slice sa sn sG,.slice a1 n1 c1,.slice a2 n2 c2,.bool U,.slice ra rn rc] 30)
  replace I:=I.alloc (.cells #[.slice sa sn sG,.slice a1 n1 c1,.slice a2 n2 c2,.bool U,.slice ra rn rc] 30)
  go_enter Tryz.func6,Tryz.ntmps6
  go_upto_region 1 with fail
  generalize World.alloc W _=w1 at*
  have x0:=BX.cell 0
  have x1:=BX.cell 1
  have x2:=BX.cell 2
  have x3:=BX.cell 3
  have x4:=BX.cell 4
  have xl:=BX.lt
  go_wp2_with fail
  go_at_call 25
  refine(cV _ (hg.call bel) I).mono ?_
  rintro e w2 ⟨rfl,b⟩
  clear x0 x1 x2 x3 x4 xl
  replace BX:=BX.keep b BX.lt
  replace I:=I.call b
  replace bel:=aa bel b
  clear b
  have x0:=BX.cell 0
  have x1:=BX.cell 1
  have x2:=BX.cell 2
  have x3:=BX.cell 3
  have x4:=BX.cell 4
  have xl:=BX.lt
  go_wp2_with fail
  go_at_call 26
  refine(cA _ (hg.call bel) I).mono ?_
  rintro e w3 ⟨a3,n3,G3,rfl,fD,o3,b⟩
  have T1:=mq o3
  clear o3
  clear x0 x1 x2 x3 x4 xl
  replace BX:=BX.keep b BX.lt
  replace I:=I.call b
  replace bel:=aa bel b
  clear b
  have x0:=BX.cell 0
  have x1:=BX.cell 1
  have x2:=BX.cell 2
  have x3:=BX.cell 3
  have x4:=BX.cell 4
  have xl:=BX.lt
  go_wp2_with fail
  go_at_call 9
  refine(cC _ (hg.call bel) I).mono ?_
  rintro e w4 ⟨rfl,b⟩
  clear x0 x1 x2 x3 x4 xl
  replace BX:=BX.keep b BX.lt
  replace I:=I.call b
  replace T1:=T1.call b
  replace bel:=aa bel b
  clear b
  have x0:=BX.cell 0
  have x1:=BX.cell 1
  have x2:=BX.cell 2
  have x3:=BX.cell 3
  have x4:=BX.cell 4
  have xl:=BX.lt
  go_wp2_with fail
  go_at_call 27
  refine(qN _ (hg.call bel)).mono ?_
  rintro e w5 ⟨rfl,b⟩
  clear x0 x1 x2 x3 x4 xl
  replace BX:=BX.keep b BX.lt
  replace I:=I.call b
  replace T1:=T1.call b
  replace bel:=aa bel b
  clear b
  have x0:=BX.cell 0
  have x1:=BX.cell 1
  have x2:=BX.cell 2
  have x3:=BX.cell 3
  have x4:=BX.cell 4
  have xl:=BX.lt
  go_wp2_with fail
  go_at_call 18
  refine(cQ _ (hg.call bel) (s1 _ I).1 (s1 _ I).2).mono ?_
  rintro e w6 ⟨p1,p2,la,q1,q2,q3,q4,ln,lG,l,rfl,kY,kW,T3,T4,LS,dK,iQ,b0⟩
  have b:=newB b0 (.cells #[.slice p1 q1 q3,.slice p2 q2 q4] 27)
  replace LS:=LS.call (newB (Below.refl w6.heap.size w6) (.cells #[.slice p1 q1 q3,.slice p2 q2 q4] 27))
  clear T3 T4 cQ b0
  have Fzs:ln<=lG:=by rw[dK];exact LS.row.le
  have DI:lG<=9223372036854775807:=LS.row.max
  have Jt:ln=(ax D0).length:=by rw[dK,<-List.length_map (f:=fun q:bF=>q.r),iQ]
  replace kY:=hide kY
  replace kW:=hide kW
  replace dK:=hide dK
  replace iQ:=hide iQ
  replace rV:=rV.out
  replace z2:=z2.out
  replace z3:=z3.out
  replace z4:=z4.out
  replace kw:=kw.out
  replace dq:=dq.out
  rw[<-Jt] at rV z2 z3 z4 kw
  replace Jt:=hide Jt
  subst rV
  replace z2:=hide z2
  replace z3:=hide z3
  replace z4:=hide z4
  clear x0 x1 x2 x3 x4 xl
  replace BX:=BX.keep b BX.lt
  replace I:=I.call b
  replace T1:=T1.call b
  replace bel:=aa bel b
  clear b
  have x0:=BX.cell 0
  have x1:=BX.cell 1
  have x2:=BX.cell 2
  have x3:=BX.cell 3
  have x4:=BX.cell 4
  have xl:=BX.lt
  go_upto_region 7 with fail
  generalize w6.heap.size=gD at*
  generalize World.alloc w6 _=w7 at*
  by_cases hv:0<=v/\v<=(ln:Int)
  .obtain⟨V,rfl⟩:∃V:Nat,v=V:=⟨v.toNat,by omega⟩
   rw[Int.toNat_natCast] at z3 z4 rA
   replace z3:=z3.out hv
   replace z4:=z4.out hv
   have rV:V<=ln:=by omega
   have NO:V<=lG:=Nat.le_trans rV Fzs
   have Xs:(V:Int)<=(lG:Int):=by omega
   have UY:(0:Int)<=(V:Int):=by omega
   have ZM:¬(V:Int)<0:=by omega
   have ZQ:¬(ln:Int)<(V:Int):=by omega
   have tQ:(l.take V).map (·.r)=(ax D0).take V:=by rw[List.map_take,iQ.out]
   obtain⟨CX,mM⟩:∃CX,CX=aZ ((ax D0).take V):=⟨_,rfl⟩
   obtain⟨E2,j5⟩:∃E2,E2=bP ((ax D0).take V):=⟨_,rfl⟩
   obtain⟨dn,dp⟩:∃dn,dn=CX.length:=⟨_,rfl⟩
   have jM:=fun h:E2=0=>fp (L:=(ax D0).take V) (by rw[<-j5];exact h)
   have cS:=fun W S=>ks (l.take V) la V lG dn W S (hide (by rw[List.length_take,<-dK.out];omega)) (hide (by rw[tQ,<-mM];exact dp))
   rw[tQ,<-mM,<-j5] at cS
   rw[<-j5,<-mM] at z4
   rw[<-j5] at z3
   rw[<-mM] at jM rA
   replace dp:=hide dp
   replace z3:=hide z3
   replace z4:=hide z4
   clear tQ mM j5 z2 hv
   go_wp2_with fail
   go_at_call 19
   refine(cS _ ⟨LS.row.front bF.four V,fun q hq=>LS.ent q (List.mem_of_mem_take hq)⟩).mono ?_
   rintro e w8 ⟨aN,GN,rfl,IN,b0⟩
   have b:=newB b0 (.cells #[.slice aN dn GN] 24)
   have BN:=ac.laid w8 [.slice aN dn GN] 24 _ rfl
   clear cS LS
   clear x0 x1 x2 x3 x4 xl
   replace BX:=BX.keep b BX.lt
   replace I:=I.call b
   replace T1:=T1.call b
   replace bel:=aa bel b
   clear b
   have x0:=BX.cell 0
   have x1:=BX.cell 1
   have x2:=BX.cell 2
   have x3:=BX.cell 3
   have x4:=BX.cell 4
   have xl:=BX.lt
   go_upto_region 12 with fail
   have n0:=BN.cell 0
   have nl:=BN.lt
   by_cases bk:E2=0
   .subst bk
    replace jM:=jM rfl
    have h4:=bL jM
    replace z4:=z4.out rfl
    replace IN:=IN.alloc (.cells #[.slice aN dn GN] 24)
    clear b0
    generalize w8.heap.size=gN at*
    generalize World.alloc w8 _=w9 at*
    by_cases hs:0<=s/\s<=3
    .obtain⟨q,rfl⟩:∃q:Nat,s=q:=⟨s.toNat,by omega⟩
     have hq:q<4:=by omega
     obtain⟨A1,A2⟩:=sD jM hq
     rw[A1] at z4
     subst z4
     obtain⟨rs,rU,SS⟩:=IN.ex
     have oM:rs.length=4:=by rw[<-h4,<-rU,List.length_map]
     have hA:AL=be (CX.getD q dN):=(rA.out rfl).trans A2
     have h0:=(fX jM).2 _ (mr (l:=CX) (k:=q) (by omega))
     have dA:og (CX.getD q dN)=AL:=by
      rw[hA]
      unfold og
      rw[if_pos h0]
     obtain⟨y,hy⟩:∃y,rs[q]? =some y:=⟨_,List.getElem?_eq_getElem (by omega)⟩
     obtain⟨zb,zo,rfl,P5⟩:=SS.where (by intro h;rw[h] at oM;simp at oM)
     obtain⟨t0,t1,good⟩:=SS.at q y hy
     have NV:CX.getD q dN=y.rw:=by
      rw[<-rU,List.getD_eq_getElem?_getD,List.getElem?_map,hy]
      rfl
     rw[NV] at h0 dA
     have cW:=fun V g=>qd y V g
     rw[h0,dA] at cW
     unfold Lr.v at cW
     obtain rfl:dn=4:=by rw[dp.out,h4]
     have Za:(q:Int)<4:=by omega
     have Ud:¬(q:Int)<0:=by omega
     have Ui:¬(3:Int)<(q:Int):=by omega
     obtain⟨ey,LB⟩:∃ey,ey=y.bs.length:=⟨_,rfl⟩
     obtain⟨fy,NG⟩:∃fy,fy=y.hd.length:=⟨_,rfl⟩
     rw[<-LB] at t0 cW
     rw[<-NG] at t1 cW
     rw[<-fD.out] at cW
     replace wT:=wT.out
     clear rU oM hy SS IN NV dA LB NG hA h0 h4 hs rA jM dp A1 A2
     go_wp2_with fail
     go_at_call 20
     refine(cW _ good).mono ?_
     rintro e w10 ⟨aL,GL,rfl,SL,b⟩
     clear t0 t1 n0 nl BN good cW P5
     replace T1:=T1.call b
     replace bel:=aa bel b
     clear b x0 x1 x2 x3 x4 xl BX I
     go_wp2_with fail
     go_at_call 21
     refine(Nr (Nat.le_trans wT (by decide)) T1 SL fD fD).mono ?_
     rintro e w11 ⟨rfl,b⟩
     go_wp2_with fail
     go_ret
     exact⟨rfl,aa bel b⟩
    .have MM:AE=5:=by
      rw[z4]
      unfold iK
      rw[if_pos jM,if_pos]
      unfold dw
      simp
      omega
     subst MM
     clear z4
     replace h4:=hide h4
     by_cases iJ:s<0
     .obtain rfl:AL=[]:=dq (by decide)
      have hn0:n3=0:=fD.out
      subst hn0
      go_wp2_with fail
      go_ret
      exact⟨rfl,bel⟩
     .have EN:3<s:=by omega
      obtain rfl:AL=[]:=dq (by decide)
      have hn0:n3=0:=fD.out
      subst hn0
      go_wp2_with fail
      go_ret
      exact⟨rfl,bel⟩
   .obtain rfl:AE=E2:=z3.out bk
    have nF:(AE != 0)=true:=by simpa using bk
    have hd3:(AE==0)=false:=by simpa using bk
    clear b0
    generalize w8.heap.size=gN at*
    generalize World.alloc w8 _=w9 at*
    obtain rfl:AL=[]:=dq bk
    have hn0:n3=0:=fD.out
    subst hn0
    go_wp2_with fail
    go_ret
    exact⟨rfl,bel⟩
  .obtain rfl:AE=7:=z2.out hv
   by_cases si:v<0
   .obtain rfl:AL=[]:=dq (by decide)
    have hn0:n3=0:=fD.out
    subst hn0
    go_wp2_with fail
    go_ret
    exact⟨rfl,bel⟩
   .have yZ:(ln:Int)<v:=by omega
    obtain rfl:AL=[]:=dq (by decide)
    have hn0:n3=0:=fD.out
    subst hn0
    go_wp2_with fail
    go_ret
    exact⟨rfl,bel⟩
 .have hE:=z1 hz
  have hV:=Nw hz
  rw[hE] at cA dq
  rw[hV] at cV
  generalize cu x=E at*
  have nF:(E != 0)=true:=by simpa using hz
  clear z1 z2 z3 z4 Nw Oh hV hE rA few gV
  obtain⟨U,hU⟩:∃U,U=x.up:=⟨_,rfl⟩
  rw[<-hU] at cV cA cC⊢
  replace hU:=hide hU
  obtain⟨sa,sn,sG,a1,n1,c1,a2,n2,c2,ra,rn,rc⟩:=p
  simp only[Pw.val] at*
  have BX:=ac.laid W [.slice sa sn sG,.slice a1 n1 c1,.slice a2 n2 c2,.bool U,.slice ra rn rc] 30 _ rfl
  have bel:=newB (Below.refl W.heap.size W) (.cells #[.slice sa sn sG,.slice a1 n1 c1,.slice a2 n2 c2,.bool U,.slice ra rn rc] 30)
  replace I:=I.alloc (.cells #[.slice sa sn sG,.slice a1 n1 c1,.slice a2 n2 c2,.bool U,.slice ra rn rc] 30)
  go_enter Tryz.func6,Tryz.ntmps6
  go_upto_region 1 with fail
  generalize World.alloc W _=w1 at*
  have x0:=BX.cell 0
  have x1:=BX.cell 1
  have x2:=BX.cell 2
  have x3:=BX.cell 3
  have x4:=BX.cell 4
  have xl:=BX.lt
  go_wp2_with fail
  go_at_call 25
  refine(cV _ (hg.call bel) I).mono ?_
  rintro e w2 ⟨rfl,b⟩
  clear x0 x1 x2 x3 x4 xl
  replace BX:=BX.keep b BX.lt
  replace I:=I.call b
  replace bel:=aa bel b
  clear b
  have x0:=BX.cell 0
  have x1:=BX.cell 1
  have x2:=BX.cell 2
  have x3:=BX.cell 3
  have x4:=BX.cell 4
  have xl:=BX.lt
  go_wp2_with fail
  go_at_call 26
  refine(cA _ (hg.call bel) I).mono ?_
  rintro e w3 ⟨a3,n3,G3,rfl,fD,o3,b⟩
  have T1:=mq o3
  clear o3
  clear x0 x1 x2 x3 x4 xl
  replace BX:=BX.keep b BX.lt
  replace I:=I.call b
  replace bel:=aa bel b
  clear b
  have x0:=BX.cell 0
  have x1:=BX.cell 1
  have x2:=BX.cell 2
  have x3:=BX.cell 3
  have x4:=BX.cell 4
  have xl:=BX.lt
  go_wp2_with fail
  go_at_call 9
  refine(cC _ (hg.call bel) I).mono ?_
  rintro e w4 ⟨rfl,b⟩
  clear x0 x1 x2 x3 x4 xl
  replace BX:=BX.keep b BX.lt
  replace I:=I.call b
  replace T1:=T1.call b
  replace bel:=aa bel b
  clear b
  have x0:=BX.cell 0
  have x1:=BX.cell 1
  have x2:=BX.cell 2
  have x3:=BX.cell 3
  have x4:=BX.cell 4
  have xl:=BX.lt
  go_wp2_with fail
  go_at_call 27
  refine(qN _ (hg.call bel)).mono ?_
  rintro e w5 ⟨rfl,b⟩
  clear x0 x1 x2 x3 x4 xl
  replace BX:=BX.keep b BX.lt
  replace I:=I.call b
  replace T1:=T1.call b
  replace bel:=aa bel b
  clear b
  have x0:=BX.cell 0
  have x1:=BX.cell 1
  have x2:=BX.cell 2
  have x3:=BX.cell 3
  have x4:=BX.cell 4
  have xl:=BX.lt
  obtain rfl:AL=[]:=dq hz
  have hn0:n3=0:=fD.out
  subst hn0
  go_wp2_with fail
  go_at_call 27
  refine(qN _ (hg.call bel)).mono ?_
  rintro e w6 ⟨rfl,b⟩
  go_wp2_with fail
  go_ret
  exact⟨rfl,aa bel b⟩
end Go.Proofs.YtoonnbhoiocoeaaGreatDoor
namespace Go.Proofs.YtoonnbhoiocoeaaGreatDoor.storySays
open Go.ChangeShapes Go.WideShapes Go.ChangeAt Go.RowKit Go.ChangeMaps
def jP:List (String × DataW Unit):=Rows.storySaysRow.laid
theorem lifted (os:Os)(started:os.Started)(H:Type)(enc:TypeId × Value->H):
  ReturnsInHanded {} Tryz.checked os 6 .any (fun w args=>(Rows.storySaysSpec.pre enc Tryz.prog Tryz.f6 [] false w args/\laidMetH Tryz.prog jP w)/\sizedMet enc Tryz.prog Tryz.f6 (OpenSpec.ofChange Rows.storySaysSpec) false w args)
   (Rows.storySaysSpec.post enc Tryz.prog Tryz.f6 false true false false):=by
 refine nw (C:=Tryz.checked) (X:=fun w _=>laidMetH Tryz.prog jP w) (fun _ _ _ hh h=>h.of_heap hh) own started (by kernel_rfl) Tryz.func6
  (ChangeSpec.witness_shaped (enc:=enc) (C:=Tryz.checked) (os:=os) (X:=fun w _=>laidMetH Tryz.prog jP w) false (World.laidAll Tryz.prog os jP) #[.agg #[.slice none 0 0,.slice none 0 0,.slice none 0 0,.bool false,.slice none 0 0],.int .i64 0,.int .i64 0] 8 (World.laidAll_os _ _ _)
   (World.shaped_of_ZipB (by kernel_rfl) (by kernel_rfl)) (by kernel_rfl) (by kernel_rfl) (by kernel_rfl)
   (by rw[MakeChecks.laidMetH_plain _ _ _ (by kernel_rfl)];exact laidMet_laidAll _ (by kernel_rfl) (by kernel_rfl))) ?_
 intro W base args ds gs before yn hW FC hL ze
 have dz:(DataW.weightsEach Tryz.prog (Tryz.f6.params.toList++Rows.storySaysSpec.plain.varTypes Tryz.prog) (ds++gs)).all (·<=reachBytes)=true:=FC
 have lf:∀(j:Nat) t v,Tryz.f6.params[j]? =some t->args[j]? =some v->Value.okWide Tryz.prog W .any base t v:=yn
 have Ln:=hW
 obtain⟨p,q,nS,hV,rfl,UR,Wc⟩:=hW
 have hA:DataW.TrodAll enc Tryz.prog W 0 (fun _=>true) true Tryz.f6.params.toList args.toList ds p:=nS
 rw[Tryz.params6] at hA lf dz
 obtain⟨v0,Wb,d0,ds0,p0,q0,hargs,rfl,rfl,h0,r0⟩:=trodAll_cons hA
 obtain⟨v1,W7,d1,Vc,p1,q1,rfl,rfl,rfl,h1,r1⟩:=trodAll_cons r0
 obtain⟨v2,YL,d2,Y0,p2,q2,rfl,rfl,rfl,h2,r2⟩:=trodAll_cons r1
 obtain⟨rfl,rfl,rfl⟩:=trodAll_nil r2
 obtain rfl:args=#[v0,v1,v2]:=by cases args;simp_all
 obtain⟨rfl,rfl⟩:=trodVars_none hV
 have k0:=h0
 have M3:∀x∈p0,x.block<W.heap.size:=by obtain⟨m,hm⟩:=k0;exact DataW.trod_lt m _ _ _ hm
 obtain⟨x0,q0,rfl,I0,M6,F8,Ho⟩:=vc (lf 0 30 v0 rfl rfl) h0 (sC (j:=0) dz rfl rfl)
 obtain⟨a1,rfl,rfl,rfl,w1⟩:=open_int Tryz.underlying3 (lf 1 3 v1 rfl rfl) h1
 obtain⟨a2,rfl,rfl,rfl,w2⟩:=open_int Tryz.underlying3 (lf 2 3 v2 rfl rfl) h2
 rw[MakeChecks.laidMetH_plain _ _ _ (by kernel_rfl)] at hL
 have g:=xY hL ze
 refine(Hk W g x0 q0 I0 M6 F8 Ho a1 w1 a2 w2).mono fun e W' ⟨he,bel⟩=>?_
 subst he
 exact⟨_,rfl,_,_,_,[],_,[],Ln,trodAll_mk1 (shut_bool Tryz.underlying4 _),(trodAll_cons_mk (Below.trod laidOut (by kernel_rfl) (of_decide_eq_true (by kernel_rfl)) k0 bel M3) (trodAll_cons_mk (shut_int Tryz.underlying3 w1) (trodAll_cons_mk (shut_int Tryz.underlying3 w2) trodAll_mk0))),rfl,bel.frame _,fun h=>by cases h⟩
theorem row_holds:Rows.StorySaysSaid:=
 OpenClaim.holds_of_wide 6 Tryz.f6 rfl rfl rfl rfl rfl rfl rfl ⟨rfl,rfl,rfl,rfl,rfl⟩ rfl rfl rfl rfl rfl (by kernel_rfl) Tryz.func6 (by kernel_rfl)
  (of_decide_eq_true (by kernel_rfl)) (by unfold Func.isWrapper;first| (rw[if_pos (by decide+kernel)];kernel_rfl)| (rw[if_neg (by decide+kernel)];exact⟨rfl,rfl⟩))
  (fun os started H enc _=>lifted os started H enc)
end Go.Proofs.YtoonnbhoiocoeaaGreatDoor.storySays
