/-
  The walk of WorldDoes.
-/
import Derived.Test.YtoonnbhoiocoeaaGreatDoorCards
import Derived.Test.YtoonnbhoiocoeaaGreatDoorTie
import Derived.ChangeMaps5
import Derived.LaidMore
import Derived.Stop.Joined
import Derived.SevenTiedAt
import Derived.Test.YtoonnbhoiocoeaaGreatDoorQ37
set_option maxHeartbeats 40000000
set_option maxRecDepth 100000
set_option linter.unusedVariables false
namespace Go.Proofs.YtoonnbhoiocoeaaGreatDoor
open Go.RowKit
open Go.Lib (byteCells)
theorem DT (x:Wd):oO x x=true:=by
 unfold oO
 simp[kc]
theorem Ko (x:Wd)(y:Hp):(zk x y).c.length<=4/\(zk x y).rd.length<=3:=by
 by_cases h:DN x y=0
 .obtain⟨h1,h2,h3⟩:=Ob h
  rw[h3]
  have hr:=sD h1 h2
  exact⟨by rw[bZ (i6 hr)];exact Nat.le_refl _,by rw[(fi hr).2.2.2.2.1];exact Nat.le_refl _⟩
 have e:zk x y=zD:=by
  unfold DN at h
  unfold zk
  by_cases h1:dw x=0
  .rw[if_neg (by simp[h1])] at h⊢
   exact if_pos h
  exact if_pos h1
 rw[e]
 exact⟨by decide,by decide⟩
theorem xF {Y:Wd}{p q:Pw}{V:World}(few:Y.c.length<=4/\Y.rd.length<=3)(I:dE V p Y)(J:dE V q Y):
  Calls Tryz.prog 13 #[p.val Y.up,q.val Y.up] V fun e w'=>e=.returned (.bool true)/\Below V.heap.size V w':=by
 have c:=vV Y Y p q V I J (Nat.le_trans few.1 (by decide)) (Nat.le_trans few.2 (by decide)) (Nat.le_trans few.2 (by decide))
 rw[DT] at c
 exact c
theorem GG (W:World)(hg:Gl W)(x:Wd)(p:Pw)(I:dE W p x)(few:p.n1+p.n2<=9223372036854775807)(kg:p.sn<=140737488355328)(Ry:p.rn<=140737488355328)(y:Hp)(ea:Option Addr)(eC:Nat)(s3:be ec W ea eC y.e)(z:Wd)(q:Pw)(J:dE W q z)(Yd:q.n1+q.n2<=9223372036854775807)(UJ:q.sn<=140737488355328)(MM:q.rn<=140737488355328):
  Calls Tryz.prog 3 #[p.val x.up,.agg #[.int .i64 y.k,.int .i64 y.s,.int .i64 y.n,.slice ea y.e.length eC],q.val z.up] W fun e w'=>e=.returned (.bool true)/\Below W.heap.size W w':=by
 obtain⟨en,MR⟩:∃en,en=y.e.length:=⟨_,rfl⟩
 rw[<-MR]
 have cD:=fun V g i s=>Qn x y p ea en eC V g i few kg s (aa MR)
 have cH:=fun V g i s h=>Ay x y p ea en eC V g i h s (aa MR)
 have cR:=fun V g i=>Dp x p V g i
 have cC:=fun V g i=>Fu x p V g i few kg
 have ls:x.c.length<=140737488355328:=by rw[<-I.es];exact kg
 have lx:x.rd.length<=4611686018427387904:=by rw[<-I.er];exact Nat.le_trans Ry (by decide)
 have lz:z.rd.length<=4611686018427387904:=by rw[<-J.er];exact Nat.le_trans MM (by decide)
 have cS:=fun V i j=>IL x z p q V i j ls lx lz
 have cT:=fun V i j=>vV x z p q V i j ls lx lz
 have fd:=Ko x y
 have bK:dw x≠0->DN x y=dw x/\zk x y=zD:=fun h=>⟨if_pos h,if_pos h⟩
 have bm:dw x=0->bR x y=DN x y/\dz x y=zk x y:=fun h=>⟨(if_neg (by simp[h])).symm,(if_neg (by simp[h])).symm⟩
 obtain⟨E,hE⟩:∃E,E=dw x:=⟨_,rfl⟩
 obtain⟨Q,hQ⟩:∃Q,Q=oO x z:=⟨_,rfl⟩
 obtain⟨f,hf⟩:∃f,f=DN x y:=⟨_,rfl⟩
 obtain⟨Y,hY⟩:∃Y,Y=zk x y:=⟨_,rfl⟩
 rw[<-hY] at bK bm fd cD
 rw[<-hf] at bK bm cD
 rw[<-hE] at cR cC bK bm
 rw[<-hQ] at cS cT
 unfold F4 at cD cH
 have zc:E=0->∀V,Gl V->dE V p x->be ec V ea eC y.e->Calls Tryz.prog 16 #[p.val x.up,.agg #[.int .i64 y.k,.int .i64 y.s,.int .i64 y.n,.slice ea en eC]] V (fun e w'=>∃r:Pw,e=.returned (.tuple #[r.val Y.up,.int .i64 f])/\dE w' r Y/\Below V.heap.size V w'):=fun h V g i s=>by
  have c:=cH V g i s (hE.symm.trans h)
  rw[(bm h).1,(bm h).2] at c
  exact c
 clear cH bm few kg Ry Yd UJ MM ls lx lz
 obtain⟨U,hU⟩:∃U,U=x.up:=⟨_,rfl⟩
 obtain⟨T,hT⟩:∃T,T=z.up:=⟨_,rfl⟩
 obtain⟨Yu,PP⟩:∃u,u=Y.up:=⟨_,rfl⟩
 have c8:=fun V (r s:Pw) (i:dE V r Y) (j:dE V s Y)=>xF fd i j
 rw[<-hU] at cD zc cR cC cS cT⊢
 rw[<-hT] at cS cT⊢
 rw[<-PP] at cD zc c8
 replace hE:=aa hE
 replace hQ:=aa hQ
 replace hf:=aa hf
 replace hY:=aa hY
 replace hU:=aa hU
 replace hT:=aa hT
 replace PP:=aa PP
 replace MR:=aa MR
 have IX:=fun V (b:Below W.heap.size W V)=>I.keep b (Nat.le_refl _)
 have IZ:=fun V (b:Below W.heap.size W V)=>J.keep b (Nat.le_refl _)
 have IE:=fun V (b:Below W.heap.size W V)=>s3.keep b (Nat.le_refl _)
 clear I J s3 fd
 obtain⟨sa,sn,sG,s1,p9,rB,s2,rI,rA,sr,rJ,src⟩:=p
 obtain⟨ta,tn,tG,t1,sI,tm,t2,tt,tD,tr,sW,tw⟩:=q
 obtain⟨K,Sr,N,L⟩:=y
 simp only[Pw.val] at*
 have BX:=((ag.laid W [.slice sa sn sG,.slice s1 p9 rB,.slice s2 rI rA,.bool U,.slice sr rJ src] 30 _ rfl).alc (.cells #[.int .i64 K,.int .i64 Sr,.int .i64 N,.slice ea en eC] 33)).alc (.cells #[.slice ta tn tG,.slice t1 sI tm,.slice t2 tt tD,.bool T,.slice tr sW tw] 30)
 have BH:=(ag.laid (W.alloc (.cells #[.slice sa sn sG,.slice s1 p9 rB,.slice s2 rI rA,.bool U,.slice sr rJ src] 30)) [.int .i64 K,.int .i64 Sr,.int .i64 N,.slice ea en eC] 33 (W.heap.size+1) (by simp)).alc (.cells #[.slice ta tn tG,.slice t1 sI tm,.slice t2 tt tD,.bool T,.slice tr sW tw] 30)
 have BZ:=ag.laid ((W.alloc (.cells #[.slice sa sn sG,.slice s1 p9 rB,.slice s2 rI rA,.bool U,.slice sr rJ src] 30)).alloc (.cells #[.int .i64 K,.int .i64 Sr,.int .i64 N,.slice ea en eC] 33)) [.slice ta tn tG,.slice t1 sI tm,.slice t2 tt tD,.bool T,.slice tr sW tw] 30 (W.heap.size+1+1) (by simp)
 have bel:=k6 W (.cells #[.slice sa sn sG,.slice s1 p9 rB,.slice s2 rI rA,.bool U,.slice sr rJ src] 30) (.cells #[.int .i64 K,.int .i64 Sr,.int .i64 N,.slice ea en eC] 33) (.cells #[.slice ta tn tG,.slice t1 sI tm,.slice t2 tt tD,.bool T,.slice tr sW tw] 30)
 obtain⟨gZ,TP⟩:∃gZ,gZ=W.heap.size+1+1:=⟨_,rfl⟩
 rw[<-TP] at BZ
 obtain⟨gH,Ut⟩:∃gH,gH=W.heap.size+1:=⟨_,rfl⟩
 rw[<-Ut] at BH
 go_enter Tryz.func3,Tryz.ntmps3
 go_upto_region 1 with fail
 rw[<-TP,<-Ut]
 generalize World.alloc (World.alloc (World.alloc W _) _) _=w1 at*
 clear TP Ut
 obtain⟨x0,x1,x2,x3,x4,xl⟩:=BX.five
 obtain⟨h0,h1,h2,h3,hl⟩:=BH.four
 obtain⟨z0,z1,z2,z3,z4,zl⟩:=BZ.five
 go_wp2_with fail
 go_at_call 8
 refine(cD _ (hg.call bel) (IX _ bel) (IE _ bel)).mono ?_
 rintro e w2 ⟨⟨ya,yn,yG,y1,MG,Mt,y2,MW,MI,yr,Ow,MU⟩,rfl,IY,b0⟩
 simp only
 have b:=newB b0 (.cells #[.slice ya yn yG,.slice y1 MG Mt,.slice y2 MW MI,.bool Yu,.slice yr Ow MU] 30)
 have BY:=ag.laid w2 [.slice ya yn yG,.slice y1 MG Mt,.slice y2 MW MI,.bool Yu,.slice yr Ow MU] 30 _ rfl
 replace IY:=IY.alloc (.cells #[.slice ya yn yG,.slice y1 MG Mt,.slice y2 MW MI,.bool Yu,.slice yr Ow MU] 30)
 clear b0 cD
 clear x0 x1 x2 x3 x4 xl
 clear h0 h1 h2 h3 hl
 clear z0 z1 z2 z3 z4 zl
 replace BX:=BX.keep b BX.lt
 replace BH:=BH.keep b BH.lt
 replace BZ:=BZ.keep b BZ.lt
 replace bel:=ac bel b
 clear b
 obtain⟨x0,x1,x2,x3,x4,xl⟩:=BX.five
 obtain⟨h0,h1,h2,h3,hl⟩:=BH.four
 obtain⟨z0,z1,z2,z3,z4,zl⟩:=BZ.five
 go_upto_region 2 with fail
 generalize w2.heap.size=gY at*
 generalize World.alloc w2 _=w3 at*
 go_wp2_with fail
 go_at_call 9
 refine(cR _ (hg.call bel) (IX _ bel)).mono ?_
 rintro e w4 ⟨rfl,b⟩
 clear cR
 clear x0 x1 x2 x3 x4 xl
 clear h0 h1 h2 h3 hl
 clear z0 z1 z2 z3 z4 zl
 replace BX:=BX.keep b BX.lt
 replace BH:=BH.keep b BH.lt
 replace BZ:=BZ.keep b BZ.lt
 replace BY:=BY.keep b BY.lt
 replace IY:=IY.call b
 replace bel:=ac bel b
 clear b
 obtain⟨x0,x1,x2,x3,x4,xl⟩:=BX.five
 obtain⟨h0,h1,h2,h3,hl⟩:=BH.four
 obtain⟨z0,z1,z2,z3,z4,zl⟩:=BZ.five
 have hold:∀V,Below w4.heap.size w4 V->V.cell? ⟨W.heap.size,0,none⟩=some (.slice sa sn sG)/\V.cell? ⟨W.heap.size,1,none⟩=some (.slice s1 p9 rB)/\V.cell? ⟨W.heap.size,2,none⟩=some (.slice s2 rI rA)/\V.cell? ⟨W.heap.size,3,none⟩=some (.bool U)/\V.cell? ⟨W.heap.size,4,none⟩=some (.slice sr rJ src)/\V.cell? ⟨gZ,0,none⟩=some (.slice ta tn tG)/\V.cell? ⟨gZ,1,none⟩=some (.slice t1 sI tm)/\V.cell? ⟨gZ,2,none⟩=some (.slice t2 tt tD)/\V.cell? ⟨gZ,3,none⟩=some (.bool T)/\V.cell? ⟨gZ,4,none⟩=some (.slice tr sW tw):=fun V hV=>by
  obtain⟨x0,x1,x2,x3,x4,xl⟩:=(BX.keep hV BX.lt).five
  obtain⟨z0,z1,z2,z3,z4,zl⟩:=(BZ.keep hV BZ.lt).five
  exact⟨x0,x1,x2,x3,x4,z0,z1,z2,z3,z4⟩
 have kW:∀V,Below w4.heap.size w4 V->Calls Tryz.prog 10 #[] V fun e w'=>e=.returned (.bool true)/\w'.cell? ⟨W.heap.size,0,none⟩=some (.slice sa sn sG)/\w'.cell? ⟨W.heap.size,1,none⟩=some (.slice s1 p9 rB)/\w'.cell? ⟨W.heap.size,2,none⟩=some (.slice s2 rI rA)/\w'.cell? ⟨W.heap.size,3,none⟩=some (.bool U)/\w'.cell? ⟨W.heap.size,4,none⟩=some (.slice sr rJ src)/\w'.cell? ⟨gZ,0,none⟩=some (.slice ta tn tG)/\w'.cell? ⟨gZ,1,none⟩=some (.slice t1 sI tm)/\w'.cell? ⟨gZ,2,none⟩=some (.slice t2 tt tD)/\w'.cell? ⟨gZ,3,none⟩=some (.bool T)/\w'.cell? ⟨gZ,4,none⟩=some (.slice tr sW tw)/\Below w4.heap.size w4 w':=by
  intro V hV
  refine(Cf _ (hg.call (ac bel hV))).mono ?_
  rintro e w' ⟨rfl,b⟩
  obtain⟨vn,vy,uP,vp,uM,vh,vv,vb,vz,uR⟩:=hold _ (ac hV b)
  exact⟨rfl,vn,vy,uP,vp,uM,vh,vv,vb,vz,uR,ac hV b⟩
 have kC:∀V,Below w4.heap.size w4 V->Calls Tryz.prog 11 #[.agg #[.slice sa sn sG,.slice s1 p9 rB,.slice s2 rI rA,.bool U,.slice sr rJ src]] V fun e w'=>e=.returned (.int .i64 E)/\w'.cell? ⟨W.heap.size,0,none⟩=some (.slice sa sn sG)/\w'.cell? ⟨W.heap.size,1,none⟩=some (.slice s1 p9 rB)/\w'.cell? ⟨W.heap.size,2,none⟩=some (.slice s2 rI rA)/\w'.cell? ⟨W.heap.size,3,none⟩=some (.bool U)/\w'.cell? ⟨W.heap.size,4,none⟩=some (.slice sr rJ src)/\w'.cell? ⟨gZ,0,none⟩=some (.slice ta tn tG)/\w'.cell? ⟨gZ,1,none⟩=some (.slice t1 sI tm)/\w'.cell? ⟨gZ,2,none⟩=some (.slice t2 tt tD)/\w'.cell? ⟨gZ,3,none⟩=some (.bool T)/\w'.cell? ⟨gZ,4,none⟩=some (.slice tr sW tw)/\Below w4.heap.size w4 w':=by
  intro V hV
  refine(cC _ (hg.call (ac bel hV)) (IX _ (ac bel hV))).mono ?_
  rintro e w' ⟨rfl,b⟩
  obtain⟨vn,vy,uP,vp,uM,vh,vv,vb,vz,uR⟩:=hold _ (ac hV b)
  exact⟨rfl,vn,vy,uP,vp,uM,vh,vv,vb,vz,uR,ac hV b⟩
 have kS:∀V,Below w4.heap.size w4 V->Calls Tryz.prog 12 #[.agg #[.slice sa sn sG,.slice s1 p9 rB,.slice s2 rI rA,.bool U,.slice sr rJ src],.agg #[.slice ta tn tG,.slice t1 sI tm,.slice t2 tt tD,.bool T,.slice tr sW tw]] V fun e w'=>e=.returned (.bool Q)/\w'.cell? ⟨W.heap.size,0,none⟩=some (.slice sa sn sG)/\w'.cell? ⟨W.heap.size,1,none⟩=some (.slice s1 p9 rB)/\w'.cell? ⟨W.heap.size,2,none⟩=some (.slice s2 rI rA)/\w'.cell? ⟨W.heap.size,3,none⟩=some (.bool U)/\w'.cell? ⟨W.heap.size,4,none⟩=some (.slice sr rJ src)/\w'.cell? ⟨gZ,0,none⟩=some (.slice ta tn tG)/\w'.cell? ⟨gZ,1,none⟩=some (.slice t1 sI tm)/\w'.cell? ⟨gZ,2,none⟩=some (.slice t2 tt tD)/\w'.cell? ⟨gZ,3,none⟩=some (.bool T)/\w'.cell? ⟨gZ,4,none⟩=some (.slice tr sW tw)/\Below w4.heap.size w4 w':=by
  intro V hV
  refine(cS _ (IX _ (ac bel hV)) (IZ _ (ac bel hV))).mono ?_
  rintro e w' ⟨rfl,b⟩
  obtain⟨vn,vy,uP,vp,uM,vh,vv,vb,vz,uR⟩:=hold _ (ac hV b)
  exact⟨rfl,vn,vy,uP,vp,uM,vh,vv,vb,vz,uR,ac hV b⟩
 have kT:∀V,Below w4.heap.size w4 V->Calls Tryz.prog 13 #[.agg #[.slice sa sn sG,.slice s1 p9 rB,.slice s2 rI rA,.bool U,.slice sr rJ src],.agg #[.slice ta tn tG,.slice t1 sI tm,.slice t2 tt tD,.bool T,.slice tr sW tw]] V fun e w'=>e=.returned (.bool Q)/\w'.cell? ⟨W.heap.size,0,none⟩=some (.slice sa sn sG)/\w'.cell? ⟨W.heap.size,1,none⟩=some (.slice s1 p9 rB)/\w'.cell? ⟨W.heap.size,2,none⟩=some (.slice s2 rI rA)/\w'.cell? ⟨W.heap.size,3,none⟩=some (.bool U)/\w'.cell? ⟨W.heap.size,4,none⟩=some (.slice sr rJ src)/\w'.cell? ⟨gZ,0,none⟩=some (.slice ta tn tG)/\w'.cell? ⟨gZ,1,none⟩=some (.slice t1 sI tm)/\w'.cell? ⟨gZ,2,none⟩=some (.slice t2 tt tD)/\w'.cell? ⟨gZ,3,none⟩=some (.bool T)/\w'.cell? ⟨gZ,4,none⟩=some (.slice tr sW tw)/\Below w4.heap.size w4 w':=by
  intro V hV
  refine(cT _ (IX _ (ac bel hV)) (IZ _ (ac bel hV))).mono ?_
  rintro e w' ⟨rfl,b⟩
  obtain⟨vn,vy,uP,vp,uM,vh,vv,vb,vz,uR⟩:=hold _ (ac hV b)
  exact⟨rfl,vn,vy,uP,vp,uM,vh,vv,vb,vz,uR,ac hV b⟩
 have kN:∀V,Below w4.heap.size w4 V->Calls Tryz.prog 14 #[] V fun e w'=>∃(na n1 n2 nr:Option Addr) (nn nG Ls Ke LM Ka Kj LJ:Nat),e=.returned (.agg #[.slice na nn nG,.slice n1 Ls Ke,.slice n2 LM Ka,.bool true,.slice nr Kj LJ])/\w'.cell? ⟨W.heap.size,0,none⟩=some (.slice sa sn sG)/\w'.cell? ⟨W.heap.size,1,none⟩=some (.slice s1 p9 rB)/\w'.cell? ⟨W.heap.size,2,none⟩=some (.slice s2 rI rA)/\w'.cell? ⟨W.heap.size,3,none⟩=some (.bool U)/\w'.cell? ⟨W.heap.size,4,none⟩=some (.slice sr rJ src)/\w'.cell? ⟨gZ,0,none⟩=some (.slice ta tn tG)/\w'.cell? ⟨gZ,1,none⟩=some (.slice t1 sI tm)/\w'.cell? ⟨gZ,2,none⟩=some (.slice t2 tt tD)/\w'.cell? ⟨gZ,3,none⟩=some (.bool T)/\w'.cell? ⟨gZ,4,none⟩=some (.slice tr sW tw)/\dE w' ⟨na,nn,nG,n1,Ls,Ke,n2,LM,Ka,nr,Kj,LJ⟩ iy/\Below w4.heap.size w4 w':=by
  intro V hV
  refine(Bz _).mono ?_
  rintro e w' ⟨⟨na,nn,nG,n1,Ls,Ke,n2,LM,Ka,nr,Kj,LJ⟩,rfl,iN,b⟩
  obtain⟨vn,vy,uP,vp,uM,vh,vv,vb,vz,uR⟩:=hold _ (ac hV b)
  exact⟨na,n1,n2,nr,nn,nG,Ls,Ke,LM,Ka,Kj,LJ,rfl,vn,vy,uP,vp,uM,vh,vv,vb,vz,uR,iN,ac hV b⟩
 have kF:∀V,Below w4.heap.size w4 V->Calls Tryz.prog 15 #[] V fun e w'=>∃(ca c1 c2 cr:Option Addr) (cn cG KN KI LI LL KL Lo:Nat),e=.returned (.agg #[.slice ca cn cG,.slice c1 KN KI,.slice c2 LI LL,.bool true,.slice cr KL Lo])/\w'.cell? ⟨W.heap.size,0,none⟩=some (.slice sa sn sG)/\w'.cell? ⟨W.heap.size,1,none⟩=some (.slice s1 p9 rB)/\w'.cell? ⟨W.heap.size,2,none⟩=some (.slice s2 rI rA)/\w'.cell? ⟨W.heap.size,3,none⟩=some (.bool U)/\w'.cell? ⟨W.heap.size,4,none⟩=some (.slice sr rJ src)/\w'.cell? ⟨gZ,0,none⟩=some (.slice ta tn tG)/\w'.cell? ⟨gZ,1,none⟩=some (.slice t1 sI tm)/\w'.cell? ⟨gZ,2,none⟩=some (.slice t2 tt tD)/\w'.cell? ⟨gZ,3,none⟩=some (.bool T)/\w'.cell? ⟨gZ,4,none⟩=some (.slice tr sW tw)/\dE w' ⟨ca,cn,cG,c1,KN,KI,c2,LI,LL,cr,KL,Lo⟩ iy/\Below V.heap.size V w'/\Below w4.heap.size w4 w':=by
  intro V hV
  refine(DS _).mono ?_
  rintro e w' ⟨⟨ca,cn,cG,c1,KN,KI,c2,LI,LL,cr,KL,Lo⟩,rfl,iC,b⟩
  obtain⟨vn,vy,uP,vp,uM,vh,vv,vb,vz,uR⟩:=hold _ (ac hV b)
  exact⟨ca,c1,c2,cr,cn,cG,KN,KI,LI,LL,KL,Lo,rfl,vn,vy,uP,vp,uM,vh,vv,vb,vz,uR,iC,b,ac hV b⟩
 have kQ:∀V (r s:Pw),Below w4.heap.size w4 V->dE V r iy->dE V s iy->Calls Tryz.prog 13 #[r.val true,s.val true] V fun e w'=>e=.returned (.bool true)/\w'.cell? ⟨W.heap.size,0,none⟩=some (.slice sa sn sG)/\w'.cell? ⟨W.heap.size,1,none⟩=some (.slice s1 p9 rB)/\w'.cell? ⟨W.heap.size,2,none⟩=some (.slice s2 rI rA)/\w'.cell? ⟨W.heap.size,3,none⟩=some (.bool U)/\w'.cell? ⟨W.heap.size,4,none⟩=some (.slice sr rJ src)/\w'.cell? ⟨gZ,0,none⟩=some (.slice ta tn tG)/\w'.cell? ⟨gZ,1,none⟩=some (.slice t1 sI tm)/\w'.cell? ⟨gZ,2,none⟩=some (.slice t2 tt tD)/\w'.cell? ⟨gZ,3,none⟩=some (.bool T)/\w'.cell? ⟨gZ,4,none⟩=some (.slice tr sW tw)/\Below w4.heap.size w4 w':=by
  intro V r s hV i j
  refine(xF (Y:=iy) (by decide) i j).mono ?_
  rintro e w' ⟨rfl,b⟩
  obtain⟨vn,vy,uP,vp,uM,vh,vv,vb,vz,uR⟩:=hold _ (ac hV b)
  exact⟨rfl,vn,vy,uP,vp,uM,vh,vv,vb,vz,uR,ac hV b⟩
 have k0:Below w4.heap.size w4 w4.drew:=ak (Below.refl _ _)
 have Kt:Below w4.heap.size w4 w4:=Below.refl _ _
 have f7:(E != E)=false:=by simp
 clear cC cS cT
 replace BX:=aa BX
 replace BH:=aa BH
 replace BZ:=aa BZ
 replace BY:=aa BY
 replace IY:=aa IY
 replace bel:=aa bel
 clear hold h0 h1 h2 h3 hl
 go_wp2_with fail
 cases Q
 all_goals(
  go_region_held3 (fun w'=>w'.cell? ⟨W.heap.size,0,none⟩=some (.slice sa sn sG)/\w'.cell? ⟨W.heap.size,1,none⟩=some (.slice s1 p9 rB)/\w'.cell? ⟨W.heap.size,2,none⟩=some (.slice s2 rI rA)/\w'.cell? ⟨W.heap.size,3,none⟩=some (.bool U)/\w'.cell? ⟨W.heap.size,4,none⟩=some (.slice sr rJ src)/\w'.cell? ⟨gZ,0,none⟩=some (.slice ta tn tG)/\w'.cell? ⟨gZ,1,none⟩=some (.slice t1 sI tm)/\w'.cell? ⟨gZ,2,none⟩=some (.slice t2 tt tD)/\w'.cell? ⟨gZ,3,none⟩=some (.bool T)/\w'.cell? ⟨gZ,4,none⟩=some (.slice tr sW tw)) (go_keep)
   (first
    | (go_at_call 13;refine(kQ _ ⟨na,nn,nG,n1,Ls,Ke,n2,LM,Ka,nr,Kj,LJ⟩ ⟨ca,cn,cG,c1,KN,KI,c2,LI,LL,cr,KL,Lo⟩ zF (iN.call bF) iF).mono ?_;rintro e wQ ⟨rfl,kq0,kq1,kq2,kq3,kq4,kq5,kq6,kq7,kq8,kq9,zQ⟩)
    | (go_at_call 13;refine(kT _ zS).mono ?_;rintro e wT ⟨rfl,ku0,ku1,ku2,ku3,ku4,ku5,ku6,ku7,ku8,ku9,zT⟩)
    | (go_at_call 15;refine(kF _ zN).mono ?_;rintro e wF ⟨ca,c1,c2,cr,cn,cG,KN,KI,LI,LL,KL,Lo,rfl,kv0,kv1,kv2,kv3,kv4,kv5,kv6,kv7,kv8,kv9,iF,bF,zF⟩)
    | (go_at_call 14;refine(kN _ zT).mono ?_;rintro e wN ⟨na,n1,n2,nr,nn,nG,Ls,Ke,LM,Ka,Kj,LJ,rfl,aaW,aaq,aaY,aae,aaI,aba,aa1,aau,aax,aaM,iN,zN⟩)
    | (go_at_call 12;refine(kS _ zC).mono ?_;rintro e wS ⟨rfl,aaA,aaQ,aa6,aas,aa3,aap,aaS,aac,aaH,aay,zS⟩)
    | (go_at_call 11;refine(kC _ zW).mono ?_;rintro e wC ⟨rfl,aa8,aar,aat,aab,aaK,aaB,aam,aaT,aa0,aaD,zC⟩)
    | (go_at_call 10;refine(kW _ (by first|exact k0|exact Kt)).mono ?_;rintro e wW ⟨rfl,aan,aa5,aah,aaO,aad,aaj,aa',aaa,aa9,aaN,zW⟩))
  all_goals(
   clear k0 Kt kW kC kS kT kN kF kQ
   replace bel:=aa (ac bel.out zQ)
   have QG:=aa (IY.out.keep zQ (Nat.le_refl _))
   have lV:=BY.out.keep zQ BY.out.lt
   have ib:=BX.out.keep zQ BX.out.lt
   have js:=BH.out.keep zQ BH.out.lt
   clear x0 x1 x2 x3 x4 xl z0 z1 z2 z3 z4 zl
   clear IY BX BZ BH BY
   obtain⟨v0,v1,v2,v3,v4,vl⟩:=lV.five
   by_cases hz:E=0
   .have cH:=zc hz
    subst hz
    clear zc bK
    obtain⟨x0,x1,x2,x3,x4,xl⟩:=ib.five
    obtain⟨h0,h1,h2,h3,hl⟩:=js.four
    replace ib:=aa ib
    replace js:=aa js
    replace lV:=aa lV
    go_wp2_with fail
    go_at_call 16
    refine(cH _ (hg.call bel.out) (IX _ bel.out) (IE _ bel.out)).mono ?_
    rintro e wH ⟨⟨fa,fn,fG,f1,QR,Pz,f2,PV,PA,fr,Pu,Qf⟩,rfl,IF,b0⟩
    simp only
    have b:=newB b0 (.cells #[.slice fa fn fG,.slice f1 QR Pz,.slice f2 PV PA,.bool Yu,.slice fr Pu Qf] 30)
    have BF:=ag.laid wH [.slice fa fn fG,.slice f1 QR Pz,.slice f2 PV PA,.bool Yu,.slice fr Pu Qf] 30 _ rfl
    replace IF:=IF.alloc (.cells #[.slice fa fn fG,.slice f1 QR Pz,.slice f2 PV PA,.bool Yu,.slice fr Pu Qf] 30)
    have UC:=lV.out.keep b lV.out.lt
    have IY3:=QG.out.call b
    have aC:=aa (ac bel.out b)
    clear b0 cH x0 x1 x2 x3 x4 xl h0 h1 h2 h3 hl v0 v1 v2 v3 v4 vl QG ib js lV b
    go_upto_region 8 with fail
    generalize wH.heap.size=gF at*
    generalize World.alloc wH _=wI at*
    obtain⟨v0,v1,v2,v3,v4,vl⟩:=UC.five
    obtain⟨w0',w1',w2',w3',w4',wl'⟩:=BF.five
    replace UC:=aa UC
    replace BF:=aa BF
    go_wp2_with fail
    go_at_call 13
    refine(c8 _ ⟨ya,yn,yG,y1,MG,Mt,y2,MW,MI,yr,Ow,MU⟩ ⟨fa,fn,fG,f1,QR,Pz,f2,PV,PA,fr,Pu,Qf⟩ IY3 IF).mono ?_
    rintro e wJ ⟨rfl,b⟩
    go_wp2_with fail
    go_ret
    exact⟨rfl,ac aC.out b⟩
   obtain⟨e1,e2⟩:=bK hz
   subst e1
   have hYf:Yu=false:=by rw[PP.out,e2];rfl
   have hd:(f != 0)=true:=by simpa using hz
   subst hYf
   have c9:=c8 _ ⟨ya,yn,yG,y1,MG,Mt,y2,MW,MI,yr,Ow,MU⟩ ti QG.out (by rw[e2];exact dE.nil _)
   clear QG zc c8 bK ib js
   replace lV:=aa lV
   replace e2:=aa e2
   go_wp2_with fail
   go_at_call 13
   refine c9.mono ?_
   rintro e wJ ⟨rfl,b⟩
   go_wp2_with fail
   go_ret
   exact⟨rfl,ac bel.out b⟩))
end Go.Proofs.YtoonnbhoiocoeaaGreatDoor
namespace Go.Proofs.YtoonnbhoiocoeaaGreatDoor.worldDoes
open Go.ChangeShapes Go.WideShapes Go.ChangeAt Go.RowKit Go.ChangeMaps
def DX:List (String × DataW Unit):=Rows.worldDoesRow.laid
theorem lifted (os:Os)(started:os.Started)(H:Type)(enc:TypeId × Value->H):
  ReturnsInHanded {} Tryz.checked os 3 .any (fun w args=>(Rows.worldDoesSpec.pre enc Tryz.prog Tryz.f3 [] false w args/\laidMetH Tryz.prog DX w)/\sizedMet enc Tryz.prog Tryz.f3 (OpenSpec.ofChange Rows.worldDoesSpec) false w args)
   (Rows.worldDoesSpec.post enc Tryz.prog Tryz.f3 false true false false):=by
 refine zX (C:=Tryz.checked) (X:=fun w _=>laidMetH Tryz.prog DX w) (fun _ _ _ hh h=>h.of_heap hh) own started (by kernel_rfl) Tryz.func3
  (ChangeSpec.witness_shaped (enc:=enc) (C:=Tryz.checked) (os:=os) (X:=fun w _=>laidMetH Tryz.prog DX w) false (World.laidAll Tryz.prog os DX) #[.agg #[.slice none 0 0,.slice none 0 0,.slice none 0 0,.bool false,.slice none 0 0],.agg #[.int .i64 0,.int .i64 0,.int .i64 0,.slice none 0 0],.agg #[.slice none 0 0,.slice none 0 0,.slice none 0 0,.bool false,.slice none 0 0]] 8 (World.laidAll_os _ _ _)
   (World.shaped_of_ZipB (by kernel_rfl) (by kernel_rfl)) (by kernel_rfl) (by kernel_rfl) (by kernel_rfl)
   (by rw[MakeChecks.laidMetH_plain _ _ _ (by kernel_rfl)];exact laidMet_laidAll _ (by kernel_rfl) (by kernel_rfl))) ?_
 intro W base args ds gs before SG hW Xz hL Cw
 have dW:(DataW.weightsEach Tryz.prog (Tryz.f3.params.toList++Rows.worldDoesSpec.plain.varTypes Tryz.prog) (ds++gs)).all (·<=reachBytes)=true:=Xz
 have BI:∀(j:Nat) t v,Tryz.f3.params[j]? =some t->args[j]? =some v->Value.okWide Tryz.prog W .any base t v:=SG
 have ZD:=hW
 obtain⟨p,q,lu,hV,rfl,hfz,hnd⟩:=hW
 have hA:DataW.TrodAll enc Tryz.prog W 0 (fun _=>true) true Tryz.f3.params.toList args.toList ds p:=lu
 rw[Tryz.params3] at hA BI dW
 obtain⟨v0,vs0,d0,ds0,p0,q0,hargs,rfl,rfl,h0,r0⟩:=trodAll_cons hA
 obtain⟨v1,vs1,d1,ds1,p1,q1,rfl,rfl,rfl,h1,r1⟩:=trodAll_cons r0
 obtain⟨v2,vs2,d2,ds2,p2,q2,rfl,rfl,rfl,h2,r2⟩:=trodAll_cons r1
 obtain⟨rfl,rfl,rfl⟩:=trodAll_nil r2
 obtain rfl:args=#[v0,v1,v2]:=by cases args;simp_all
 obtain⟨rfl,rfl⟩:=trodVars_none hV
 have k0:=h0
 have ZZ:∀x∈p0,x.block<W.heap.size:=by obtain⟨m,hm⟩:=k0;exact DataW.trod_lt m _ _ _ hm
 obtain⟨x0,q0,rfl,I0,Xg,Ug,St⟩:=vZ (BI 0 30 v0 rfl rfl) h0 (sU (j:=0) dW rfl rfl)
 have k1:=h1
 have Hc:∀x∈p1,x.block<W.heap.size:=by obtain⟨m,hm⟩:=k1;exact DataW.trod_lt m _ _ _ hm
 obtain⟨y1,a1,WM,rfl,s1⟩:=KO (BI 1 33 v1 rfl rfl) h1 (sU (j:=1) dW rfl rfl)
 have k2:=h2
 have T':∀x∈p2,x.block<W.heap.size:=by obtain⟨m,hm⟩:=k2;exact DataW.trod_lt m _ _ _ hm
 obtain⟨x2,q2,rfl,I2,Vr,Sy,Tc⟩:=vZ (BI 2 30 v2 rfl rfl) h2 (sU (j:=2) dW rfl rfl)
 rw[MakeChecks.laidMetH_plain _ _ _ (by kernel_rfl)] at hL
 have g:=NE hL Cw
 refine(GG W g x0 q0 I0 Xg Ug St y1 a1 WM s1 x2 q2 I2 Vr Sy Tc).mono fun e W' ⟨he,bel⟩=>?_
 subst he
 exact⟨_,rfl,_,_,_,[],_,[],ZD,trodAll_mk1 (shut_bool Tryz.underlying4 _),(trodAll_cons_mk (Below.trod laidOut (by kernel_rfl) (of_decide_eq_true (by kernel_rfl)) k0 bel ZZ) (trodAll_cons_mk (Below.trod laidOut (by kernel_rfl) (of_decide_eq_true (by kernel_rfl)) k1 bel Hc) (trodAll_cons_mk (Below.trod laidOut (by kernel_rfl) (of_decide_eq_true (by kernel_rfl)) k2 bel T') trodAll_mk0))),rfl,bel.frame _,fun h=>by cases h⟩
theorem row_holds:Rows.WorldDoesSaid:=
 OpenClaim.holds_of_wide 3 Tryz.f3 rfl rfl rfl rfl rfl rfl rfl ⟨rfl,rfl,rfl,rfl,rfl⟩ rfl rfl rfl rfl rfl (by kernel_rfl) Tryz.func3 (by kernel_rfl)
  (of_decide_eq_true (by kernel_rfl)) (by unfold Func.isWrapper;first| (rw[if_pos (by decide+kernel)];kernel_rfl)| (rw[if_neg (by decide+kernel)];exact⟨rfl,rfl⟩))
  (fun os started H enc _=>lifted os started H enc)
end Go.Proofs.YtoonnbhoiocoeaaGreatDoor.worldDoes
