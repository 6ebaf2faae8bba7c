/-
  The reference's Happened, of a right world; where heads and readers of what it answers lie.
-/
import Derived.Deep.CutBlock
import Derived.Lib.MinMax
import Derived.Test.YtoonnbhoiocoeaaGreatDoorS39
import Derived.Test.YtoonnbhoiocoeaaGreatDoorQ27
set_option maxHeartbeats 40000000
set_option maxRecDepth 100000
set_option linter.unusedVariables false
namespace Go.Proofs.YtoonnbhoiocoeaaGreatDoor
open Go.RowKit
open Go.Lib (byteCells)
theorem ru {w:World}{h G n:Nat}{ys rd:List Int}{T:TypeId}(B:ag w h (ys.map (Value.int .i64)) T)(hy:ys.take n=rd)(MX:n<=G)(hG:G<=9223372036854775807):Sl w (some ⟨h,0,none⟩) G (rd.map (Value.int .i64)):=by
 refine⟨B.row 0 _ (fun j u hu=>?_),?_,hG,fun e=>by cases e⟩
 .rw[Nat.zero_add]
  rw[<-hy,List.map_take,List.getElem?_take] at hu
  split at hu
  .exact hu
  cases hu
 rw[List.length_map,<-hy,List.length_take]
 omega
theorem ag.five {w:World}{g:Nat}{c0 c1 c2 c3 c4:Value}{t:TypeId}(B:ag w g [c0,c1,c2,c3,c4] t):w.cell? ⟨g,0,none⟩=some c0/\w.cell? ⟨g,1,none⟩=some c1/\w.cell? ⟨g,2,none⟩=some c2/\w.cell? ⟨g,3,none⟩=some c3/\w.cell? ⟨g,4,none⟩=some c4/\g<w.heap.size:=
 ⟨B.cell 0,B.cell 1,B.cell 2,B.cell 3,B.cell 4,B.lt⟩
theorem ag.frees {w:World}{g:Nat}{cs:List Value}{t:TypeId}(B:ag w g cs t):w.frozen? ⟨g,0,none⟩=false/\w.frozen? ⟨g,1,none⟩=false/\w.frozen? ⟨g,2,none⟩=false/\w.frozen? ⟨g,3,none⟩=false/\w.frozen? ⟨g,4,none⟩=false:=
 ⟨B.free 0,B.free 1,B.free 2,B.free 3,B.free 4⟩
theorem ag.four {w:World}{g:Nat}{c0 c1 c2 c3:Value}{t:TypeId}(B:ag w g [c0,c1,c2,c3] t):w.cell? ⟨g,0,none⟩=some c0/\w.cell? ⟨g,1,none⟩=some c1/\w.cell? ⟨g,2,none⟩=some c2/\w.cell? ⟨g,3,none⟩=some c3/\g<w.heap.size:=
 ⟨B.cell 0,B.cell 1,B.cell 2,B.cell 3,B.lt⟩
theorem ab.boxW {P:Nat->Prop}{w w':World}{a:Option Addr}{G g:Nat}{C:List Rw}{t:TypeId}{a1 a2 a3 a4:Option Addr}{n1 n2 n3 n4 c1 c2 c3 c4:Nat}{u:Bool}(k:ab P w a G C)(hz:az C=0)(B:ag w g [.slice a1 n1 c1,.slice a2 n2 c2,.slice a3 n3 c3,.bool u,.slice a4 n4 c4] t)(hg:w.grownBy w' (some g)):ab P w' a G C:=
 ⟨(jA.boxW ⟨k.ex⟩ hz B hg).ex⟩
theorem ab.setD {P:Nat->Prop}{w:World}{a:Option Addr}{G g i:Nat}{C:List Rw}{a1 a2:Option Addr}{n1 n2 c1 c2:Nat}{u:Value}(h:ab P w a G C)(h4:C.length=4)(B:ag w g [.slice a1 n1 c1,.slice a2 n2 c2] 27):ab P (w.setCell ⟨g,i,Option.none⟩ u) a G C:=by
 obtain⟨rs,rfl,s,l⟩:=h.ex
 rw[List.length_map] at h4
 have gr:=al (au w (some g)) i u
 have hl:=av Lr.two rs
 refine⟨rs,rfl,⟨⟨s.sl.row.off gr (s.sl.row.offLong B (by rw[hl,h4];simp)),s.sl.le,s.sl.max,s.sl.nil⟩,fun r hr=>(s.good r hr).offSl gr B ?_⟩,l⟩
 intro v hv
 simp only[List.mem_cons,List.not_mem_nil,or_false] at hv
 rcases hv with rfl|rfl<;>exact⟨_,_,_,rfl⟩
def cr (P:Nat->Prop)(W:World)(x:Wd)(E:Int)(e:Ending)(w':World):Prop:=
 ∃p:Pw,e=.returned (.tuple #[p.val x.up,.int .i64 E])/\dE w' p x/\ab P w' p.sa p.sG x.c/\(∀ad,p.ra=some ad->W.heap.size<=ad.block)/\Below W.heap.size W w'
theorem kE (E:Int)(w:World):
  Calls Tryz.prog 48 #[.int .i64 E] w fun e w'=>e=.returned (.tuple #[.agg #[.slice none 0 0,.slice none 0 0,.slice none 0 0,.bool false,.slice none 0 0],.int .i64 E])/\Below w.heap.size w w':=by
 have B:=ag.laid w [.slice none 0 0,.slice none 0 0,.slice none 0 0,.bool false,.slice none 0 0] 30 _ rfl
 have bel:=newB (Below.refl w.heap.size w) (.cells #[.slice none 0 0,.slice none 0 0,.slice none 0 0,.bool false,.slice none 0 0] 30)
 go_enter Tryz.func48,Tryz.ntmps48
 go_upto_region 1 with fail
 generalize World.alloc w _=w1 at*
 obtain⟨x0,x1,x2,x3,x4,xl⟩:=B.five
 obtain⟨f0,f1,f2,f3,f4⟩:=B.frees
 have B9:=fA B (.slice none 0 0) (.slice none 0 0) (.slice none 0 0) (.bool false) (.slice none 0 0)
 have aq:=dP bel (Nat.le_refl _) (.slice none 0 0) (.slice none 0 0) (.slice none 0 0) (.bool false) (.slice none 0 0)
 obtain⟨i0,i1,i2,i3,i4,il⟩:=B9.five
 clear B9 il
 go_wp2_with fail
 exact bodyPost_ret (v:=.tuple #[.agg #[.slice none 0 0,.slice none 0 0,.slice none 0 0,.bool false,.slice none 0 0],.int .i64 E]) (by simp[results,Tryz.results48,go_sem,i0,i1,i2,i3,i4]) rfl ⟨rfl,aq⟩
theorem bg {P:Nat->Prop}(x:Wd)(y:Hp)(p:Pw)(ea:Option Addr)(en eC:Nat)(w:World)(hP:∀q,P q->q<w.heap.size)(hg:Gl w)(I:dE w p x)(kP:ab P w p.sa p.sG x.c)(h:dw x=0)(s3:be ec w ea eC y.e)(h3:Hid (en=y.e.length)):
  Calls Tryz.prog 16 #[p.val x.up,.agg #[.int .i64 y.k,.int .i64 y.s,.int .i64 y.n,.slice ea en eC]] w (cr P w (dz x y) (bR x y)):=by
 obtain⟨r1,r2,r3',YR,r5,r6⟩:=fi h
 have Tp:p.rn=3:=by rw[I.er];exact r5
 have Cw:=i6 h
 have cQ:=fun V g s t=>vT x.d p.a1 p.a2 p.c1 p.c2 p.n1 p.n2 V g s t I.e1 I.e2 r1
 have YV:=za x.d
 obtain⟨HE,dO⟩:∃E,E=bR x y:=⟨_,rfl⟩
 obtain⟨Z,hZ⟩:∃Z,Z=dz x y:=⟨_,rfl⟩
 have rC:HE≠0->Z=zD:=fun e=>by rw[hZ];exact if_pos (by rw[<-dO];exact e)
 have XZ:1<=y.k/\y.k<=9->(x.up != (y.k != 8))=true->HE=7:=fun a b=>by
  rw[dO]
  refine AL a ?_
  by_cases e:y.k=8
  .rw[e] at b⊢;cases hu:x.up<;>rw[hu] at b<;>simp_all
  have e2:(y.k != 8)=true:=by simpa using e
  rw[e2] at b;cases hu:x.up<;>rw[hu] at b<;>simp_all
 have VA:¬(1<=y.k/\y.k<=9)->HE=4:=fun e=>by rw[dO];exact AK (by omega)
 rw[<-dO,<-hZ]
 replace dO:=aa dO
 replace hZ:=aa hZ
 replace h:=aa h
 obtain⟨C,D,U,R⟩:=x
 obtain⟨K,Sr,N,L⟩:=y
 obtain⟨sa,sn,sG,a1,n1,c1,a2,n2,c2,ra,rn,rc⟩:=p
 simp only[Pw.val] at*
 subst Tp
 obtain⟨rb,ro,rfl,EL,Ft⟩:=I.r.row.at (by intro e;rw[List.map_eq_nil_iff] at e;simp only at e r5;rw[e] at r5;cases r5)
 clear EL Ft r2 r3' YR r6
 have Xs:=fun V (hr:Row V (some ⟨rb,ro,none⟩) (R.map (Value.int .i64)))=>Jn ⟨rb,ro,none⟩ rc R 3 V hr r5 (by decide) (by decide)
 have I0:=fun V (b:Below w.heap.size w V)=>I.keep b (Nat.le_refl _)
 have d6:=fun V (b:Below w.heap.size w V)=>kP.keep b (Nat.le_refl _)
 replace kP:=aa kP
 replace r5:=aa r5
 replace I:=aa I
 have BX:=((ag.laid w [.slice sa sn sG,.slice a1 n1 c1,.slice a2 n2 c2,.bool U,.slice (some ⟨rb,ro,none⟩) 3 rc] 30 _ rfl).alc (.cells #[.int .i64 K,.int .i64 Sr,.int .i64 N,.slice ea en eC] 33)).alc (.cells #[.slice none 0 0,.slice none 0 0,.slice none 0 0,.bool false,.slice none 0 0] 30)
 have BY:=(ag.laid (w.alloc (.cells #[.slice sa sn sG,.slice a1 n1 c1,.slice a2 n2 c2,.bool U,.slice (some ⟨rb,ro,none⟩) 3 rc] 30)) [.int .i64 K,.int .i64 Sr,.int .i64 N,.slice ea en eC] 33 (w.heap.size+1) (by simp)).alc (.cells #[.slice none 0 0,.slice none 0 0,.slice none 0 0,.bool false,.slice none 0 0] 30)
 have BR:=ag.laid ((w.alloc (.cells #[.slice sa sn sG,.slice a1 n1 c1,.slice a2 n2 c2,.bool U,.slice (some ⟨rb,ro,none⟩) 3 rc] 30)).alloc (.cells #[.int .i64 K,.int .i64 Sr,.int .i64 N,.slice ea en eC] 33)) [.slice none 0 0,.slice none 0 0,.slice none 0 0,.bool false,.slice none 0 0] 30 (w.heap.size+1+1) (by simp)
 have bel:=k6 w (.cells #[.slice sa sn sG,.slice a1 n1 c1,.slice a2 n2 c2,.bool U,.slice (some ⟨rb,ro,none⟩) 3 rc] 30) (.cells #[.int .i64 K,.int .i64 Sr,.int .i64 N,.slice ea en eC] 33) (.cells #[.slice none 0 0,.slice none 0 0,.slice none 0 0,.bool false,.slice none 0 0] 30)
 obtain⟨gR,jv⟩:∃gR,gR=w.heap.size+1+1:=⟨_,rfl⟩
 rw[<-jv] at BR
 obtain⟨gY,iR⟩:∃gY,gY=w.heap.size+1:=⟨_,rfl⟩
 rw[<-iR] at BY
 have ip:w.heap.size<=gR:=by omega
 have gZ:¬w.heap.size=gY:=by omega
 have Pj:¬w.heap.size=gR:=by omega
 have Yr:¬gY=gR:=by omega
 have kB:¬gY=w.heap.size:=fun e=>gZ e.symm
 have lK:¬gR=w.heap.size:=fun e=>Pj e.symm
 have kJ:¬gR=gY:=fun e=>Yr e.symm
 go_enter Tryz.func16,Tryz.ntmps16
 go_upto_region 2 with fail
 rw[<-jv,<-iR]
 generalize World.alloc (World.alloc (World.alloc w _) _) _=w1 at*
 clear jv iR
 obtain⟨x0,x1,x2,x3,x4,xl⟩:=BX.five
 obtain⟨y0,y1,y2,y3,yl⟩:=BY.four
 obtain⟨u0,u1,u2,u3,u4,rl⟩:=BR.five
 obtain⟨f0,f1,f2,f3,f4⟩:=BR.frees
 go_wp2_with fail
 by_cases hk:1<=K/\K<=9
 .have cI:=fun V=>bG K 1 9 V
  rw[decide_eq_true hk] at cI
  go_at_call 36
  refine(cI _).mono ?_
  rintro e w2 ⟨rfl,rfl⟩
  clear cI
  by_cases uL:(U != (K != 8))=true
  .have W0:(!U==(K != 8))=true:=by revert uL;cases U<;>cases(K != 8)<;>simp
   have oK:HE=7:=XZ hk uL
   have tE:=rC (by rw[oK];decide)
   subst tE
   subst oK
   go_wp2_with fail
   go_at_call 48
   refine(kE _ _).mono ?_
   rintro e wB ⟨rfl,b⟩
   clear x0 x1 x2 x3 x4 xl y0 y1 y2 y3 yl u0 u1 u2 u3 u4 rl f0 f1 f2 f3 f4
   replace BX:=BX.keep b BX.lt
   replace BY:=BY.keep b BY.lt
   replace BR:=BR.keep b BR.lt
   replace bel:=ac bel b
   clear b
   obtain⟨x0,x1,x2,x3,x4,xl⟩:=BX.five
   obtain⟨y0,y1,y2,y3,yl⟩:=BY.four
   obtain⟨u0,u1,u2,u3,u4,rl⟩:=BR.five
   obtain⟨f0,f1,f2,f3,f4⟩:=BR.frees
   have aq:=dP bel ip (.slice none 0 0) (.slice none 0 0) (.slice none 0 0) (.bool false) (.slice none 0 0)
   have B9:=fA BR (.slice none 0 0) (.slice none 0 0) (.slice none 0 0) (.bool false) (.slice none 0 0)
   obtain⟨i0,i1,i2,i3,i4,il⟩:=B9.five
   clear B9 il
   replace BR:=aa BR
   replace bel:=aa bel
   go_wp2_with fail
   exact bodyPost_ret (v:=.tuple #[.agg #[.slice none 0 0,.slice none 0 0,.slice none 0 0,.bool false,.slice none 0 0],.int .i64 _]) (by simp[results,Tryz.results16,go_sem,i0,i1,i2,i3,i4]) rfl ⟨ti,rfl,dE.nil _,ab.none _ _,(fun _ h=>by cases h),aq⟩
  replace uL:(U != (K != 8))=false:=by simpa only[Bool.not_eq_true] using uL
  have W0:(!U==(K != 8))=false:=by revert uL;cases U<;>cases(K != 8)<;>simp
  clear XZ VA
  go_wp2_with fail
  go_at_call 49
  refine(Xs _ (I0 _ bel).r.row).mono ?_
  rintro e w3 ⟨hC,G,ys,rfl,BH,Az,MX,pT,hh,b⟩
  have UE:=Nat.le_trans bel.size hh
  have gJ:¬w.heap.size=hC:=by omega
  have YP:¬gY=hC:=by omega
  have Uz:¬gR=hC:=by omega
  have j4:¬hC=w.heap.size:=fun e=>gJ e.symm
  have kN:¬hC=gY:=fun e=>YP e.symm
  have lz:¬hC=gR:=fun e=>Uz e.symm
  clear hh Xs
  clear x0 x1 x2 x3 x4 xl y0 y1 y2 y3 yl u0 u1 u2 u3 u4 rl f0 f1 f2 f3 f4
  replace BX:=BX.keep b BX.lt
  replace BY:=BY.keep b BY.lt
  replace BR:=BR.keep b BR.lt
  replace bel:=ac bel b
  clear b
  obtain⟨x0,x1,x2,x3,x4,xl⟩:=BX.five
  obtain⟨y0,y1,y2,y3,yl⟩:=BY.four
  obtain⟨u0,u1,u2,u3,u4,rl⟩:=BR.five
  obtain⟨f0,f1,f2,f3,f4⟩:=BR.frees
  have xf:=BX.free 4
  have ib:=BX.set 4 (.slice (some ⟨hC,0,none⟩) 3 G)
  have lV:=aa (BY.other (g':=w.heap.size) 4 (.slice (some ⟨hC,0,none⟩) 3 G) (by omega))
  have ma:=aa (BR.other (g':=w.heap.size) 4 (.slice (some ⟨hC,0,none⟩) 3 G) (by omega))
  have js:=aa (BH.other (g':=w.heap.size) 4 (.slice (some ⟨hC,0,none⟩) 3 G) (by omega))
  have am:=aa (bel.setCell (p:=⟨w.heap.size,4,none⟩) (Nat.le_refl _) (.slice (some ⟨hC,0,none⟩) 3 G))
  simp only[List.set_cons_succ,List.set_cons_zero] at ib
  replace ib:=aa ib
  replace Az:=aa Az
  clear BH
  go_upto_region 7 with fail
  clear x0 x1 x2 x3 x4 xl y0 y1 y2 y3 yl u0 u1 u2 u3 u4 rl f0 f1 f2 f3 f4
  clear xf BX BY BR bel
  have BX:=ib.out
  have BY:=lV.out
  have BR:=ma.out
  have BH:=js.out
  have bel:=am.out
  clear ib lV ma js am
  generalize World.setCell w3 _ _=w4 at*
  obtain⟨x0,x1,x2,x3,x4,xl⟩:=BX.five
  obtain⟨y0,y1,y2,y3,yl⟩:=BY.four
  obtain⟨u0,u1,u2,u3,u4,rl⟩:=BR.five
  obtain⟨f0,f1,f2,f3,f4⟩:=BR.frees
  go_wp2_with fail
  go_at_call 18
  refine(cQ _ (hg.call bel) (I0 _ bel).s1 (I0 _ bel).s2).mono ?_
  rintro e w5 ⟨p1,p2,la,q1,q2,q3,q4,ln,lG,l,rfl,pG,pA,T3,T4,LS,eG,nO,b0⟩
  have b:=newB b0 (.cells #[.slice p1 q1 q3,.slice p2 q2 q4] 27)
  clear T3 T4 LS b0
  replace pG:=aa pG
  replace pA:=aa pA
  have uC:ln=(aO D).length:=by rw[eG,<-List.length_map (f:=fun q:dK=>q.r),nO]
  have lq:ln<=1000:=by omega
  replace uC:=aa uC
  clear eG nO YV
  clear x0 x1 x2 x3 x4 xl y0 y1 y2 y3 yl u0 u1 u2 u3 u4 rl f0 f1 f2 f3 f4
  replace BX:=BX.keep b BX.lt
  replace BY:=BY.keep b BY.lt
  replace BR:=BR.keep b BR.lt
  replace BH:=BH.keep b BH.lt
  replace bel:=ac bel b
  clear b
  obtain⟨x0,x1,x2,x3,x4,xl⟩:=BX.five
  obtain⟨y0,y1,y2,y3,yl⟩:=BY.four
  obtain⟨u0,u1,u2,u3,u4,rl⟩:=BR.five
  obtain⟨f0,f1,f2,f3,f4⟩:=BR.frees
  go_upto_region 8 with fail
  generalize World.alloc w5 _=w6 at*
  by_cases Tq:K=5\/K=6
  .by_cases hn:0<=N/\N<=2
   .obtain⟨n,rfl⟩:∃n:Nat,N=n:=⟨N.toNat,by omega⟩
    have ni:n<3:=by omega
    have Zo:(n:Int)<3:=by omega
    have aak:(0:Int)<=(n:Int):=by omega
    have k3:ys.length>=3:=by
     have:=congrArg List.length Az.out
     rw[List.length_take,r5.out] at this
     omega
    obtain⟨z,hz⟩:∃z:Int,w6.cell? ⟨hC,n,none⟩=some (.int .i64 z):=⟨ys[n]'(by omega),by rw[BH.cell,List.getElem?_map,List.getElem?_eq_getElem (by omega)];rfl⟩
    have hf:=BH.free n
    have hl:=BH.lt
    rcases Tq with rfl|rfl
    .cases U with
     |false=>exact absurd uL (by decide)
     |true=>
      have cN:=fun V=>bG n 0 2 V
      rw[decide_eq_true hn] at cN
      have l6:HE=0:=by
       rw[dO.out]
       refine(us h.out rfl ?_).1.trans (if_pos ?_)
       .simp
       unfold fK;simpa using hn
      have Ic:Z=⟨C,D,true,R.set n ((aO D).length:Int)⟩:=by
       rw[hZ.out]
       refine(lF h.out ?_ (dO.out.symm.trans l6)).2.2.2.1.trans ?_
       .simp
       simp
      subst l6
      go_wp2_with fail
      go_at_call 36
      refine(cN _).mono ?_
      rintro e w7 ⟨rfl,rfl⟩
      clear cN
      have ib:=aa (BX.other (g':=hC) n (.int .i64 (-1)) (by omega))
      have lV:=aa (BY.other (g':=hC) n (.int .i64 (-1)) (by omega))
      have ma:=aa (BR.other (g':=hC) n (.int .i64 (-1)) (by omega))
      have js:=BH.set n (.int .i64 (-1))
      rw[<-List.map_set] at js
      replace js:=aa js
      have am:=aa (bel.setCell (p:=⟨hC,n,none⟩) UE (.int .i64 (-1)))
      clear BH
      go_upto_region 14 with fail
      clear x0 x1 x2 x3 x4 xl y0 y1 y2 y3 yl u0 u1 u2 u3 u4 rl f0 f1 f2 f3 f4
      clear hz hf hl BX BY BR bel
      have BX:=ib.out
      have BY:=lV.out
      have BR:=ma.out
      have BH:=js.out
      have bel:=am.out
      clear ib lV ma js am
      generalize World.setCell w6 _ _=w8 at*
      obtain⟨x0,x1,x2,x3,x4,xl⟩:=BX.five
      obtain⟨y0,y1,y2,y3,yl⟩:=BY.four
      obtain⟨u0,u1,u2,u3,u4,rl⟩:=BR.five
      obtain⟨f0,f1,f2,f3,f4⟩:=BR.frees
      obtain⟨z,hz⟩:∃z:Int,w8.cell? ⟨hC,n,none⟩=some (.int .i64 z):=⟨-1,by rw[BH.cell,List.getElem?_map,List.getElem?_set_self (by omega)];rfl⟩
      have hf:=BH.free n
      have hl:=BH.lt
      have ib:=aa (BX.other (g':=hC) n (.int .i64 (ln:Int)) (by omega))
      have lV:=aa (BY.other (g':=hC) n (.int .i64 (ln:Int)) (by omega))
      have ma:=aa (BR.other (g':=hC) n (.int .i64 (ln:Int)) (by omega))
      have js:=BH.set n (.int .i64 (ln:Int))
      rw[<-List.map_set] at js
      replace js:=aa js
      have am:=aa (bel.setCell (p:=⟨hC,n,none⟩) UE (.int .i64 (ln:Int)))
      clear BH
      go_upto_region 16 with fail
      clear x0 x1 x2 x3 x4 xl y0 y1 y2 y3 yl u0 u1 u2 u3 u4 rl f0 f1 f2 f3 f4
      clear hz hf hl BX BY BR bel
      have BX:=ib.out
      have BY:=lV.out
      have BR:=ma.out
      have BH:=js.out
      have bel:=am.out
      clear ib lV ma js am
      generalize World.setCell w8 _ _=w9 at*
      obtain⟨x0,x1,x2,x3,x4,xl⟩:=BX.five
      obtain⟨y0,y1,y2,y3,yl⟩:=BY.four
      obtain⟨u0,u1,u2,u3,u4,rl⟩:=BR.five
      obtain⟨f0,f1,f2,f3,f4⟩:=BR.frees
      have Oo:Hid (((ys.set n (-1)).set n (ln:Int)).take 3=R.set n ((aO D).length:Int)):=aa (by
       rw[List.take_set,List.take_set,Az.out,List.set_set,uC.out])
      have I8:dE w9 ⟨sa,sn,sG,a1,n1,c1,a2,n2,c2,some ⟨hC,0,none⟩,3,G⟩ ⟨C,D,true,R.set n ((aO D).length:Int)⟩:=
       have q:=I0 _ bel
       ⟨q.es,q.e1,q.e2,by rw[List.length_set];exact r5.out.symm,q.s,q.s1,q.s2,ru BH Oo.out MX pT⟩
      obtain rfl:Z=⟨C,D,true,R.set n ((aO D).length:Int)⟩:=Ic
      clear Oo
      have I9:=(I8).boxW (Cw) BR (pz (w:=w9) (g:=gR) (.slice sa sn sG) (.slice a1 n1 c1) (.slice a2 n2 c2) (.bool true) (.slice (some ⟨hC,0,none⟩) 3 G))
      have B9:=fA BR (.slice sa sn sG) (.slice a1 n1 c1) (.slice a2 n2 c2) (.bool true) (.slice (some ⟨hC,0,none⟩) 3 G)
      have aq:=dP bel ip (.slice sa sn sG) (.slice a1 n1 c1) (.slice a2 n2 c2) (.bool true) (.slice (some ⟨hC,0,none⟩) 3 G)
      have P9:=aa (ab.boxW (d6 _ bel) (Cw) BR (pz (w:=w9) (g:=gR) (.slice sa sn sG) (.slice a1 n1 c1) (.slice a2 n2 c2) (.bool true) (.slice (some ⟨hC,0,none⟩) 3 G)))
      obtain⟨i0,i1,i2,i3,i4,il⟩:=B9.five
      clear B9 il
      replace I9:=aa I9
      replace BR:=aa BR
      replace bel:=aa bel
      go_wp2_with fail
      exact bodyPost_ret (v:=.tuple #[.agg #[.slice sa sn sG,.slice a1 n1 c1,.slice a2 n2 c2,.bool true,.slice (some ⟨hC,0,none⟩) 3 G],.int .i64 0]) (by simp[results,Tryz.results16,go_sem,i0,i1,i2,i3,i4]) rfl ⟨⟨sa,sn,sG,a1,n1,c1,a2,n2,c2,(some ⟨hC,0,none⟩),3,G⟩,rfl,I9.out,P9.out,(fun ad h=>by cases h;exact UE),aq⟩
    cases U with
    |false=>exact absurd uL (by decide)
    |true=>
     have cN:=fun V=>bG n 0 2 V
     rw[decide_eq_true hn] at cN
     have l6:HE=0:=by
      rw[dO.out]
      refine(us h.out rfl ?_).1.trans (if_pos ?_)
      .simp
      unfold fK;simpa using hn
     have Ic:Z=⟨C,D,true,R.set n (-1)⟩:=by
      rw[hZ.out]
      refine(lF h.out ?_ (dO.out.symm.trans l6)).2.2.2.1.trans ?_
      .simp
      simp
     subst l6
     go_wp2_with fail
     go_at_call 36
     refine(cN _).mono ?_
     rintro e w7 ⟨rfl,rfl⟩
     clear cN
     have ib:=aa (BX.other (g':=hC) n (.int .i64 (-1)) (by omega))
     have lV:=aa (BY.other (g':=hC) n (.int .i64 (-1)) (by omega))
     have ma:=aa (BR.other (g':=hC) n (.int .i64 (-1)) (by omega))
     have js:=BH.set n (.int .i64 (-1))
     rw[<-List.map_set] at js
     replace js:=aa js
     have am:=aa (bel.setCell (p:=⟨hC,n,none⟩) UE (.int .i64 (-1)))
     clear BH
     go_upto_region 14 with fail
     clear x0 x1 x2 x3 x4 xl y0 y1 y2 y3 yl u0 u1 u2 u3 u4 rl f0 f1 f2 f3 f4
     clear hz hf hl BX BY BR bel
     have BX:=ib.out
     have BY:=lV.out
     have BR:=ma.out
     have BH:=js.out
     have bel:=am.out
     clear ib lV ma js am
     generalize World.setCell w6 _ _=w8 at*
     obtain⟨x0,x1,x2,x3,x4,xl⟩:=BX.five
     obtain⟨y0,y1,y2,y3,yl⟩:=BY.four
     obtain⟨u0,u1,u2,u3,u4,rl⟩:=BR.five
     obtain⟨f0,f1,f2,f3,f4⟩:=BR.frees
     have Oo:Hid ((ys.set n (-1)).take 3=R.set n (-1)):=aa (by
      rw[List.take_set,Az.out])
     have I8:dE w8 ⟨sa,sn,sG,a1,n1,c1,a2,n2,c2,some ⟨hC,0,none⟩,3,G⟩ ⟨C,D,true,R.set n (-1)⟩:=
      have q:=I0 _ bel
      ⟨q.es,q.e1,q.e2,by rw[List.length_set];exact r5.out.symm,q.s,q.s1,q.s2,ru BH Oo.out MX pT⟩
     obtain rfl:Z=⟨C,D,true,R.set n (-1)⟩:=Ic
     clear Oo
     have I9:=(I8).boxW (Cw) BR (pz (w:=w8) (g:=gR) (.slice sa sn sG) (.slice a1 n1 c1) (.slice a2 n2 c2) (.bool true) (.slice (some ⟨hC,0,none⟩) 3 G))
     have B9:=fA BR (.slice sa sn sG) (.slice a1 n1 c1) (.slice a2 n2 c2) (.bool true) (.slice (some ⟨hC,0,none⟩) 3 G)
     have aq:=dP bel ip (.slice sa sn sG) (.slice a1 n1 c1) (.slice a2 n2 c2) (.bool true) (.slice (some ⟨hC,0,none⟩) 3 G)
     have P9:=aa (ab.boxW (d6 _ bel) (Cw) BR (pz (w:=w8) (g:=gR) (.slice sa sn sG) (.slice a1 n1 c1) (.slice a2 n2 c2) (.bool true) (.slice (some ⟨hC,0,none⟩) 3 G)))
     obtain⟨i0,i1,i2,i3,i4,il⟩:=B9.five
     clear B9 il
     replace I9:=aa I9
     replace BR:=aa BR
     replace bel:=aa bel
     go_wp2_with fail
     exact bodyPost_ret (v:=.tuple #[.agg #[.slice sa sn sG,.slice a1 n1 c1,.slice a2 n2 c2,.bool true,.slice (some ⟨hC,0,none⟩) 3 G],.int .i64 0]) (by simp[results,Tryz.results16,go_sem,i0,i1,i2,i3,i4]) rfl ⟨⟨sa,sn,sG,a1,n1,c1,a2,n2,c2,(some ⟨hC,0,none⟩),3,G⟩,rfl,I9.out,P9.out,(fun ad h=>by cases h;exact UE),aq⟩
   rcases Tq with rfl|rfl
   all_goals(
    cases U with
    |false=>exact absurd uL (by decide)
    |true=>
     have cN:=fun V=>bG N 0 2 V
     rw[decide_eq_false hn] at cN
     have gL:HE=5:=by
      rw[dO.out]
      refine(us h.out rfl ?_).1.trans (if_neg ?_)
      .simp
      unfold fK;simpa using hn
     go_wp2_with fail
     go_at_call 36
     refine(cN _).mono ?_
     rintro e w7 ⟨rfl,rfl⟩
     clear cN
     have oK:HE=5:=gL
     have tE:=rC (by rw[oK];decide)
     subst tE
     subst oK
     go_wp2_with fail
     go_at_call 48
     refine(kE _ _).mono ?_
     rintro e wB ⟨rfl,b⟩
     clear x0 x1 x2 x3 x4 xl y0 y1 y2 y3 yl u0 u1 u2 u3 u4 rl f0 f1 f2 f3 f4
     replace BX:=BX.keep b BX.lt
     replace BY:=BY.keep b BY.lt
     replace BR:=BR.keep b BR.lt
     replace bel:=ac bel b
     clear b
     obtain⟨x0,x1,x2,x3,x4,xl⟩:=BX.five
     obtain⟨y0,y1,y2,y3,yl⟩:=BY.four
     obtain⟨u0,u1,u2,u3,u4,rl⟩:=BR.five
     obtain⟨f0,f1,f2,f3,f4⟩:=BR.frees
     have aq:=dP bel ip (.slice none 0 0) (.slice none 0 0) (.slice none 0 0) (.bool false) (.slice none 0 0)
     have B9:=fA BR (.slice none 0 0) (.slice none 0 0) (.slice none 0 0) (.bool false) (.slice none 0 0)
     obtain⟨i0,i1,i2,i3,i4,il⟩:=B9.five
     clear B9 il
     replace BR:=aa BR
     replace bel:=aa bel
     go_wp2_with fail
     exact bodyPost_ret (v:=.tuple #[.agg #[.slice none 0 0,.slice none 0 0,.slice none 0 0,.bool false,.slice none 0 0],.int .i64 _]) (by simp[results,Tryz.results16,go_sem,i0,i1,i2,i3,i4]) rfl ⟨ti,rfl,dE.nil _,ab.none _ _,(fun _ h=>by cases h),aq⟩)
  by_cases h7:K=7
  .obtain rfl:K=7:=h7
   cases U with
   |false=>exact absurd uL (by decide)
   |true=>
    have hE:=Jq (x:=⟨C,D,true,R⟩) (y:=⟨7,Sr,N,L⟩) rfl rfl
    obtain rfl:HE=0:=dO.out.trans hE.1
    obtain rfl:Z=⟨dm,D,false,fJ⟩:=hZ.out.trans hE.2
    clear hE cQ
    have kF:∀V,Below w6.heap.size w6 V->Calls Tryz.prog 46 #[] V fun e w'=>∃(aN:Option Addr) (GN:Nat),e=.returned (.agg #[.slice aN 4 GN])/\w'.cell? ⟨w.heap.size,1,none⟩=some (.slice a1 n1 c1)/\w'.cell? ⟨w.heap.size,2,none⟩=some (.slice a2 n2 c2)/\cu w' aN GN dm/\Below w6.heap.size w6 w':=by
     intro V hV
     refine(pI V).mono ?_
     rintro e w' ⟨aN,GN,rfl,IN,b⟩
     have q:=BX.keep (ac hV b) BX.lt
     exact⟨aN,GN,rfl,q.cell 1,q.cell 2,IN,ac hV b⟩
    have kS:∀V (aN:Option Addr) (GN:Nat),Below w6.heap.size w6 V->cu V aN GN dm->Calls Tryz.prog 47 #[] V fun e w'=>∃(gC:Nat),e=.returned (.slice (some ⟨gC,0,none⟩) 3 3)/\w'.cell? ⟨w.heap.size,1,none⟩=some (.slice a1 n1 c1)/\w'.cell? ⟨w.heap.size,2,none⟩=some (.slice a2 n2 c2)/\
      Hid (cu w' aN GN dm/\ag w' gC [.int .i64 (-1),.int .i64 (-1),.int .i64 (-1)] 3/\Below w6.heap.size w6 w'/\w.heap.size<=gC)/\ag w' gR [.slice none 0 0,.slice none 0 0,.slice none 0 0,.bool false,.slice none 0 0] 30/\Below w.heap.size w w':=by
     intro V aN GN hV IN
     refine(sj V).mono ?_
     rintro e w' ⟨gC,rfl,BC,hC,b⟩
     have q:=BX.keep (ac hV b) BX.lt
     exact⟨gC,rfl,q.cell 1,q.cell 2,aa ⟨IN.call b,BC,ac hV b,Nat.le_trans (Nat.le_trans bel.size hV.size) hC⟩,BR.keep (ac hV b) BR.lt,ac bel (ac hV b)⟩
    have k0:Below w6.heap.size w6 w6.drew:=ak (Below.refl _ _)
    have Kt:Below w6.heap.size w6 w6:=Below.refl _ _
    replace BX:=aa BX
    replace BY:=aa BY
    replace BR:=aa BR
    replace BH:=aa BH
    replace bel:=aa bel
    go_wp2_with fail
    go_region_held3 (fun w'=>w'.cell? ⟨w.heap.size,1,none⟩=some (.slice a1 n1 c1)/\w'.cell? ⟨w.heap.size,2,none⟩=some (.slice a2 n2 c2)) (go_keep)
     (first
      | (go_at_call 47;refine(kS _ _ _ zA iA).mono ?_;rintro e wB ⟨gC,rfl,e7,e8,hA,RB,zB⟩;obtain⟨u0,u1,u2,u3,u4,rl⟩:=RB.five;obtain⟨f0,f1,f2,f3,f4⟩:=RB.frees)
      | (go_at_call 46;refine(kF _ (by first|exact k0|exact Kt)).mono ?_;rintro e wA ⟨aN,GN,rfl,e5,e6,iA,zA⟩))
    all_goals(
     have I8:dE wB ⟨aN,4,GN,a1,n1,c1,a2,n2,c2,some ⟨gC,0,none⟩,3,3⟩ ⟨dm,D,false,fJ⟩:=by
      have q:=I0 _ zB
      exact⟨rfl,q.e1,q.e2,rfl,hA.out.1,q.s1,q.s2,by exact Sl.ofBlk hA.out.2.1 (by decide)⟩
     have CK:=RB
     have Id:=zB
     have I9:=(I8).boxW (mv) CK (pz (w:=wB) (g:=gR) (.slice aN 4 GN) (.slice a1 n1 c1) (.slice a2 n2 c2) (.bool false) (.slice (some ⟨gC,0,none⟩) 3 3))
     have B9:=fA CK (.slice aN 4 GN) (.slice a1 n1 c1) (.slice a2 n2 c2) (.bool false) (.slice (some ⟨gC,0,none⟩) 3 3)
     have aq:=dP Id ip (.slice aN 4 GN) (.slice a1 n1 c1) (.slice a2 n2 c2) (.bool false) (.slice (some ⟨gC,0,none⟩) 3 3)
     have P9:=aa (ab.boxW (cu.empt (P:=P) hA.out.1 (by decide)) (mv) CK (pz (w:=wB) (g:=gR) (.slice aN 4 GN) (.slice a1 n1 c1) (.slice a2 n2 c2) (.bool false) (.slice (some ⟨gC,0,none⟩) 3 3)))
     obtain⟨i0,i1,i2,i3,i4,il⟩:=B9.five
     clear B9 il
     replace I9:=aa I9
     replace CK:=aa CK
     replace Id:=aa Id
     go_wp2_with fail
     exact bodyPost_ret (v:=.tuple #[.agg #[.slice aN 4 GN,.slice a1 n1 c1,.slice a2 n2 c2,.bool false,.slice (some ⟨gC,0,none⟩) 3 3],.int .i64 0]) (by simp[results,Tryz.results16,go_sem,i0,i1,i2,i3,i4]) rfl ⟨⟨aN,4,GN,a1,n1,c1,a2,n2,c2,(some ⟨gC,0,none⟩),3,3⟩,rfl,I9.out,P9.out,(fun ad h=>by cases h;exact hA.out.2.2.2),aq⟩)
  by_cases h8:K=8
  .obtain rfl:K=8:=h8
   cases U with
   |true=>exact absurd uL (by decide)
   |false=>
    obtain⟨E2,kG⟩:∃E2,E2=du (aO D):=⟨_,rfl⟩
    obtain⟨C2,sK⟩:∃C2,C2=cd (aO D):=⟨_,rfl⟩
    obtain⟨dn,ck⟩:∃dn,dn=C2.length:=⟨_,rfl⟩
    have hE:=xw (y:=⟨8,Sr,N,L⟩) h.out rfl rfl
    simp only at hE
    rw[<-dO.out,<-kG,<-hZ.out,<-sK] at hE
    have rL:=fun e:E2=0=>fV (L:=aO D) (kG.symm.trans e)
    rw[<-sK] at rL
    replace hE:=aa hE
    replace ck:=aa ck
    go_wp2_with fail
    go_at_call 18
    refine(cQ _ (hg.call bel) (I0 _ bel).s1 (I0 _ bel).s2).mono ?_
    rintro e w7 ⟨mG,lm,Zd,tc,tU,sk,AC,Yq,YF,l',rfl,Nx,OT,T3,T4,LS,eG,nO,b0⟩
    have b:=newB b0 (.cells #[.slice mG tc sk,.slice lm tU AC] 27)
    have BD:=ag.laid w7 [.slice mG tc sk,.slice lm tU AC] 27 _ rfl
    have bq:=newB (Below.refl w7.heap.size w7) (.cells #[.slice mG tc sk,.slice lm tU AC] 27)
    replace T3:=T3.call bq
    replace T4:=T4.call bq
    replace LS:=LS.call bq
    have cS:=aL (P:=P) l' Zd Yq YF dn _ (fun q k=>Nat.lt_of_lt_of_le (hP q k) (ac bel b).size) LS (aa eG) (aa (by rw[nO,<-sK];exact ck.out))
    rw[nO,<-kG,<-sK] at cS
    replace Nx:=aa Nx
    replace OT:=aa OT
    clear b0 bq cQ eG LS nO kG sK
    clear x0 x1 x2 x3 x4 xl y0 y1 y2 y3 yl u0 u1 u2 u3 u4 rl f0 f1 f2 f3 f4
    replace BX:=BX.keep b BX.lt
    replace BY:=BY.keep b BY.lt
    replace BR:=BR.keep b BR.lt
    replace BH:=BH.keep b BH.lt
    replace bel:=ac bel b
    clear b
    obtain⟨x0,x1,x2,x3,x4,xl⟩:=BX.five
    obtain⟨y0,y1,y2,y3,yl⟩:=BY.four
    obtain⟨u0,u1,u2,u3,u4,rl⟩:=BR.five
    obtain⟨f0,f1,f2,f3,f4⟩:=BR.frees
    go_upto_region 21 with fail
    generalize w7.heap.size=gD at*
    generalize World.alloc w7 _=w8 at*
    go_wp2_with fail
    go_at_call 19
    refine cS.mono ?_
    rintro e w9 ⟨aN,GN,rfl,IN,b0⟩
    have b:=newB b0 (.cells #[.slice aN dn GN] 24)
    have BN:=ag.laid w9 [.slice aN dn GN] 24 _ rfl
    replace IN:=IN.alloc (.cells #[.slice aN dn GN] 24)
    clear b0 cS
    clear x0 x1 x2 x3 x4 xl y0 y1 y2 y3 yl u0 u1 u2 u3 u4 rl f0 f1 f2 f3 f4
    replace BX:=BX.keep b BX.lt
    replace BY:=BY.keep b BY.lt
    replace BR:=BR.keep b BR.lt
    replace BH:=BH.keep b BH.lt
    replace BD:=BD.keep b BD.lt
    replace T3:=T3.call b
    replace T4:=T4.call b
    replace bel:=ac bel b
    clear b
    obtain⟨x0,x1,x2,x3,x4,xl⟩:=BX.five
    obtain⟨y0,y1,y2,y3,yl⟩:=BY.four
    obtain⟨u0,u1,u2,u3,u4,rl⟩:=BR.five
    obtain⟨f0,f1,f2,f3,f4⟩:=BR.frees
    go_upto_region 22 with fail
    generalize w9.heap.size=gN at*
    generalize World.alloc w9 _=v1 at*
    by_cases hz:E2=0
    .subst hz
     obtain rfl:HE=0:=hE.out.1
     obtain rfl:Z=⟨C2,fQ D,true,R⟩:=(hE.out.2 rfl).1
     obtain⟨d0,d1,dl⟩:=BD.c2
     have n0:=BN.cell 0
     have nl:=BN.lt
     have I8:dE v1 ⟨aN,dn,GN,mG,tc,sk,lm,tU,AC,some ⟨hC,0,none⟩,3,G⟩ ⟨C2,fQ D,true,R⟩:=
      ⟨ck.out,Nx.out,OT.out,r5.out.symm,IN.is,T3,T4,ru BH Az.out MX pT⟩
     clear T3 T4
     have I9:=(I8).boxW (rL rfl) BR (pz (w:=v1) (g:=gR) (.slice aN dn GN) (.slice mG tc sk) (.slice lm tU AC) (.bool true) (.slice (some ⟨hC,0,none⟩) 3 G))
     have B9:=fA BR (.slice aN dn GN) (.slice mG tc sk) (.slice lm tU AC) (.bool true) (.slice (some ⟨hC,0,none⟩) 3 G)
     have aq:=dP bel ip (.slice aN dn GN) (.slice mG tc sk) (.slice lm tU AC) (.bool true) (.slice (some ⟨hC,0,none⟩) 3 G)
     have P9:=aa (ab.boxW (IN) (rL rfl) BR (pz (w:=v1) (g:=gR) (.slice aN dn GN) (.slice mG tc sk) (.slice lm tU AC) (.bool true) (.slice (some ⟨hC,0,none⟩) 3 G)))
     obtain⟨i0,i1,i2,i3,i4,il⟩:=B9.five
     clear B9 il
     replace I9:=aa I9
     replace BR:=aa BR
     replace bel:=aa bel
     go_wp2_with fail
     exact bodyPost_ret (v:=.tuple #[.agg #[.slice aN dn GN,.slice mG tc sk,.slice lm tU AC,.bool true,.slice (some ⟨hC,0,none⟩) 3 G],.int .i64 0]) (by simp[results,Tryz.results16,go_sem,i0,i1,i2,i3,i4]) rfl ⟨⟨aN,dn,GN,mG,tc,sk,lm,tU,AC,(some ⟨hC,0,none⟩),3,G⟩,rfl,I9.out,P9.out,(fun ad h=>by cases h;exact UE),aq⟩
    have hd:(E2 != 0)=true:=by simpa using hz
    clear BN BD
    have oK:HE=E2:=hE.out.1
    have tE:=rC (by rw[oK];exact hz)
    subst tE
    subst oK
    go_wp2_with fail
    go_at_call 48
    refine(kE _ _).mono ?_
    rintro e wB ⟨rfl,b⟩
    clear x0 x1 x2 x3 x4 xl y0 y1 y2 y3 yl u0 u1 u2 u3 u4 rl f0 f1 f2 f3 f4
    replace BX:=BX.keep b BX.lt
    replace BY:=BY.keep b BY.lt
    replace BR:=BR.keep b BR.lt
    replace bel:=ac bel b
    clear b
    obtain⟨x0,x1,x2,x3,x4,xl⟩:=BX.five
    obtain⟨y0,y1,y2,y3,yl⟩:=BY.four
    obtain⟨u0,u1,u2,u3,u4,rl⟩:=BR.five
    obtain⟨f0,f1,f2,f3,f4⟩:=BR.frees
    have aq:=dP bel ip (.slice none 0 0) (.slice none 0 0) (.slice none 0 0) (.bool false) (.slice none 0 0)
    have B9:=fA BR (.slice none 0 0) (.slice none 0 0) (.slice none 0 0) (.bool false) (.slice none 0 0)
    obtain⟨i0,i1,i2,i3,i4,il⟩:=B9.five
    clear B9 il
    replace BR:=aa BR
    replace bel:=aa bel
    go_wp2_with fail
    exact bodyPost_ret (v:=.tuple #[.agg #[.slice none 0 0,.slice none 0 0,.slice none 0 0,.bool false,.slice none 0 0],.int .i64 _]) (by simp[results,Tryz.results16,go_sem,i0,i1,i2,i3,i4]) rfl ⟨ti,rfl,dE.nil _,ab.none _ _,(fun _ h=>by cases h),aq⟩
  have hK:K=1\/K=2\/K=3\/K=4\/K=9:=by omega
  have hU:U=true:=by
   have e8:(K != 8)=true:=by simpa using h8
   rw[e8] at uL
   cases U
   .exact absurd uL (by decide)
   rfl
  subst hU
  clear cQ uL Tq h7 h8 hk
  obtain⟨r,hr⟩:∃r,r=aK ⟨K,Sr,N,L⟩:=⟨_,rfl⟩
  have Xq:w.heap.size<w6.heap.size:=BX.lt
  have ZR:gY<w6.heap.size:=BY.lt
  have Zq:gR<w6.heap.size:=BR.lt
  have Zf:hC<w6.heap.size:=BH.lt
  have BQ:=ag.laid w6 [.int .i64 1,.int .i64 0,.int .i64 0,.slice ea en eC] 73 _ rfl
  have b:=newB (Below.refl w6.heap.size w6) (.cells #[.int .i64 1,.int .i64 0,.int .i64 0,.slice ea en eC] 73)
  go_upto_region 26 with fail
  clear x0 x1 x2 x3 x4 xl y0 y1 y2 y3 yl u0 u1 u2 u3 u4 rl f0 f1 f2 f3 f4
  replace BX:=BX.keep b BX.lt
  replace BY:=BY.keep b BY.lt
  replace BR:=BR.keep b BR.lt
  replace BH:=BH.keep b BH.lt
  replace bel:=ac bel b
  clear b
  obtain⟨x0,x1,x2,x3,x4,xl⟩:=BX.five
  obtain⟨y0,y1,y2,y3,yl⟩:=BY.four
  obtain⟨u0,u1,u2,u3,u4,rl⟩:=BR.five
  obtain⟨f0,f1,f2,f3,f4⟩:=BR.frees
  generalize w6.heap.size=gQ at*
  generalize World.alloc w6 _=w7 at*
  clear x0 x1 x2 x3 x4 xl u0 u1 u2 u3 u4 rl f0 f1 f2 f3 f4
  have AP:=yq (w:=⟨C,D,true,R⟩) (x:=⟨K,Sr,N,L⟩) (by simp only;omega) rfl
  rw[<-dO.out,<-hr] at AP
  simp only at AP
  replace AP:=aa AP
  go_upto_block 1 with fail
  go_cut [] from 109 to 192 (fun wc=>∃(qa:Option Addr) (qn qc:Nat),be ec w qa qc r.e/\Hid (qn=r.e.length)/\ag wc gQ [.int .i64 r.k,.int .i64 r.s,.int .i64 r.n,.slice qa qn qc] 73/\Below gQ w7 wc)
  case first=>
   obtain⟨q0,tc,tU,sk,ql⟩:=BQ.four
   obtain⟨g0,g1,g2,g3,g4⟩:=BQ.frees
   have hB:∀(a b c:Int),_:=fun a b c=>dU BQ (.int .i64 a) (.int .i64 b) (.int .i64 c) (.slice none 0 0)
   have hb:∀(a b c:Int),_:=fun a b c=>bI (Below.refl gQ w7) (Nat.le_refl _) (.int .i64 a) (.int .i64 b) (.int .i64 c) (.slice none 0 0)
   have e1:K=1\/K=9->r=⟨1,0,0,L⟩:=by rintro(rfl|rfl)<;>exact hr.trans (by unfold aK;simp)
   have e2:K=2->r=⟨2,Sr,N,[]⟩:=by rintro rfl;exact hr.trans (by unfold aK;simp)
   have e3:K=3->r=⟨3,Sr,N,[]⟩:=by rintro rfl;exact hr.trans (by unfold aK;simp)
   have e4:K=4->r=⟨4,0,N,[]⟩:=by rintro rfl;exact hr.trans (by unfold aK;simp)
   replace hB:=aa hB
   replace hb:=aa hb
   replace hr:=aa hr
   replace BQ:=aa BQ
   clear BX BY BR BH bel
   rcases hK with rfl|rfl|rfl|rfl|rfl
   all_goals(
    have e:Hid (r=_):=aa (by first|exact e1 (.inl rfl)|exact e1 (.inr rfl)|exact e2 rfl|exact e3 rfl|exact e4 rfl)
    clear e1 e2 e3 e4
    go_wp2_with fail
    go_meet
    case rel=>
     first
      |exact⟨ea,en,eC,by rw[e.out];exact s3,by rw[e.out];exact h3,by rw[e.out];exact BQ.out,Below.refl _ _⟩
      |exact⟨none,0,0,by rw[e.out];exact be.ofNil ec _,by rw[e.out];exact aa rfl,by rw[e.out];exact hB.out 2 Sr N,hb.out 2 Sr N⟩
      |exact⟨none,0,0,by rw[e.out];exact be.ofNil ec _,by rw[e.out];exact aa rfl,by rw[e.out];exact hB.out 3 Sr N,hb.out 3 Sr N⟩
      |exact⟨none,0,0,by rw[e.out];exact be.ofNil ec _,by rw[e.out];exact aa rfl,by rw[e.out];exact hB.out 4 0 N,hb.out 4 0 N⟩)
  case rest=>
   obtain⟨qa,qn,qc,sQ,VN,XM,b4⟩:=hcut
   clear y0 y1 y2 y3 yl BQ
   replace hr:=aa hr
   replace BX:=BX.keep b4 Xq
   replace BY:=BY.keep b4 ZR
   replace BR:=BR.keep b4 Zq
   replace BH:=BH.keep b4 Zf
   replace bel:=bel.trans (b4.mono (Nat.le_of_lt Xq))
   have BQ:=XM
   clear XM b4
   obtain⟨x0,x1,x2,x3,x4,xl⟩:=BX.five
   obtain⟨y0,y1,y2,y3,yl⟩:=BY.four
   obtain⟨u0,u1,u2,u3,u4,rl⟩:=BR.five
   obtain⟨f0,f1,f2,f3,f4⟩:=BR.frees
   obtain⟨q0,tc,tU,sk,ql⟩:=BQ.four
   obtain⟨E2,kG⟩:∃E2,E2=bJ C r:=⟨_,rfl⟩
   obtain⟨C2,sK⟩:∃C2,C2=dH C r:=⟨_,rfl⟩
   obtain⟨dn,ck⟩:∃dn,dn=C2.length:=⟨_,rfl⟩
   obtain⟨E3,LA⟩:∃E3,E3=dX D r:=⟨_,rfl⟩
   obtain⟨D2,k'⟩:∃D2,D2=cU D r:=⟨_,rfl⟩
   have f7:=AP.out
   rw[<-kG,<-LA,<-k'] at f7
   have cN:=fun V (hV:w.heap.size<=V.heap.size) i s=>bX (P:=P) C r sa qa sG qc qn sn dn V (fun q k=>Nat.lt_of_lt_of_le (hP q k) hV) i s VN (aa (I0 _ (Below.refl _ _)).es) (aa (by rw[<-sK];exact ck))
   have cP:=fun V g s t u=>LW D r a1 a2 qa c1 c2 qc n1 n2 qn V g s t u (I0 _ (Below.refl _ _)).e1 (I0 _ (Below.refl _ _)).e2 VN.out r1
   unfold bN at cN
   rw[<-kG,<-sK] at cN
   rw[<-LA,<-k'] at cP
   replace kG:=aa kG
   replace LA:=aa LA
   replace sK:=aa sK
   replace k':=aa k'
   replace ck:=aa ck
   replace f7:=aa f7
   clear AP
   go_wp2_with fail
   go_at_call 50
   refine(cN _ bel.size (d6 _ bel) (sQ.keep bel (Nat.le_refl _))).mono ?_
   rintro e w8 ⟨aN,GN,rfl,IN,b0⟩
   have b:=newB b0 (.cells #[.slice aN dn GN] 24)
   have BS:=ag.laid w8 [.slice aN dn GN] 24 _ rfl
   replace IN:=IN.alloc (.cells #[.slice aN dn GN] 24)
   have kQ:w.heap.size<w8.heap.size:=Nat.lt_of_lt_of_le BX.lt b0.size
   clear b0 cN q0 tc tU sk ql
   clear x0 x1 x2 x3 x4 xl y0 y1 y2 y3 yl u0 u1 u2 u3 u4 rl f0 f1 f2 f3 f4
   replace BX:=BX.keep b BX.lt
   replace BY:=BY.keep b BY.lt
   replace BR:=BR.keep b BR.lt
   replace BH:=BH.keep b BH.lt
   replace BQ:=BQ.keep b BQ.lt
   replace bel:=ac bel b
   clear b
   obtain⟨x0,x1,x2,x3,x4,xl⟩:=BX.five
   obtain⟨y0,y1,y2,y3,yl⟩:=BY.four
   obtain⟨u0,u1,u2,u3,u4,rl⟩:=BR.five
   obtain⟨f0,f1,f2,f3,f4⟩:=BR.frees
   go_upto_region 34 with fail
   generalize w8.heap.size=gS at*
   generalize World.alloc w8 _=w9 at*
   by_cases hz:E2≠0
   .have hd:(E2 != 0)=true:=by simpa using hz
    have oK:HE=E2:=f7.out.trans (if_pos hz)
    have tE:=rC (by rw[oK];exact hz)
    subst tE
    subst oK
    go_wp2_with fail
    go_at_call 48
    refine(kE _ _).mono ?_
    rintro e wB ⟨rfl,b⟩
    clear x0 x1 x2 x3 x4 xl y0 y1 y2 y3 yl u0 u1 u2 u3 u4 rl f0 f1 f2 f3 f4
    replace BX:=BX.keep b BX.lt
    replace BY:=BY.keep b BY.lt
    replace BR:=BR.keep b BR.lt
    replace bel:=ac bel b
    clear b
    obtain⟨x0,x1,x2,x3,x4,xl⟩:=BX.five
    obtain⟨y0,y1,y2,y3,yl⟩:=BY.four
    obtain⟨u0,u1,u2,u3,u4,rl⟩:=BR.five
    obtain⟨f0,f1,f2,f3,f4⟩:=BR.frees
    have aq:=dP bel ip (.slice none 0 0) (.slice none 0 0) (.slice none 0 0) (.bool false) (.slice none 0 0)
    have B9:=fA BR (.slice none 0 0) (.slice none 0 0) (.slice none 0 0) (.bool false) (.slice none 0 0)
    obtain⟨i0,i1,i2,i3,i4,il⟩:=B9.five
    clear B9 il
    replace BR:=aa BR
    replace bel:=aa bel
    go_wp2_with fail
    exact bodyPost_ret (v:=.tuple #[.agg #[.slice none 0 0,.slice none 0 0,.slice none 0 0,.bool false,.slice none 0 0],.int .i64 _]) (by simp[results,Tryz.results16,go_sem,i0,i1,i2,i3,i4]) rfl ⟨ti,rfl,dE.nil _,ab.none _ _,(fun _ h=>by cases h),aq⟩
   have bQ:E2=0:=Classical.not_not.1 hz
   subst bQ
   replace f7:=aa (f7.out.trans (if_neg hz))
   clear hz
   obtain⟨q0,tc,tU,sk,ql⟩:=BQ.four
   go_wp2_with fail
   go_at_call 51
   refine(cP _ (hg.call bel) (I0 _ bel).s1 (I0 _ bel).s2 (sQ.keep bel (Nat.le_refl _))).mono ?_
   rintro e wa ⟨mG,lm,m1,m2,k1,k2,rfl,z',kH,T1,T2,b0⟩
   have b:=newB b0 (.cells #[.slice mG m1 k1,.slice lm m2 k2] 27)
   have bq:=newB (Below.refl wa.heap.size wa) (.cells #[.slice mG m1 k1,.slice lm m2 k2] 27)
   have BP:=ag.laid wa [.slice mG m1 k1,.slice lm m2 k2] 27 _ rfl
   replace T1:=T1.call bq
   replace T2:=T2.call bq
   have Q0:w.heap.size<wa.heap.size:=Nat.lt_of_lt_of_le BX.lt b0.size
   have U5:gY<wa.heap.size:=Nat.lt_of_lt_of_le BY.lt b0.size
   have WI:gR<wa.heap.size:=Nat.lt_of_lt_of_le BR.lt b0.size
   have WN:hC<wa.heap.size:=Nat.lt_of_lt_of_le BH.lt b0.size
   have Y4:gS<wa.heap.size:=Nat.lt_of_lt_of_le BS.lt b0.size
   clear b0 bq cP q0 tc tU sk ql BQ
   replace z':=aa z'
   replace kH:=aa kH
   clear x0 x1 x2 x3 x4 xl y0 y1 y2 y3 yl u0 u1 u2 u3 u4 rl f0 f1 f2 f3 f4
   replace BX:=BX.keep b BX.lt
   replace BY:=BY.keep b BY.lt
   replace BR:=BR.keep b BR.lt
   replace BH:=BH.keep b BH.lt
   replace BS:=BS.keep b BS.lt
   replace IN:=IN.call b
   replace bel:=ac bel b
   clear b
   obtain⟨x0,x1,x2,x3,x4,xl⟩:=BX.five
   obtain⟨y0,y1,y2,y3,yl⟩:=BY.four
   obtain⟨u0,u1,u2,u3,u4,rl⟩:=BR.five
   obtain⟨f0,f1,f2,f3,f4⟩:=BR.frees
   go_upto_region 37 with fail
   generalize wa.heap.size=gP at*
   generalize World.alloc wa _=wb at*
   by_cases hz:E3≠0
   .have hd:(E3 != 0)=true:=by simpa using hz
    clear BS BP
    have oK:HE=E3:=f7.out.trans (if_pos hz)
    have tE:=rC (by rw[oK];exact hz)
    subst tE
    subst oK
    go_wp2_with fail
    go_at_call 48
    refine(kE _ _).mono ?_
    rintro e wB ⟨rfl,b⟩
    clear x0 x1 x2 x3 x4 xl y0 y1 y2 y3 yl u0 u1 u2 u3 u4 rl f0 f1 f2 f3 f4
    replace BX:=BX.keep b BX.lt
    replace BY:=BY.keep b BY.lt
    replace BR:=BR.keep b BR.lt
    replace bel:=ac bel b
    clear b
    obtain⟨x0,x1,x2,x3,x4,xl⟩:=BX.five
    obtain⟨y0,y1,y2,y3,yl⟩:=BY.four
    obtain⟨u0,u1,u2,u3,u4,rl⟩:=BR.five
    obtain⟨f0,f1,f2,f3,f4⟩:=BR.frees
    have aq:=dP bel ip (.slice none 0 0) (.slice none 0 0) (.slice none 0 0) (.bool false) (.slice none 0 0)
    have B9:=fA BR (.slice none 0 0) (.slice none 0 0) (.slice none 0 0) (.bool false) (.slice none 0 0)
    obtain⟨i0,i1,i2,i3,i4,il⟩:=B9.five
    clear B9 il
    replace BR:=aa BR
    replace bel:=aa bel
    go_wp2_with fail
    exact bodyPost_ret (v:=.tuple #[.agg #[.slice none 0 0,.slice none 0 0,.slice none 0 0,.bool false,.slice none 0 0],.int .i64 _]) (by simp[results,Tryz.results16,go_sem,i0,i1,i2,i3,i4]) rfl ⟨ti,rfl,dE.nil _,ab.none _ _,(fun _ h=>by cases h),aq⟩
   have Yx:E3=0:=Classical.not_not.1 hz
   subst Yx
   replace f7:=aa (f7.out.trans (if_neg hz))
   clear hz
   by_cases h9:K=9
   .subst h9
    have l6:HE=0:=f7.out.trans (if_pos rfl)
    obtain⟨M,hM⟩:∃M:Int,M=min N (m2:Int):=⟨_,rfl⟩
    obtain⟨k,T5⟩:∃k:Nat,max 0 M=(k:Int):=⟨(max 0 M).toNat,by omega⟩
    have kp:∀(ts:Array TypeId) (t:TypeId) (V:World),(Builtin.min_ ts t #[.int .i64 N,.int .i64 (m2:Int)]).run Tryz.prog V=.ok (.int .i64 M) V:=by
     intro ts t V
     rw[Lib.run_min_ints,hM]
    have hmax:∀(ts:Array TypeId) (t:TypeId) (V:World),(Builtin.max_ ts t #[.int .i64 0,.int .i64 M]).run Tryz.prog V=.ok (.int .i64 (k:Int)) V:=by
     intro ts t V
     rw[Lib.run_max_ints,T5]
    have gz:k<=m2:=by omega
    have qD:m2<=k2:=by rw[kH.out];have:=T2.le;simpa[byteCells] using this
    have Ia:k<=k2:=Nat.le_trans gz qD
    have tj:k2<=9223372036854775807:=T2.max
    have sJ:D2.wait.take N.toNat=D2.wait.take k:=A8 N D2.wait k (by rw[<-kH.out];omega)
    have VJ:D2.safe=D.safe:=by rw[k'.out,(mD LA.out.symm).2.2.1]
    have Ic:Z=⟨dm,⟨D2.safe,D2.wait.take k⟩,false,fJ⟩:=by
     rw[hZ.out,(uZ rfl (dO.out.symm.trans l6)).1]
     simp only
     rw[<-hr.out,<-k'.out,sJ,VJ]
    subst Ic
    subst l6
    replace hM:=aa hM
    replace T5:=aa T5
    clear f7 IN sJ VJ
    have gr:=al (au wb (some gP)) 1 (.slice lm k k2)
    have T3:=aa (dA T1 BP (by simp) gr)
    have T4:=aa ((dA T2 BP (by simp) gr).takeU k)
    have b1:=(Below.refl gP wb).setCell (p:=⟨gP,1,none⟩) (Nat.le_refl _) (.slice lm k k2)
    have ib:=aa (BX.keep b1 Q0)
    have lV:=aa (BY.keep b1 U5)
    have ma:=aa (BR.keep b1 WI)
    have js:=aa (BH.keep b1 WN)
    have F3:=BP.set 1 (.slice lm k k2)
    simp only[List.set_cons_succ,List.set_cons_zero] at F3
    replace F3:=aa F3
    have am:=aa (bel.trans (b1.mono (Nat.le_of_lt Q0)))
    have d0:=BP.cell 0
    have d1:=BP.cell 1
    have df:=BP.free 1
    have dl:=BP.lt
    clear gr b1 T1 T2 BS
    go_upto_region 41 with fail
    clear x0 x1 x2 x3 x4 xl y0 y1 y2 y3 yl u0 u1 u2 u3 u4 rl f0 f1 f2 f3 f4
    clear d0 d1 df dl BX BY BR BH BP bel kp hmax
    have BX:=ib.out
    have BY:=lV.out
    have BR:=ma.out
    have BH:=js.out
    have BP:=F3.out
    have bel:=am.out
    have T1:=T3.out
    have T2:=T4.out
    clear ib lV ma js F3 am T3 T4
    generalize World.setCell wb _ _=wc at*
    obtain⟨d0,d1,dl⟩:=BP.c2
    obtain⟨x0,x1,x2,x3,x4,xl⟩:=BX.five
    obtain⟨y0,y1,y2,y3,yl⟩:=BY.four
    obtain⟨u0,u1,u2,u3,u4,rl⟩:=BR.five
    obtain⟨f0,f1,f2,f3,f4⟩:=BR.frees
    have i8:¬gP=gR:=by omega
    have k5:¬gR=gP:=by omega
    have kF:∀V,Below wc.heap.size wc V->Calls Tryz.prog 46 #[] V fun e w'=>∃(aN:Option Addr) (GN:Nat),e=.returned (.agg #[.slice aN 4 GN])/\w'.cell? ⟨gP,0,none⟩=some (.slice mG m1 k1)/\w'.cell? ⟨gP,1,none⟩=some (.slice lm k k2)/\cu w' aN GN dm/\Below wc.heap.size wc w':=by
     intro V hV
     refine(pI V).mono ?_
     rintro e w' ⟨aN,GN,rfl,IN,b⟩
     have q:=BP.keep (ac hV b) BP.lt
     exact⟨aN,GN,rfl,q.cell 0,q.cell 1,IN,ac hV b⟩
    have kS:∀V (aN:Option Addr) (GN:Nat),Below wc.heap.size wc V->cu V aN GN dm->Calls Tryz.prog 47 #[] V fun e w'=>∃(gC:Nat),e=.returned (.slice (some ⟨gC,0,none⟩) 3 3)/\w'.cell? ⟨gP,0,none⟩=some (.slice mG m1 k1)/\w'.cell? ⟨gP,1,none⟩=some (.slice lm k k2)/\
      Hid (cu w' aN GN dm/\ag w' gC [.int .i64 (-1),.int .i64 (-1),.int .i64 (-1)] 3/\Below wc.heap.size wc w'/\w.heap.size<=gC)/\ag w' gR [.slice none 0 0,.slice none 0 0,.slice none 0 0,.bool false,.slice none 0 0] 30/\Below w.heap.size w w':=by
     intro V aN GN hV IN
     refine(sj V).mono ?_
     rintro e w' ⟨gC,rfl,BC,hC,b⟩
     have q:=BP.keep (ac hV b) BP.lt
     exact⟨gC,rfl,q.cell 0,q.cell 1,aa ⟨IN.call b,BC,ac hV b,Nat.le_trans (Nat.le_trans bel.size hV.size) hC⟩,BR.keep (ac hV b) BR.lt,ac bel (ac hV b)⟩
    have k0:Below wc.heap.size wc wc.drew:=ak (Below.refl _ _)
    have Kt:Below wc.heap.size wc wc:=Below.refl _ _
    replace BX:=aa BX
    replace BP:=aa BP
    replace BY:=aa BY
    replace BR:=aa BR
    replace BH:=aa BH
    replace bel:=aa bel
    go_wp2_with fail
    go_region_held3 (fun w'=>w'.cell? ⟨gP,0,none⟩=some (.slice mG m1 k1)/\w'.cell? ⟨gP,1,none⟩=some (.slice lm k k2)) (go_keep)
     (first
      | (go_at_call 47;refine(kS _ _ _ zA iA).mono ?_;rintro e wB ⟨gC,rfl,e7,e8,hA,RB,zB⟩;obtain⟨u0,u1,u2,u3,u4,rl⟩:=RB.five;obtain⟨f0,f1,f2,f3,f4⟩:=RB.frees)
      | (go_at_call 46;refine(kF _ (by first|exact k0|exact Kt)).mono ?_;rintro e wA ⟨aN,GN,rfl,e5,e6,iA,zA⟩))
    all_goals(
     have I8:dE wB ⟨aN,4,GN,mG,m1,k1,lm,k,k2,some ⟨gC,0,none⟩,3,3⟩ ⟨dm,⟨D2.safe,D2.wait.take k⟩,false,fJ⟩:=by
      have dy:k=(D2.wait.take k).length:=by rw[List.length_take,<-kH.out];omega
      exact⟨rfl,z'.out,dy,rfl,hA.out.1,T1.call hA.out.2.2.1,T2.call hA.out.2.2.1,by exact Sl.ofBlk hA.out.2.1 (by decide)⟩
     have CK:=RB
     have Id:=zB
     have I9:=(I8).boxW (mv) CK (pz (w:=wB) (g:=gR) (.slice aN 4 GN) (.slice mG m1 k1) (.slice lm k k2) (.bool false) (.slice (some ⟨gC,0,none⟩) 3 3))
     have B9:=fA CK (.slice aN 4 GN) (.slice mG m1 k1) (.slice lm k k2) (.bool false) (.slice (some ⟨gC,0,none⟩) 3 3)
     have aq:=dP Id ip (.slice aN 4 GN) (.slice mG m1 k1) (.slice lm k k2) (.bool false) (.slice (some ⟨gC,0,none⟩) 3 3)
     have P9:=aa (ab.boxW (cu.empt (P:=P) hA.out.1 (by decide)) (mv) CK (pz (w:=wB) (g:=gR) (.slice aN 4 GN) (.slice mG m1 k1) (.slice lm k k2) (.bool false) (.slice (some ⟨gC,0,none⟩) 3 3)))
     obtain⟨i0,i1,i2,i3,i4,il⟩:=B9.five
     clear B9 il
     replace I9:=aa I9
     replace CK:=aa CK
     replace Id:=aa Id
     go_wp2_with fail
     exact bodyPost_ret (v:=.tuple #[.agg #[.slice aN 4 GN,.slice mG m1 k1,.slice lm k k2,.bool false,.slice (some ⟨gC,0,none⟩) 3 3],.int .i64 0]) (by simp[results,Tryz.results16,go_sem,i0,i1,i2,i3,i4]) rfl ⟨⟨aN,4,GN,mG,m1,k1,lm,k,k2,(some ⟨gC,0,none⟩),3,3⟩,rfl,I9.out,P9.out,(fun ad h=>by cases h;exact hA.out.2.2.2),aq⟩)
   have kj:(K==9)=false:=beq_eq_false_iff_ne.2 h9
   have Eh:=(mD LA.out.symm).2.2.2
   rw[<-k'.out] at Eh
   obtain⟨E4,P6⟩:∃E4,E4=gk D2:=⟨_,rfl⟩
   obtain⟨D4,Pv⟩:∃D4,D4=iJ D2:=⟨_,rfl⟩
   have Pm:HE=E4:=(f7.out.trans (if_neg h9)).trans P6.symm
   have cY:=fun V g s t=>GR D2 mG lm k1 k2 m1 m2 V g s t z'.out kH.out Eh
   rw[<-P6,<-Pv] at cY
   have h4:C2.length=4:=by rw[sK.out];exact bZ (gV kG.out.symm)
   replace h4:=aa h4
   replace Pm:=aa Pm
   replace P6:=aa P6
   replace Pv:=aa Pv
   clear Eh f7
   obtain⟨d0,d1,dl⟩:=BP.c2
   go_wp2_with fail
   go_at_call 52
   refine(cY _ (hg.call bel) T1 T2).mono ?_
   rintro e wc ⟨s1,s2,o1,o2,j1,j2,rfl,km,rT,U1,U2,b⟩
   clear d0 d1 dl cY T1 T2
   replace km:=aa km
   replace rT:=aa rT
   clear x0 x1 x2 x3 x4 xl y0 y1 y2 y3 yl u0 u1 u2 u3 u4 rl f0 f1 f2 f3 f4
   replace BX:=BX.keep b BX.lt
   replace BY:=BY.keep b BY.lt
   replace BR:=BR.keep b BR.lt
   replace BH:=BH.keep b BH.lt
   replace BS:=BS.keep b BS.lt
   replace BP:=BP.keep b BP.lt
   replace IN:=IN.call b
   replace bel:=ac bel b
   clear b
   obtain⟨x0,x1,x2,x3,x4,xl⟩:=BX.five
   obtain⟨y0,y1,y2,y3,yl⟩:=BY.four
   obtain⟨u0,u1,u2,u3,u4,rl⟩:=BR.five
   obtain⟨f0,f1,f2,f3,f4⟩:=BR.frees
   have gr:=al (al (au wc (some gP)) 0 (.slice s1 o1 j1)) 1 (.slice s2 o2 j2)
   have U3:=aa (dA U1 BP (by simp) gr)
   have U4:=aa (dA U2 BP (by simp) gr)
   have EY:=aa ((IN.setD h4.out BP (i:=0) (u:=.slice s1 o1 j1)).setD h4.out (BP.set 0 (.slice s1 o1 j1)) (i:=1) (u:=.slice s2 o2 j2))
   have b1:=dt (Below.refl gP wc) (Nat.le_refl _) (.slice s1 o1 j1) (.slice s2 o2 j2)
   have ib:=aa (BX.keep b1 Q0)
   have lV:=aa (BY.keep b1 U5)
   have ma:=aa (BR.keep b1 WI)
   have js:=aa (BH.keep b1 WN)
   have Hs:=aa (BS.keep b1 Y4)
   have F3:=aa (fZ BP (.slice s1 o1 j1) (.slice s2 o2 j2))
   have am:=aa (bel.trans (b1.mono (Nat.le_of_lt Q0)))
   have d0:=BP.cell 0
   have d1:=BP.cell 1
   have df:=BP.free 0
   have dg:=BP.free 1
   have dl:=BP.lt
   clear gr b1 U1 U2 IN
   go_upto_region 43 with fail
   clear x0 x1 x2 x3 x4 xl y0 y1 y2 y3 yl u0 u1 u2 u3 u4 rl f0 f1 f2 f3 f4
   clear d0 d1 df dg dl BX BY BR BH BS BP bel
   have BX:=ib.out
   have BY:=lV.out
   have BR:=ma.out
   have BH:=js.out
   have BS:=Hs.out
   have BP:=F3.out
   have bel:=am.out
   have U1:=U3.out
   have U2:=U4.out
   have IN:=EY.out
   clear ib lV ma js Hs F3 am U3 U4 EY
   generalize World.setCell (World.setCell wc _ _) _ _=wd at*
   obtain⟨x0,x1,x2,x3,x4,xl⟩:=BX.five
   obtain⟨y0,y1,y2,y3,yl⟩:=BY.four
   obtain⟨u0,u1,u2,u3,u4,rl⟩:=BR.five
   obtain⟨f0,f1,f2,f3,f4⟩:=BR.frees
   by_cases hz:E4≠0
   .have hd:(E4 != 0)=true:=by simpa using hz
    clear BS BP
    have oK:HE=E4:=Pm.out
    have tE:=rC (by rw[oK];exact hz)
    subst tE
    subst oK
    go_wp2_with fail
    go_at_call 48
    refine(kE _ _).mono ?_
    rintro e wB ⟨rfl,b⟩
    clear x0 x1 x2 x3 x4 xl y0 y1 y2 y3 yl u0 u1 u2 u3 u4 rl f0 f1 f2 f3 f4
    replace BX:=BX.keep b BX.lt
    replace BY:=BY.keep b BY.lt
    replace BR:=BR.keep b BR.lt
    replace bel:=ac bel b
    clear b
    obtain⟨x0,x1,x2,x3,x4,xl⟩:=BX.five
    obtain⟨y0,y1,y2,y3,yl⟩:=BY.four
    obtain⟨u0,u1,u2,u3,u4,rl⟩:=BR.five
    obtain⟨f0,f1,f2,f3,f4⟩:=BR.frees
    have aq:=dP bel ip (.slice none 0 0) (.slice none 0 0) (.slice none 0 0) (.bool false) (.slice none 0 0)
    have B9:=fA BR (.slice none 0 0) (.slice none 0 0) (.slice none 0 0) (.bool false) (.slice none 0 0)
    obtain⟨i0,i1,i2,i3,i4,il⟩:=B9.five
    clear B9 il
    replace BR:=aa BR
    replace bel:=aa bel
    go_wp2_with fail
    exact bodyPost_ret (v:=.tuple #[.agg #[.slice none 0 0,.slice none 0 0,.slice none 0 0,.bool false,.slice none 0 0],.int .i64 _]) (by simp[results,Tryz.results16,go_sem,i0,i1,i2,i3,i4]) rfl ⟨ti,rfl,dE.nil _,ab.none _ _,(fun _ h=>by cases h),aq⟩
   have gX:E4=0:=Classical.not_not.1 hz
   subst gX
   clear hz
   have l6:=Pm.out
   have Ic:Z=⟨C2,D4,true,R⟩:=by
    rw[hZ.out,Bg ⟨by simp only;omega,by simp only;omega⟩ (dO.out.symm.trans l6)]
    simp only
    rw[<-hr.out,<-sK.out,<-k'.out,<-Pv.out]
   subst Ic
   subst l6
   have n0:=BS.cell 0
   have nl:=BS.lt
   obtain⟨d0,d1,dl⟩:=BP.c2
   obtain⟨v0,v1,v2,v3,v4⟩:=BX.frees
   have k4:¬w.heap.size=gP:=by omega
   have lL:¬gP=w.heap.size:=by omega
   have kK:¬w.heap.size=gS:=by omega
   have iF:¬gS=w.heap.size:=by omega
   have WU:az C2=0:=by rw[sK.out];exact gV kG.out.symm
   have I8:dE wd ⟨aN,dn,GN,s1,o1,j1,s2,o2,j2,some ⟨hC,0,none⟩,3,G⟩ ⟨C2,D4,true,R⟩:=
    ⟨ck.out,km.out,rT.out,r5.out.symm,IN.is,U1,U2,ru BH Az.out MX pT⟩
   have g3:=aa (al (al (al (au wd (some w.heap.size)) 0 (.slice aN dn GN)) 1 (.slice s1 o1 j1)) 2 (.slice s2 o2 j2))
   have J8:=aa (I8.boxW WU BX g3.out)
   have JP:=aa (ab.boxW IN WU BX g3.out)
   have Kg:=((BX.set 0 (.slice aN dn GN)).set 1 (.slice s1 o1 j1)).set 2 (.slice s2 o2 j2)
   simp only[List.set_cons_succ,List.set_cons_zero] at Kg
   replace Kg:=aa Kg
   have b3:=((Below.refl w.heap.size wd).setCell (p:=⟨w.heap.size,0,none⟩) (Nat.le_refl _) (.slice aN dn GN)).setCell (p:=⟨w.heap.size,1,none⟩) (Nat.le_refl _) (.slice s1 o1 j1)
   have b4:=b3.setCell (p:=⟨w.heap.size,2,none⟩) (Nat.le_refl _) (.slice s2 o2 j2)
   have aC:=aa (bel.trans b4)
   have Lu:=aa (((BR.other (g':=w.heap.size) 0 (.slice aN dn GN) Pj).other (g':=w.heap.size) 1 (.slice s1 o1 j1) Pj).other (g':=w.heap.size) 2 (.slice s2 o2 j2) Pj)
   clear b3 b4 I8 BS BP IN U1 U2
   replace BX:=aa BX
   replace BY:=aa BY
   replace BR:=aa BR
   replace BH:=aa BH
   replace bel:=aa bel
   go_wp2_with fail
   go_region
   clear n0 nl d0 d1 dl v0 v1 v2 v3 v4
   clear x0 x1 x2 x3 x4 xl y0 y1 y2 y3 yl u0 u1 u2 u3 u4 rl f0 f1 f2 f3 f4
   clear BX BY BR BH bel
   generalize World.setCell (World.setCell (World.setCell wd _ _) _ _) _ _=we at*
   have bd:Below we.heap.size we we.drew:=ak (Below.refl _ _)
   have BX:=Kg.out.keep bd Kg.out.lt
   have BR:=Lu.out.keep bd Lu.out.lt
   have J9:=J8.out.call bd
   have g5:=JP.out.call bd
   have bel:=ac aC.out bd
   clear Kg Lu J8 JP aC bd
   generalize we.drew=wf at*
   obtain⟨x0,x1,x2,x3,x4,xl⟩:=BX.five
   obtain⟨u0,u1,u2,u3,u4,rl⟩:=BR.five
   obtain⟨f0,f1,f2,f3,f4⟩:=BR.frees
   have I9:=(J9).boxW (WU) BR (pz (w:=wf) (g:=gR) (.slice aN dn GN) (.slice s1 o1 j1) (.slice s2 o2 j2) (.bool true) (.slice (some ⟨hC,0,none⟩) 3 G))
   have B9:=fA BR (.slice aN dn GN) (.slice s1 o1 j1) (.slice s2 o2 j2) (.bool true) (.slice (some ⟨hC,0,none⟩) 3 G)
   have aq:=dP bel ip (.slice aN dn GN) (.slice s1 o1 j1) (.slice s2 o2 j2) (.bool true) (.slice (some ⟨hC,0,none⟩) 3 G)
   have P9:=aa (ab.boxW (g5) (WU) BR (pz (w:=wf) (g:=gR) (.slice aN dn GN) (.slice s1 o1 j1) (.slice s2 o2 j2) (.bool true) (.slice (some ⟨hC,0,none⟩) 3 G)))
   obtain⟨i0,i1,i2,i3,i4,il⟩:=B9.five
   clear B9 il
   replace I9:=aa I9
   replace BR:=aa BR
   replace bel:=aa bel
   go_wp2_with fail
   exact bodyPost_ret (v:=.tuple #[.agg #[.slice aN dn GN,.slice s1 o1 j1,.slice s2 o2 j2,.bool true,.slice (some ⟨hC,0,none⟩) 3 G],.int .i64 0]) (by simp[results,Tryz.results16,go_sem,i0,i1,i2,i3,i4]) rfl ⟨⟨aN,dn,GN,s1,o1,j1,s2,o2,j2,(some ⟨hC,0,none⟩),3,G⟩,rfl,I9.out,P9.out,(fun ad h=>by cases h;exact UE),aq⟩
 have cI:=fun V=>bG K 1 9 V
 rw[decide_eq_false hk] at cI
 go_at_call 36
 refine(cI _).mono ?_
 rintro e w2 ⟨rfl,rfl⟩
 clear cI
 have oK:HE=4:=VA hk
 have tE:=rC (by rw[oK];decide)
 subst tE
 subst oK
 go_wp2_with fail
 go_at_call 48
 refine(kE _ _).mono ?_
 rintro e wB ⟨rfl,b⟩
 clear x0 x1 x2 x3 x4 xl y0 y1 y2 y3 yl u0 u1 u2 u3 u4 rl f0 f1 f2 f3 f4
 replace BX:=BX.keep b BX.lt
 replace BY:=BY.keep b BY.lt
 replace BR:=BR.keep b BR.lt
 replace bel:=ac bel b
 clear b
 obtain⟨x0,x1,x2,x3,x4,xl⟩:=BX.five
 obtain⟨y0,y1,y2,y3,yl⟩:=BY.four
 obtain⟨u0,u1,u2,u3,u4,rl⟩:=BR.five
 obtain⟨f0,f1,f2,f3,f4⟩:=BR.frees
 have aq:=dP bel ip (.slice none 0 0) (.slice none 0 0) (.slice none 0 0) (.bool false) (.slice none 0 0)
 have B9:=fA BR (.slice none 0 0) (.slice none 0 0) (.slice none 0 0) (.bool false) (.slice none 0 0)
 obtain⟨i0,i1,i2,i3,i4,il⟩:=B9.five
 clear B9 il
 replace BR:=aa BR
 replace bel:=aa bel
 go_wp2_with fail
 exact bodyPost_ret (v:=.tuple #[.agg #[.slice none 0 0,.slice none 0 0,.slice none 0 0,.bool false,.slice none 0 0],.int .i64 _]) (by simp[results,Tryz.results16,go_sem,i0,i1,i2,i3,i4]) rfl ⟨ti,rfl,dE.nil _,ab.none _ _,(fun _ h=>by cases h),aq⟩
def aM (e:TypeId)(w:World)(v:Value)(O:List Int):Prop:=
 (v=.slice none 0 0/\O=[])\/∃(g G:Nat) (ys:List Int),v=.slice (some ⟨g,0,none⟩) O.length G/\ag w g (ys.map (Value.int .i64)) e/\ys.length=G/\O.length<=G/\ys.take O.length=O/\G<=9223372036854775807
theorem aM.keep {e:TypeId}{w w':World}{v:Value}{O:List Int}{B:Nat}(h:aM e w v O)(hb:Below B w w')(hB:w.heap.size<=B):aM e w' v O:=by
 rcases h with h| ⟨g,G,ys,h1,h2,h3⟩
 .exact .inl h
 exact .inr ⟨g,G,ys,h1,h2.keep hb (Nat.lt_of_lt_of_le h2.lt hB),h3⟩
theorem bF {i:TypeInfo}(hz:i.zero=some (.int .i64 0))(n:Nat):(Builtin.zeroCells (Value.int .i64 0).cells n).toList=(List.replicate n (0:Int)).map (Value.int .i64):=by
 apply List.ext_getElem?
 intro j
 simp only[Builtin.zeroCells,Array.toList_map,List.getElem?_map,Array.getElem?_toList]
 have hc:(Value.int .i64 0).cells=#[.int .i64 0]:=rfl
 rw[hc]
 by_cases hj:j<n
 .rw[Array.getElem?_eq_getElem (by simpa using hj),List.getElem?_replicate,if_pos hj]
  simp[Nat.mod_one]
 rw[Array.getElem?_eq_none (by simpa using Nat.le_of_not_lt hj),List.getElem?_replicate,if_neg hj]
 rfl
theorem ah {P:Program}(w0:World){ops:Array Oper}{rest:List Oper}{o:Oper}{a:Act}{Q:Exit->Act->World->Prop}(vt:o.guard=none)(s x:Operand)(t:TypeId)
  (ho:o.op=.call {callee:=.builtin .append,args:=#[s,x],argTypes:=#[t,t]})
  (e:TypeId) (i:TypeInfo) (ht:P.underlying t=some (.slice e)) (hi:P.info? e=some i) (hz:i.zero=some (.int .i64 0)) (dZ:i.size=1) (Pg:i.bytes=8)
  (v:Value) (O:List Int) (hs:a.eval s=v) (K:aM e w0 v O) (f:Int) (te:TypeId) (hx:a.eval x=.slice (some ⟨w0.heap.size,0,none⟩) 1 1) (few:O.length<=1000)
  (h:∀v' w',aM e w' v' (O++[f])->w0.grownBy w' v.ownBlock->(∀g,v'.ownBlock=some g->v.ownBlock=some g\/w0.heap.size<=g)->wpList P ops Q rest (a.put o.dst v') w'):wpList P ops Q (o::rest) a (w0.alloc (.cells #[.int .i64 f] te)):=by
 obtain⟨w,hw⟩:∃w,w=w0.alloc (.cells #[.int .i64 f] te):=⟨_,rfl⟩
 have mb:∀j u,[Value.int .i64 f][j]? =some u->w.cell? ((⟨w0.heap.size,0,none⟩:Addr).add j)=some u:=by
  intro j u hu
  rw[hw,Addr.add_lit,Nat.zero_add,World.cell?_alloc_at (hn:=rfl)]
  simpa using hu
 have dW:w.heap.size=w0.heap.size+1:=by rw[hw];simp
 have hold:∀k,k<w0.heap.size->w.heap[k]? =w0.heap[k]? :=fun k hk=>by rw[hw];exact heap_alloc_old w0 _ hk
 have cg:w.os=w0.os/\w.tape=w0.tape/\w.output=w0.output:=by rw[hw];exact⟨rfl,rfl,rfl⟩
 rw[<-hw]
 have l1:([Value.int .i64 f]:List Value).length=1*i.size:=by rw[dZ];rfl
 refine wpList_plain vt fun K' hK=>?_
 have new:∀(olds:List Int) (cap:Nat),olds.length+1<=cap->cap<=maxLen->∀w',w'=w.drew.alloc (.cells ((olds.map (Value.int .i64)).toArray++#[.int .i64 f]++Builtin.zeroCells (Value.int .i64 0).cells (cap-(olds.length+1))) e)->
   aM e w' (.slice (some ⟨w.heap.size,0,none⟩) (olds++[f]).length cap) (olds++[f])/\w0.grownBy w' none:=by
  intro olds cap hc tj w' e'
  subst e'
  refine⟨.inr ⟨w.heap.size,cap,olds++[f]++List.replicate (cap-(olds.length+1)) 0,rfl,?_,?_,?_,?_,by unfold maxLen at tj;omega⟩,⟨cg.1,cg.2.1,cg.2.2,?_,fun k hk _=>?_⟩⟩
  .unfold ag
   have hn:=heap_alloc_new w.drew (.cells ((olds.map (Value.int .i64)).toArray++#[.int .i64 f]++Builtin.zeroCells (Value.int .i64 0).cells (cap-(olds.length+1))) e)
   rw[show w.drew.heap.size=w.heap.size from rfl] at hn
   rw[hn]
   congr 2
   apply Array.toList_inj.1
   simp[bF hz]
  .simp only[List.length_append,List.length_cons,List.length_nil,List.length_replicate]
   omega
  .rw[List.length_append]
   simpa using hc
  .rw[List.take_append_of_le_length (Nat.le_refl _),List.take_length]
  .simp
   omega
  rw[heap_alloc_old w.drew _ (by show k<w.heap.size;omega)]
  exact hold k hk
 rcases K with⟨rfl,rfl⟩| ⟨g,G,ys,rfl,B,hG,f9,sJ,pT⟩
 .have j5:=run_append_nil (P:=P) w t o.type e i (.int .i64 0) ht hi hz ⟨w0.heap.size,0,none⟩ 1 1 [.int .i64 f] l1 mb (by decide) (by decide) (by rw[Pg];decide)
  have P4:=grownCap_ge w 1 0 e
  unfold Oper.wp
  simp only[execOp,ho,resolve,invoke,builtin,Sem.run_bind,Sem.run_pure,Result.andThen_ok,List.map_toArray,List.map_cons,List.map_nil,hs,hx,j5]
  obtain⟨n1,n2⟩:=new [] (grownCap w 1 0 e) P4 (grownCap_le_maxLen w 1 0 e (by decide)) _ rfl
  exact hK _ _ (h _ _ n1 ⟨n2.os,n2.tape,n2.output,n2.size,fun k hk _=>n2.block k hk (by simp)⟩ (fun g hg=>.inr (by
   have:g=w.heap.size:=(Option.some.inj hg).symm
   omega)))
 have lt:=B.lt
 have hB:w.heap[g]? =some (.cells (ys.map (Value.int .i64)).toArray e (0,0)):=(hold g lt).trans B
 by_cases hr:O.length+1<=G
 .have j5:=run_append_room (P:=P) w t o.type e i ht hi g O.length G _ hB ⟨w0.heap.size,0,none⟩ 1 1 [.int .i64 f] l1 mb (by intro u hu;simp at hu;subst hu;rfl) hr (by rw[dZ];simp;omega)
  unfold Oper.wp
  simp only[execOp,ho,resolve,invoke,builtin,Sem.run_bind,Sem.run_pure,Result.andThen_ok,List.map_toArray,List.map_cons,List.map_nil,hs,hx,j5]
  refine hK _ _ (h _ _ (.inr ⟨g,G,ys.take O.length++[f]++ys.drop (O.length+1),by rw[List.length_append];rfl,?_,?_,by rw[List.length_append];exact hr,?_,pT⟩) ⟨cg.1,cg.2.1,cg.2.2,by simp;omega,fun k hk aF=>?_⟩ (fun g' hg=>.inl hg))
  .unfold ag
   rw[setRow_heap w g _ _ e (0,0) hB]
   congr 2
   apply Array.toList_inj.1
   simp[dZ,List.map_take,List.map_drop]
  .simp only[List.length_append,List.length_take,List.length_drop,List.length_cons,List.length_nil]
   omega
  .rw[List.take_append_of_le_length (by simp only[List.length_append,List.length_take,List.length_cons,List.length_nil];omega),sJ,List.take_length]
  rw[setRow_other w g k _ (fun e'=>aF (by rw[e'];rfl))]
  exact hold k hk
 have kD:O.length=G:=by omega
 have j5:=run_append_grow (P:=P) w t o.type e i (.int .i64 0) ht hi hz ⟨g,0,none⟩ O.length G (O.map (Value.int .i64)) (by rw[dZ];simp)
  (by
   intro j u hu
   rw[Addr.add_lit,Nat.zero_add,cell_of_row w g j _ e (0,0) hB]
   rw[<-sJ] at hu
   simp only[List.map_take,List.getElem?_take] at hu
   split at hu
   .simpa using hu
   cases hu)
  ⟨w0.heap.size,0,none⟩ 1 1 [.int .i64 f] l1 mb (by omega) (by omega) (growslice_fits (by omega) (by rw[Pg];omega))
 have P4:=grownCap_ge w (O.length+1) G e
 unfold Oper.wp
 simp only[execOp,ho,resolve,invoke,builtin,Sem.run_bind,Sem.run_pure,Result.andThen_ok,List.map_toArray,List.map_cons,List.map_nil,hs,hx,j5]
 obtain⟨n1,n2⟩:=new O (grownCap w (O.length+1) G e) P4 (grownCap_le_maxLen w (O.length+1) G e (by unfold maxLen;omega)) _ rfl
 rw[List.length_append] at n1
 exact hK _ _ (h _ _ n1 ⟨n2.os,n2.tape,n2.output,n2.size,fun k hk _=>n2.block k hk (by simp)⟩ (fun g' hg=>.inr (by
  have:g'=w.heap.size:=(Option.some.inj hg).symm
  omega)))
end Go.Proofs.YtoonnbhoiocoeaaGreatDoor
