/-
  Entries of a batch, one more; the tail of a list. No program is named.
-/
import Derived.Test.YtoonnbhoiocoeaaGreatDoorRows
import Derived.Test.YtoonnbhoiocoeaaGreatDoorCards
import Derived.Test.YtoonnbhoiocoeaaGreatDoorTie
import Derived.ProofKit
import Derived.ChangeMaps5
import Derived.LaidMore
import Derived.Stop.Joined
import Derived.SevenTiedAt
import Derived.Test.YtoonnbhoiocoeaaGreatDoorP10
import Derived.Test.YtoonnbhoiocoeaaGreatDoorP01
import Derived.Test.YtoonnbhoiocoeaaGreatDoorP39
import Derived.Test.YtoonnbhoiocoeaaGreatDoorP29
import Derived.Test.YtoonnbhoiocoeaaGreatDoorP20
import Derived.Test.YtoonnbhoiocoeaaGreatDoorP24
import Derived.Test.YtoonnbhoiocoeaaGreatDoorP28
set_option maxHeartbeats 40000000
set_option maxRecDepth 100000
set_option linter.unusedVariables false
namespace Go.Proofs.YtoonnbhoiocoeaaGreatDoor
open Go.RowKit
theorem wm {s:Int}{l:List Nt}{j:Nat}{x:Nt}(h:l[j]? =some x):ee s (jd (l.take (j+1)))=ee s (jd (l.take j))++(if x.1=s then [(x.2.1,x.2.2)] else []):=by
 rw[List.take_add_one,h]
 unfold ee jd
 rw[List.map_append,List.filter_append,List.map_append]
 congr 1
 by_cases hx:x.1=s
 .simp[LN,hx]
 .simp[LN,hx]
theorem tails {A N:List Pt}{m nA nn:Nat}(hm:m<=A.length)(YC:nA=A.length)(e1:N=A.drop m)(Ez:nn=N.length)(few:nA<=10*60):
  m<=nA/\(¬(nA:Int)<(nn:Int))/\(nA:Int)-(nn:Int)=(m:Int)/\wrap64 (m:Int)=(m:Int)/\IntKind.i64.wrap ((nA:Int)-(nn:Int))=(m:Int)/\(A.drop m).length=nA-m/\nn=nA-m/\nn<=4611686018427387904/\nA-m<=4611686018427387904:=by
 have h1:(A.drop m).length=nA-m:=by rw[List.length_drop,YC]
 have h2:nn=nA-m:=by rw[Ez,e1,h1]
 refine⟨by omega,by omega,by omega,by unfold wrap64;omega,by rw[IntKind.wrap_i64];omega,h1,h2,by omega,by omega⟩
end Go.Proofs.YtoonnbhoiocoeaaGreatDoor
namespace Go.Proofs.YtoonnbhoiocoeaaGreatDoor
open Go.RowKit
open Go.Lib (byteCells)
theorem MQ:(Tryz.prog.info? 56).map (fun i=>(i.zero,i.size,i.bytes))=some (some (.agg #[.int .i64 0,.int .i64 0]),2,16):=by kernel_rfl
theorem Ev {z:Wd}(J:JW z){M s:Nat}(hM:lI z=M+1)(hs:s<4):∃r,(ax z.d)[M]? =some r/\r.e.length<=10/\
  ∃m,m<=(je z M s++ee s (jd r.e)).length/\je z (M+1:Nat) s=(je z M s++ee s (jd r.e)).drop m/\(r.k≠4->m=0):=by
 have az:M<(ax z.d).length:=by unfold lI at hM;omega
 have hr:=List.getElem?_eq_getElem az
 obtain⟨h4,m,hm,e,h0⟩:=K1 (r:=(ax z.d)[M]) J hr hs
 refine⟨_,hr,?_,m,hm,e,h0⟩
 have kw:(ax z.d).length<=60:=(kQ (dQ J.1).1).2.2.1
 have hz:(aG dg (ax z.d)).2=0:=by have:=J.2;unfold bP at this;rw[if_neg (by omega)] at this;exact this
 obtain⟨x1,x2⟩:=ww hz hr
 obtain⟨_,Tr,_,_⟩:=pF x1
 exact yh Tr
theorem Tm {x:Wd}{p:Pw}{w:World}{L:List Pt}(v s:Nat)(J:JW x)(hv:v<=lI x)(hs:s<4)(hL:L=je x v s)(hg:Gl w)(I:ej w p x):
  Calls Tryz.prog 26 #[p.val x.up,.int .i64 (v:Int),.int .i64 (s:Int)] w fun e w'=>∃a n G,e=.returned (.tuple #[.slice a n G,.int .i64 0])/\Hid (n=L.length)/\w'.ownsRow w.heap.size 56 2 (.slice a n G) n (am L)/\Below w.heap.size w w':=by
 subst hL
 have c:=p6 x p v s w hg I (sX I J.1).1 (sX I J.1).2
 rw[(GV J hv hs).1] at c
 exact c
theorem OG {x:Wd}{p:Pw}{w:World}(J:JW x)(hg:Gl w)(I:ej w p x):
  Calls Tryz.prog 31 #[.agg #[.slice p.a1 p.n1 p.c1,.slice p.a2 p.n2 p.c2]] w fun e w'=>∃(f1 f2:Option Addr) (m1 k1 m2 k2:Nat) (la:Option Addr) (n c:Nat) (l:List bF),e=.returned (.tuple #[.agg #[.slice f1 m1 k1,.slice f2 m2 k2],.slice la n c,.int .i64 0])/\Hid (n=l.length)/\n=lI x/\Hid (l.map (·.r)=ax x.d)/\dI w' la c l/\Below w.heap.size w w':=by
 obtain⟨r1,_,_,_,_,_⟩:=dQ J.1
 have c:=i6 x.d p.a1 p.a2 p.c1 p.c2 p.n1 p.n2 w hg I.s1 I.s2 I.e1 I.e2 (sX I J.1).1
 rw[r1] at c
 refine c.mono ?_
 rintro e w' ⟨p1,p2,la,q1,q2,q3,q4,ln,lG,l,rfl,kY,kW,T3,T4,LR,iQ,b0⟩
 exact⟨p1,p2,q1,q3,q2,q4,la,ln,lG,l,rfl,hide LR.len,by rw[LR.len,<-List.length_map (f:=fun q:bF=>q.r),iQ];rfl,hide iQ,LR.sl,b0⟩
theorem PD (b1 s:Nat)(hs:s<4)(W0:World)(hg:Gl W0)(z:Wd)(p:Pw)(V:World)(Jz:JW z)(bel:Below W0.heap.size W0 V)(I:ej V p z)(B1:ac V b1 [.int .i64 (s:Int)] 3):
  Calls Tryz.prog 30 #[p.val z.up,.pointer (some ⟨b1,0,none⟩)] V fun e V'=>e=.returned (.bool true)/\Below V.heap.size V V':=by
 have cV:=fun W g i=>Fb (x:=z) (p:=p) (w:=W) Jz g i
 have cA:=fun(v:Nat) L hv hL W g i=>Tm (x:=z) (p:=p) (w:=W) (L:=L) v s Jz hv hs hL g i
 have cQ:=fun W g i=>OG (x:=z) (p:=p) (w:=W) Jz g i
 have wT:=fun v=>Fa z v s
 obtain⟨m,hm⟩:∃m,m=lI z:=⟨_,rfl⟩
 have hR:=fun M h=>Ev (M:=M) Jz h hs
 rw[<-hm] at cV hR cA cQ
 have ZY:m<=60:=by rw[hm];exact sQ z.d
 replace hm:=hide hm
 obtain⟨U,hU⟩:∃U,U=z.up:=⟨_,rfl⟩
 rw[<-hU] at cV cA⊢
 replace hU:=hide hU
 obtain⟨sa,sn,sG,a1,n1,c1,a2,n2,c2,ra,rn,rc⟩:=p
 simp only[Pw.val] at*
 have BX:=ac.laid V [.slice sa sn sG,.slice a1 n1 c1,.slice a2 n2 c2,.bool U,.slice ra rn rc] 30 _ rfl
 have bl:=newB (Below.refl V.heap.size V) (.cells #[.slice sa sn sG,.slice a1 n1 c1,.slice a2 n2 c2,.bool U,.slice ra rn rc] 30)
 replace B1:=B1.keep bl B1.lt
 replace I:=I.call bl
 clear Jz
 cases m with
 |zero=>
  clear cA wT hR
  go_enter Tryz.func30,Tryz.ntmps30
  go_upto_region 1 with fail
  generalize World.alloc V _=w1 at*
  have x0:=BX.cell 0
  have x1:=BX.cell 1
  have x2:=BX.cell 2
  have x3:=BX.cell 3
  have x4:=BX.cell 4
  have xl:=BX.lt
  have y0:=B1.cell 0
  have yl:=B1.lt
  go_wp2_with fail
  go_at_call 31
  refine(cQ _ (hg.call (aa bel bl)) I).mono ?_
  rintro e w2 ⟨f1,f2,m1,k1,m2,k2,la,ln,lG,l,rfl,dK,DI,iQ,LS,b0⟩
  obtain rfl:ln=0:=DI
  have b:=newB b0 (.cells #[.slice f1 m1 k1,.slice f2 m2 k2] 27)
  replace LS:=LS.call (newB (Below.refl w2.heap.size w2) (.cells #[.slice f1 m1 k1,.slice f2 m2 k2] 27))
  clear b0 cQ
  clear x0 x1 x2 x3 x4 xl y0 yl
  replace BX:=BX.keep b BX.lt
  replace B1:=B1.keep b B1.lt
  replace I:=I.call b
  replace bl:=aa bl b
  clear b
  have x0:=BX.cell 0
  have x1:=BX.cell 1
  have x2:=BX.cell 2
  have x3:=BX.cell 3
  have x4:=BX.cell 4
  have xl:=BX.lt
  have y0:=B1.cell 0
  have yl:=B1.lt
  go_upto_region 2 with fail
  generalize World.alloc w2 _=w3 at*
  go_wp2_with fail
  go_at_call 25
  refine(cV _ (hg.call (aa bel bl)) I).mono ?_
  rintro e w4 ⟨rfl,b⟩
  clear x0 x1 x2 x3 x4 xl y0 yl
  replace BX:=BX.keep b BX.lt
  replace B1:=B1.keep b B1.lt
  replace I:=I.call b
  replace LS:=LS.call b
  replace bl:=aa bl b
  clear b
  have x0:=BX.cell 0
  have x1:=BX.cell 1
  have x2:=BX.cell 2
  have x3:=BX.cell 3
  have x4:=BX.cell 4
  have xl:=BX.lt
  have y0:=B1.cell 0
  have yl:=B1.lt
  go_wp2_with fail
  go_ret
  exact⟨rfl,bl⟩
 |succ M=>
  obtain⟨r,hr,Qi,k,hk,hB,vI⟩:=hR M rfl
  have cB:=cA (M+1) _ (Nat.le_refl _) rfl
  have cM:=cA M _ (Nat.le_succ _) rfl
  have Vr:=wT ((M:Nat):Int)
  have Ry:=wT ((M+1:Nat):Int)
  rw[hB] at Ry
  generalize Zv:je z (M+1:Nat) s=B at*
  generalize je z M s=A at*
  replace hB:=hide hB
  clear cA wT hR Zv
  have Vi:M<=60:=by omega
  have ZE:(M:Int)<=60:=by omega
  go_enter Tryz.func30,Tryz.ntmps30
  go_upto_region 1 with fail
  generalize World.alloc V _=w1 at*
  have x0:=BX.cell 0
  have x1:=BX.cell 1
  have x2:=BX.cell 2
  have x3:=BX.cell 3
  have x4:=BX.cell 4
  have xl:=BX.lt
  have y0:=B1.cell 0
  have yl:=B1.lt
  go_wp2_with fail
  go_at_call 31
  refine(cQ _ (hg.call (aa bel bl)) I).mono ?_
  rintro e w2 ⟨f1,f2,m1,k1,m2,k2,la,ln,lG,l,rfl,dK,DI,iQ,LS,b0⟩
  obtain rfl:ln=M+1:=DI
  have b:=newB b0 (.cells #[.slice f1 m1 k1,.slice f2 m2 k2] 27)
  replace LS:=LS.call (newB (Below.refl w2.heap.size w2) (.cells #[.slice f1 m1 k1,.slice f2 m2 k2] 27))
  clear b0 cQ
  clear x0 x1 x2 x3 x4 xl y0 yl
  replace BX:=BX.keep b BX.lt
  replace B1:=B1.keep b B1.lt
  replace I:=I.call b
  replace bl:=aa bl b
  clear b
  have x0:=BX.cell 0
  have x1:=BX.cell 1
  have x2:=BX.cell 2
  have x3:=BX.cell 3
  have x4:=BX.cell 4
  have xl:=BX.lt
  have y0:=B1.cell 0
  have yl:=B1.lt
  go_upto_region 2 with fail
  generalize World.alloc w2 _=w3 at*
  go_wp2_with fail
  go_at_call 25
  refine(cV _ (hg.call (aa bel bl)) I).mono ?_
  rintro e w4 ⟨rfl,b⟩
  clear x0 x1 x2 x3 x4 xl y0 yl
  replace BX:=BX.keep b BX.lt
  replace B1:=B1.keep b B1.lt
  replace I:=I.call b
  replace LS:=LS.call b
  replace bl:=aa bl b
  clear b
  have x0:=BX.cell 0
  have x1:=BX.cell 1
  have x2:=BX.cell 2
  have x3:=BX.cell 3
  have x4:=BX.cell 4
  have xl:=BX.lt
  have y0:=B1.cell 0
  have yl:=B1.lt
  obtain⟨x,hx⟩:∃x,l[M]? =some x:=⟨_,List.getElem?_eq_getElem (by rw[<-dK.out];exact Nat.lt_succ_self _)⟩
  have Mf:x.r=r:=by
   have h:=congrArg (·[M]?) iQ.out
   simp only[List.getElem?_map,hx,hr,Option.map_some,Option.some.injEq] at h
   exact h
  have jk:=LS.ent x (List.mem_of_getElem? hx)
  obtain⟨lb,lo,rfl,yA⟩:=LS.row.where bF.four (by decide) (by intro h;rw[h] at hx;simp at hx)
  have q0:=LS.row.cell bF.four M 0 x _ hx rfl
  have q1:=LS.row.cell bF.four M 1 x _ hx rfl
  have q2:=LS.row.cell bF.four M 2 x _ hx rfl
  have q3:=LS.row.cell bF.four M 3 x _ hx rfl
  simp only[Nat.add_zero] at q0
  obtain⟨⟨K,S',N',es⟩,xa,xc⟩:=x
  simp only at Mf q0 q1 q2 q3 jk
  subst Mf
  simp only at hk hB vI Qi Ry
  obtain⟨q,hq⟩:∃q,q=es.length:=⟨_,rfl⟩
  rw[<-hq] at q3 Qi
  replace hq:=hide hq
  have YA:¬((M:Int)+1=0):=by omega
  have hMb:(((M:Int)+1)==0)=false:=by simpa using YA
  have bR:=newB (Below.refl w4.heap.size w4) (.cells #[.int .i64 K,.int .i64 S',.int .i64 N',.slice xa q xc] 73)
  have BR:=ac.laid w4 [.int .i64 K,.int .i64 S',.int .i64 N',.slice xa q xc] 73 _ rfl
  clear hx hr
  go_upto_region 8 with fail
  clear x0 x1 x2 x3 x4 xl y0 yl
  replace BX:=BX.keep bR BX.lt
  replace B1:=B1.keep bR B1.lt
  replace I:=I.call bR
  replace jk:=jk.keep bR (Nat.le_refl _)
  replace bl:=aa bl bR
  clear q0 q1 q2 q3 bR yA LS dK iQ
  generalize w4.heap.size=gR at*
  generalize World.alloc w4 _=w5 at*
  have x0:=BX.cell 0
  have x1:=BX.cell 1
  have x2:=BX.cell 2
  have x3:=BX.cell 3
  have x4:=BX.cell 4
  have xl:=BX.lt
  have y0:=B1.cell 0
  have yl:=B1.lt
  go_wp2_with fail
  go_at_call 26
  refine(cM _ (hg.call (aa bel bl)) I).mono ?_
  rintro e w6 ⟨a3,n3,G3,rfl,fD,o3,b⟩
  have b5:=b
  have h5:=jk
  have vR:=BR
  have Vo:=B1
  have Sq:=bl
  clear x0 x1 x2 x3 x4 xl y0 yl
  replace BX:=BX.keep b BX.lt
  replace B1:=B1.keep b B1.lt
  replace I:=I.call b
  replace bl:=aa bl b
  clear b
  have x0:=BX.cell 0
  have x1:=BX.cell 1
  have x2:=BX.cell 2
  have x3:=BX.cell 3
  have x4:=BX.cell 4
  have xl:=BX.lt
  have y0:=B1.cell 0
  have yl:=B1.lt
  go_wp2_with fail
  go_at_call 26
  refine(cB _ (hg.call (aa bel bl)) I).mono ?_
  rintro e w7 ⟨a4,n4,G4,rfl,Km,o4,b⟩
  have ap:Apart (.slice a4 n4 G4) (.slice a3 n3 G3):=by
   intro g h1 h2
   have h3:=(o4.lt g h1).1
   have h4:=(o3.lt g h2).2
   omega
  have Rq:=b
  have JH:=aa b5 b
  have o4':=xM o4 (show w5.heap.size<=w6.heap.size from b5.size)
  clear x0 x1 x2 x3 x4 xl y0 yl
  replace BX:=BX.keep b BX.lt
  replace B1:=B1.keep b B1.lt
  replace I:=I.call b
  replace bl:=aa bl b
  clear b
  have x0:=BX.cell 0
  have x1:=BX.cell 1
  have x2:=BX.cell 2
  have x3:=BX.cell 3
  have x4:=BX.cell 4
  have xl:=BX.lt
  have y0:=B1.cell 0
  have yl:=B1.lt
  clear x0 x1 x2 x3 x4 xl y0 yl
  have o3':=dt o3 Rq
  clear BX I cV cB cM BR B1 bl o3 o4 jk
  obtain⟨i0,hi,bU,bi,bk⟩:=info_parts MQ
  obtain⟨F,hF⟩:∃F,F=A++ee s (jd es):=⟨_,rfl⟩
  rw[<-hF] at hk Ry
  have Sx:Hid (B=F.drop k):=hide (by rw[hB.out,hF])
  replace hF:=hide hF
  have hAn:n3<=40:=by rw[fD.out];exact Vr
  clear hB Vr
  have yA:=vR.lt
  have YT:b1<w5.heap.size:=Vo.lt
  have Ky:=fun W' (h:Below w5.heap.size w5 W')=>vR.keep h yA
  have WD:=fun W' (h:Below w5.heap.size w5 W')=>Vo.keep h YT
  have y0:=(Ky _ JH).cell 3
  have yl:=(Ky _ JH).lt
  by_cases hK:K=4
  .subst hK
   go_wp2_with fail
   clear y0 yl
   go_loopw [9,77] (fun o i wr=>∃(j nB GB:Nat) (aB:Option Addr) (O:List Pt),j<=q/\i=.int .i64 j/\o=.slice aB nB GB/\nB<=n3+j/\Hid (nB=O.length)/\Hid (O=A++ee s (jd (es.take j)))/\wr.ownsRow w5.heap.size 56 2 (.slice aB nB GB) nB (am O)/\wr.ownsRow w5.heap.size 56 2 (.slice a4 n4 G4) n4 (am B)/\Apart (.slice a4 n4 G4) (.slice aB nB GB)/\Below w5.heap.size w5 wr) (fun _ i _=>q-(intOf i).toNat)
   case atStart=>exact⟨0,n3,G3,a3,A,Nat.zero_le _,rfl,rfl,Nat.le_refl _,fD,by simp[Hid,ee,jd],o3',o4',ap,JH⟩
   case round=>
    clear o3' o4' ap JH Rq b5
    rename World=>wq
    obtain⟨j,nB,GB,aB,O,hj,rfl,rfl,Ye,ut,eO,own,tO,ap,na⟩:=hrel
    by_cases Jp:j<q
    .have HU:j<es.length:=by rw[<-hq.out];exact Jp
     obtain⟨y,hy⟩:∃y,es[j]? =some y:=⟨_,List.getElem?_eq_getElem HU⟩
     obtain⟨eb,eo,rfl,NA⟩:=h5.where bZ (by decide) (by intro h;subst h;simp at HU)
     have T:=h5.keep na (Nat.le_refl _)
     have t0:=T.cell bZ j 0 y _ hy rfl
     have t1:=T.cell bZ j 1 y _ hy rfl
     have t2:=T.cell bZ j 2 y _ hy rfl
     simp only[Nat.add_zero] at t0
     have Tx:=Nat.lt_of_lt_of_le NA na.size
     have st:=wm (s:=(s:Int)) hy
     obtain⟨ys,yt,yv⟩:=y
     simp only at t0 t1 t2 st
     have o2:=own.alloc (.cells #[.int .i64 ys,.int .i64 yt,.int .i64 yv] 75)
     have n2:=tO.alloc (.cells #[.int .i64 ys,.int .i64 yt,.int .i64 yv] 75)
     have al:=newB na (.cells #[.int .i64 ys,.int .i64 yt,.int .i64 yv] 75)
     have BY:=ac.laid wq [.int .i64 ys,.int .i64 yt,.int .i64 yv] 75 _ rfl
     have GW:=WD _ al
     clear hy T own tO HU
     go_upto_region 15 with fail
     generalize wq.heap.size=gY at*
     generalize World.alloc wq _=w8 at*
     have v0:w8.cell? ⟨gY,0,none⟩=some (.int .i64 ys):=BY.cell 0
     have v1:w8.cell? ⟨gY,1,none⟩=some (.int .i64 yt):=BY.cell 1
     have v2:w8.cell? ⟨gY,2,none⟩=some (.int .i64 yv):=BY.cell 2
     have lY:=BY.lt
     have z0:=GW.cell 0
     have zl:=GW.lt
     have sj:=al.size
     clear t0 t1 t2 Tx NA BY GW
     by_cases Fy:ys=s
     .subst Fy
      rw[if_pos rfl] at st
      have uu:Hid (O++[(yt,yv)]=A++ee s (jd (es.take (j+1)))):=by
       rw[st,eO.out,List.append_assoc]
       exact hide rfl
      replace st:=hide st
      go_wp2_with (at_builtin;refine aW w8 rfl (.tmp 85) (.tmp 91) 42 rfl w5.heap.size 56 i0 _ 2 16 Tryz.underlying42 hi bU bi bk rfl (by decide) (.slice aB nB GB) nB _ (by rfl) o2 1 #[.int .i64 yt,.int .i64 yv] 56 (by rfl) (by rfl) (by simp[Value.oneCell']) (by decide) (by unfold maxLen;omega) (by omega) sj ?_)
      intro v9 w9 lH pi Bi
      have n9:=mi n2 pi ap
      have Sj:=ap.went (fun g hg=>(n2.lt g hg).2) Bi
      have aq:=aH al o2 pi (Nat.le_refl _) sj
      rw[show am O++(#[Value.int .i64 yt,.int .i64 yv]:Array Value).toList=am (O++[(yt,yv)]) by rw[cq];rfl] at lH
      obtain⟨a9,G9,rfl,_,_,_⟩:=aI.ofOwn lH
      have L6:Hid (nB+1=(O++[(yt,yv)]).length):=by rw[List.length_append,<-ut.out];exact hide rfl
      go_wp2_with fail
      go_roundw
      case rel=>exact⟨j+1,nB+1,G9,a9,_,by omega,by go_num,rfl,by omega,L6,uu,lH,n9,Sj,aq⟩
      case measure=>simp[intOf];omega
     .rw[if_neg Fy,List.append_nil] at st
      have uu:Hid (O=A++ee s (jd (es.take (j+1)))):=by rw[st];exact eO
      replace st:=hide st
      go_wp2_with fail
      go_roundw
      case rel=>exact⟨j+1,nB,GB,aB,O,by omega,by go_num,rfl,by omega,ut,uu,o2,n2,ap,al⟩
      case measure=>simp[intOf];omega
    .obtain rfl:j=q:=by omega
     have eF:O=F:=by rw[eO.out,hF.out,List.take_of_length_le (by rw[<-hq.out];exact Nat.le_refl _)]
     subst eF
     have T9:=mq own
     have T4:=mq tO
     have r0:=(Ky _ na).cell 0
     have rl:=(Ky _ na).lt
     clear own tO ap eO
     obtain⟨Zp,q1,-,gM,EN,zj,Uo,Y8,Y9⟩:=tails hk ut.out Sx.out Km.out (show nB<=10*60 by omega)
     have SP:=aI.part T9 k nB Zp (by rw[<-ut.out];exact Nat.le_refl _)
     rw[List.take_of_length_le (by rw[<-ut.out];exact Nat.le_refl _)] at SP
     have X4:k<=GB:=Nat.le_trans (by rw[<-ut.out] at hk;exact hk) (by have:=T9.le;rw[<-ut.out] at this;omega)
     have hnG:nB<=GB:=by rw[ut.out];exact T9.le
     have r7:GB<=9223372036854775807:=T9.max
     have ZO:k<=9223372036854775807:=Nat.le_trans X4 r7
     have fF:decide ((n4:Int)<=(nB:Int))=true:=decide_eq_true (by omega)
     have cE:=oG a4 _ G4 _ B (O.drop k) wq T4 SP (by rw[<-Km.out];exact Y8) (by rw[zj];exact Y9)
     rw[decide_eq_true Sx.out,zj,<-Km.out] at cE
     replace Uo:=hide Uo
     replace zj:=hide zj
     replace hk:=hide hk
     by_cases hG:GB=k
     .have Yt:(GB=k)=True:=eq_true hG
      rw[if_pos hG] at cE
      clear hG
      go_wp2_with fail
      go_at_call 21
      refine cE.mono ?_
      rintro e wz ⟨rfl,qz,rfl⟩
      go_wp2_with fail
      go_ret
      exact⟨rfl,aa Sq (bj na qz)⟩
     .have Yt:(GB=k)=False:=eq_false hG
      rw[if_neg hG] at cE
      clear hG
      go_wp2_with fail
      go_at_call 21
      refine cE.mono ?_
      rintro e wz ⟨rfl,qz,rfl⟩
      go_wp2_with fail
      go_ret
      exact⟨rfl,aa Sq (bj na qz)⟩
  .have hKd:(K==4)=false:=beq_eq_false_iff_ne.2 hK
   go_wp2_with fail
   clear y0 yl
   go_loopw [9,77] (fun o i wr=>∃(j nB GB:Nat) (aB:Option Addr) (O:List Pt),j<=q/\i=.int .i64 j/\o=.slice aB nB GB/\nB<=n3+j/\Hid (nB=O.length)/\Hid (O=A++ee s (jd (es.take j)))/\wr.ownsRow w5.heap.size 56 2 (.slice aB nB GB) nB (am O)/\wr.ownsRow w5.heap.size 56 2 (.slice a4 n4 G4) n4 (am B)/\Apart (.slice a4 n4 G4) (.slice aB nB GB)/\Below w5.heap.size w5 wr) (fun _ i _=>q-(intOf i).toNat)
   case atStart=>exact⟨0,n3,G3,a3,A,Nat.zero_le _,rfl,rfl,Nat.le_refl _,fD,by simp[Hid,ee,jd],o3',o4',ap,JH⟩
   case round=>
    clear o3' o4' ap JH Rq b5
    rename World=>wq
    obtain⟨j,nB,GB,aB,O,hj,rfl,rfl,Ye,ut,eO,own,tO,ap,na⟩:=hrel
    by_cases Jp:j<q
    .have HU:j<es.length:=by rw[<-hq.out];exact Jp
     obtain⟨y,hy⟩:∃y,es[j]? =some y:=⟨_,List.getElem?_eq_getElem HU⟩
     obtain⟨eb,eo,rfl,NA⟩:=h5.where bZ (by decide) (by intro h;subst h;simp at HU)
     have T:=h5.keep na (Nat.le_refl _)
     have t0:=T.cell bZ j 0 y _ hy rfl
     have t1:=T.cell bZ j 1 y _ hy rfl
     have t2:=T.cell bZ j 2 y _ hy rfl
     simp only[Nat.add_zero] at t0
     have Tx:=Nat.lt_of_lt_of_le NA na.size
     have st:=wm (s:=(s:Int)) hy
     obtain⟨ys,yt,yv⟩:=y
     simp only at t0 t1 t2 st
     have o2:=own.alloc (.cells #[.int .i64 ys,.int .i64 yt,.int .i64 yv] 75)
     have n2:=tO.alloc (.cells #[.int .i64 ys,.int .i64 yt,.int .i64 yv] 75)
     have al:=newB na (.cells #[.int .i64 ys,.int .i64 yt,.int .i64 yv] 75)
     have BY:=ac.laid wq [.int .i64 ys,.int .i64 yt,.int .i64 yv] 75 _ rfl
     have GW:=WD _ al
     clear hy T own tO HU
     go_upto_region 15 with fail
     generalize wq.heap.size=gY at*
     generalize World.alloc wq _=w8 at*
     have v0:w8.cell? ⟨gY,0,none⟩=some (.int .i64 ys):=BY.cell 0
     have v1:w8.cell? ⟨gY,1,none⟩=some (.int .i64 yt):=BY.cell 1
     have v2:w8.cell? ⟨gY,2,none⟩=some (.int .i64 yv):=BY.cell 2
     have lY:=BY.lt
     have z0:=GW.cell 0
     have zl:=GW.lt
     have sj:=al.size
     clear t0 t1 t2 Tx NA BY GW
     by_cases Fy:ys=s
     .subst Fy
      rw[if_pos rfl] at st
      have uu:Hid (O++[(yt,yv)]=A++ee s (jd (es.take (j+1)))):=by
       rw[st,eO.out,List.append_assoc]
       exact hide rfl
      replace st:=hide st
      go_wp2_with (at_builtin;refine aW w8 rfl (.tmp 85) (.tmp 91) 42 rfl w5.heap.size 56 i0 _ 2 16 Tryz.underlying42 hi bU bi bk rfl (by decide) (.slice aB nB GB) nB _ (by rfl) o2 1 #[.int .i64 yt,.int .i64 yv] 56 (by rfl) (by rfl) (by simp[Value.oneCell']) (by decide) (by unfold maxLen;omega) (by omega) sj ?_)
      intro v9 w9 lH pi Bi
      have n9:=mi n2 pi ap
      have Sj:=ap.went (fun g hg=>(n2.lt g hg).2) Bi
      have aq:=aH al o2 pi (Nat.le_refl _) sj
      rw[show am O++(#[Value.int .i64 yt,.int .i64 yv]:Array Value).toList=am (O++[(yt,yv)]) by rw[cq];rfl] at lH
      obtain⟨a9,G9,rfl,_,_,_⟩:=aI.ofOwn lH
      have L6:Hid (nB+1=(O++[(yt,yv)]).length):=by rw[List.length_append,<-ut.out];exact hide rfl
      go_wp2_with fail
      go_roundw
      case rel=>exact⟨j+1,nB+1,G9,a9,_,by omega,by go_num,rfl,by omega,L6,uu,lH,n9,Sj,aq⟩
      case measure=>simp[intOf];omega
     .rw[if_neg Fy,List.append_nil] at st
      have uu:Hid (O=A++ee s (jd (es.take (j+1)))):=by rw[st];exact eO
      replace st:=hide st
      go_wp2_with fail
      go_roundw
      case rel=>exact⟨j+1,nB,GB,aB,O,by omega,by go_num,rfl,by omega,ut,uu,o2,n2,ap,al⟩
      case measure=>simp[intOf];omega
    .obtain rfl:j=q:=by omega
     have eF:O=F:=by rw[eO.out,hF.out,List.take_of_length_le (by rw[<-hq.out];exact Nat.le_refl _)]
     subst eF
     have T9:=mq own
     have T4:=mq tO
     have r0:=(Ky _ na).cell 0
     have rl:=(Ky _ na).lt
     clear own tO ap eO
     have Yk:B=O:=by rw[Sx.out,vI hK,List.drop_zero]
     subst Yk
     have Ez:n4=nB:=by rw[Km.out,ut.out]
     subst Ez
     go_wp2_with fail
     go_at_call 21
     refine(Nr (by rw[<-Km.out];omega) T4 T9 Km ut).mono ?_
     rintro e wz ⟨rfl,b⟩
     go_wp2_with fail
     go_ret
     exact⟨rfl,aa Sq (aa na b)⟩
end Go.Proofs.YtoonnbhoiocoeaaGreatDoor
namespace Go.Proofs.YtoonnbhoiocoeaaGreatDoor
open Go.RowKit
open Go.Lib (byteCells)
theorem EI (W:World)(hg:Gl W)(l:List bF)(la:Option Addr)(lc ln:Nat)(S:dI W la lc l)(hl:ln=l.length)(s0:Int)(_:(Lit.int .i64 s0).wf=true):
  Calls Tryz.prog 7 #[.slice la ln lc,.int .i64 s0] W fun e w'=>e=.returned (.bool true)/\Below W.heap.size W w':=by
 have h1:=Int.emod_nonneg s0 (show(4:Int)≠0 by omega)
 have h2:=Int.emod_lt_of_pos s0 (show 0<(4:Int) by omega)
 obtain⟨s,oJ⟩:∃s:Nat,s0 % 4=s:=⟨(s0 % 4).toNat,by omega⟩
 have hs:s<4:=by omega
 have cS:=fun V=>Ps s0 4 V (by omega) (by omega)
 rw[oJ] at cS
 clear h1 h2 oJ
 have BS:=ac.laid W [.int .i64 s0] 3 _ rfl
 have bel:=newB (Below.refl W.heap.size W) (.cells #[.int .i64 s0] 3)
 replace hl:=hide hl
 go_enter Tryz.func7,Tryz.ntmps7
 go_upto_region 1 with fail
 generalize World.alloc W _=w1 at*
 have x0:=BS.cell 0
 have f0:=BS.free 0
 have xl:=BS.lt
 have B9:=BS.set 0 (.int .i64 (s:Int))
 simp only[List.set_cons_zero] at B9
 have aq:=bel.setCell (p:=⟨W.heap.size,0,none⟩) (Nat.le_refl _) (.int .i64 (s:Int))
 replace B9:=hide B9
 replace aq:=hide aq
 clear BS bel
 go_wp2_with fail
 go_at_call 28
 refine(cS _).mono ?_
 rintro e w2 ⟨rfl,rfl⟩
 go_upto_region 2 with fail
 clear x0 f0 xl
 have BS:=B9.out
 have bel:=aq.out
 clear B9 aq
 generalize World.setCell w1 _ _=w3 at*
 go_wp2_with fail
 go_at_call 27
 refine(qN _ (hg.call bel)).mono ?_
 rintro e w4 ⟨rfl,b⟩
 replace BS:=BS.keep b BS.lt
 replace bel:=aa bel b
 clear b
 have lS:=BS.lt
 go_wp2_with fail
 go_at_call 29
 refine(sg W.heap.size (fun _=>False) (fun V _=>ac V W.heap.size [.int .i64 (s:Int)] 3) W w4 hg bel l la lc ln S hl.out (fun q h=>h.elim)
  (fun V V' x k dz J8=>k.keep J8 k.lt) (fun V V' x g a1 a2 a3 a4 n1 n2 n3 n4 c1 c2 c3 c4 u k Us BB gr=>(gr.block _ k.lt (fun e=>by have:=Option.some.inj e;omega)).trans k) BS
  (fun x z p V Jx Jz hM bb dz I inv=>(PD W.heap.size s hs W hg z p V Jz bb I inv).mono fun e V' h=>⟨h.1,inv.keep h.2 inv.lt,I.call h.2,Gq.below h.2⟩)).mono ?_
 rintro e w5 ⟨rfl,b⟩
 go_wp2_with fail
 go_ret
 exact⟨rfl,b⟩
end Go.Proofs.YtoonnbhoiocoeaaGreatDoor
namespace Go.Proofs.YtoonnbhoiocoeaaGreatDoor.storyWhole
open Go.ChangeShapes Go.WideShapes Go.ChangeAt Go.RowKit Go.ChangeMaps
def jP:List (String × DataW Unit):=Rows.storyWholeRow.laid
theorem lifted (os:Os)(started:os.Started)(H:Type)(enc:TypeId × Value->H):
  ReturnsInHanded {} Tryz.checked os 7 .any (fun w args=>(Rows.storyWholeSpec.pre enc Tryz.prog Tryz.f7 [] false w args/\laidMetH Tryz.prog jP w)/\sizedMet enc Tryz.prog Tryz.f7 (OpenSpec.ofChange Rows.storyWholeSpec) false w args)
   (Rows.storyWholeSpec.post enc Tryz.prog Tryz.f7 false true false false):=by
 refine nw (C:=Tryz.checked) (X:=fun w _=>laidMetH Tryz.prog jP w) (fun _ _ _ hh h=>h.of_heap hh) own started (by kernel_rfl) Tryz.func7
  (ChangeSpec.witness_shaped (enc:=enc) (C:=Tryz.checked) (os:=os) (X:=fun w _=>laidMetH Tryz.prog jP w) false (World.laidAll Tryz.prog os jP) #[.slice none 0 0,.int .i64 0] 8 (World.laidAll_os _ _ _)
   (World.shaped_of_ZipB (by kernel_rfl) (by kernel_rfl)) (by kernel_rfl) (by kernel_rfl) (by kernel_rfl)
   (by rw[MakeChecks.laidMetH_plain _ _ _ (by kernel_rfl)];exact laidMet_laidAll _ (by kernel_rfl) (by kernel_rfl))) ?_
 intro W base args ds gs before yn hW FC hL ze
 have dz:(DataW.weightsEach Tryz.prog (Tryz.f7.params.toList++Rows.storyWholeSpec.plain.varTypes Tryz.prog) (ds++gs)).all (·<=reachBytes)=true:=FC
 have lf:∀(j:Nat) t v,Tryz.f7.params[j]? =some t->args[j]? =some v->Value.okWide Tryz.prog W .any base t v:=yn
 have Ln:=hW
 obtain⟨p,q,nS,hV,rfl,UR,Wc⟩:=hW
 have hA:DataW.TrodAll enc Tryz.prog W 0 (fun _=>true) true Tryz.f7.params.toList args.toList ds p:=nS
 rw[Tryz.params7] at hA lf dz
 obtain⟨v0,Wb,d0,ds0,p0,q0,hargs,rfl,rfl,h0,r0⟩:=trodAll_cons hA
 obtain⟨v1,W7,d1,Vc,p1,q1,rfl,rfl,rfl,h1,r1⟩:=trodAll_cons r0
 obtain⟨rfl,rfl,rfl⟩:=trodAll_nil r1
 obtain rfl:args=#[v0,v1]:=by cases args;simp_all
 obtain⟨rfl,rfl⟩:=trodVars_none hV
 have k0:=h0
 have M3:∀x∈p0,x.block<W.heap.size:=by obtain⟨m,hm⟩:=k0;exact DataW.trod_lt m _ _ _ hm
 obtain⟨a0,WK,Ul,rfl⟩:=okWide_slice Tryz.underlying59 (lf 0 59 v0 rfl rfl)
 obtain⟨l0,KX,s0,_⟩:=Gi h0 (sC (j:=0) dz rfl rfl)
 obtain⟨a1,rfl,rfl,rfl,w1⟩:=open_int Tryz.underlying3 (lf 1 3 v1 rfl rfl) h1
 rw[MakeChecks.laidMetH_plain _ _ _ (by kernel_rfl)] at hL
 have g:=xY hL ze
 refine(EI W g l0 a0 Ul WK s0 KX.symm a1 w1).mono fun e W' ⟨he,bel⟩=>?_
 subst he
 exact⟨_,rfl,_,_,_,[],_,[],Ln,trodAll_mk1 (shut_bool Tryz.underlying4 _),(trodAll_cons_mk (Below.trod laidOut (by kernel_rfl) (of_decide_eq_true (by kernel_rfl)) k0 bel M3) (trodAll_cons_mk (shut_int Tryz.underlying3 w1) trodAll_mk0)),rfl,bel.frame _,fun h=>by cases h⟩
theorem row_holds:Rows.StoryWholeSaid:=
 OpenClaim.holds_of_wide 7 Tryz.f7 rfl rfl rfl rfl rfl rfl rfl ⟨rfl,rfl,rfl,rfl,rfl⟩ rfl rfl rfl rfl rfl (by kernel_rfl) Tryz.func7 (by kernel_rfl)
  (of_decide_eq_true (by kernel_rfl)) (by unfold Func.isWrapper;first| (rw[if_pos (by decide+kernel)];kernel_rfl)| (rw[if_neg (by decide+kernel)];exact⟨rfl,rfl⟩))
  (fun os started H enc _=>lifted os started H enc)
end Go.Proofs.YtoonnbhoiocoeaaGreatDoor.storyWhole
