/-
  world.Run: one happening after the other.
-/
import Derived.Test.YtoonnbhoiocoeaaGreatDoorP27
import Derived.Test.YtoonnbhoiocoeaaGreatDoorP24
import Derived.Test.YtoonnbhoiocoeaaGreatDoorP26
import Derived.Test.YtoonnbhoiocoeaaGreatDoorP18
import Derived.Test.YtoonnbhoiocoeaaGreatDoorP04
import Derived.Test.YtoonnbhoiocoeaaGreatDoorP01
import Derived.Test.YtoonnbhoiocoeaaGreatDoorP25
set_option maxHeartbeats 40000000
set_option maxRecDepth 100000
set_option linter.unusedVariables false
namespace Go.Proofs.YtoonnbhoiocoeaaGreatDoor
open Go.RowKit
open Go.Lib (byteCells)
def ql (r:Rc):Hp:=⟨r.k,r.s,r.n,r.e⟩
theorem Gg (w:Wd)(a:List Hp)(y:Hp):ez w (a++[y])=(if ci (ez w a).1 y=0 then dr (ez w a).1 y else(ez w a).1,(ez w a).2++[ci (ez w a).1 y]):=by
 rw[oO,sw]
 generalize ez w a=R
 by_cases h:ci R.1 y=0
 .rw[if_pos h,if_pos h,h]
  rfl
 .rw[if_neg h,if_neg h]
  rfl
def qU (W:World)(x:Wd)(said:List Int)(E:Int)(e:Ending)(w':World):Prop:=
 ∃(p:Pw) (ss:Option Addr) (sn sG:Nat),e=.returned (.tuple #[p.val x.up,.slice ss sn sG,.int .i64 E])/\ej w' p x/\Hid (sn=said.length)/\Sl w' ss sG (said.map (Value.int .i64))/\Below W.heap.size W w'
theorem NR:(Tryz.prog.info? 34).map (fun i=>(i.zero,i.size,i.bytes))=some (some (.int .i64 0),1,8):=by kernel_rfl
theorem KI (s:List Int)(k n:Nat)(hs:s.length=k)(hk:k<n)(v:Int):((s++List.replicate (n-k) 0).map (Value.int .i64)).set k (.int .i64 v)=((s++[v])++List.replicate (n-(k+1)) 0).map (Value.int .i64):=by
 rw[<-List.map_set,List.set_append_right _ _ (by omega),hs,Nat.sub_self]
 obtain⟨m,hm⟩:∃m,n-k=m+1:=⟨n-k-1,by omega⟩
 rw[hm,List.replicate_succ,List.set_cons_zero,show n-(k+1)=m by omega]
 simp
theorem Rv {w':World}{g n:Nat}{cs:List Value}{t:TypeId}(h:w'.ownsRow g t 1 (.slice (some ⟨g,0,none⟩) n n) n cs):ac w' g cs t:=by
 have hl:=h.1
 rcases h.2 with⟨h',_⟩| ⟨g',rF,cur,h',_,hg,_,_,hs,nP⟩
 .simp at h'
 .simp only[Value.slice.injEq,Option.some.injEq,Addr.mk.injEq,and_true,true_and] at h'
  obtain⟨rfl,rfl⟩:=h'
  have e:cur.toList=cs:=by
   rw[<-nP,List.take_of_length_le (by simp[hs])]
  unfold ac
  rw[<-e]
  simpa using hg
theorem S8 (n:Nat):(madeCells #[Value.int .i64 0] n).toList=(List.replicate n (0:Int)).map (Value.int .i64):=by
 rw[List.map_replicate]
 apply List.eq_replicate_iff.2
 constructor
 .simp[madeCells]
 .intro v hv
  simp[madeCells] at hv
  obtain⟨i,_,rfl⟩:=hv
  simp[Nat.mod_one]
theorem Cc (x:Wd)(l:List bF)(p:Pw)(la:Option Addr)(ln lc:Nat)(w:World)(hg:Gl w)(I:ej w p x)(h:cu x=0)(SL:dI w la lc l)(dK:Hid (ln=l.length)):
  Calls Tryz.prog 23 #[p.val x.up,.slice la ln lc] w (if 100<l.length then qU w NS [] 2 else qU w (ez x (l.map (fun r=>ql r.r))).1 (ez x (l.map (fun r=>ql r.r))).2 0):=by
 have c:=fun W g i=>xu x p W g i h
 unfold Lk at c
 have Fzs:ln<=lc:=by rw[dK.out];exact SL.row.le
 have DI:lc<=9223372036854775807:=SL.row.max
 obtain⟨U,hU⟩:∃U,U=x.up:=⟨_,rfl⟩
 rw[<-hU] at c⊢
 replace hU:=hide hU
 obtain⟨sa,sn,sG,a1,n1,c1,a2,n2,c2,ra,rn,rc⟩:=p
 simp only[Pw.val] at*
 have BX:=(ac.laid w [.slice sa sn sG,.slice a1 n1 c1,.slice a2 n2 c2,.bool U,.slice ra rn rc] 30 _ rfl).alc (.cells #[.slice none 0 0,.slice none 0 0,.slice none 0 0,.bool false,.slice none 0 0] 30)
 have BR:=ac.laid (w.alloc (.cells #[.slice sa sn sG,.slice a1 n1 c1,.slice a2 n2 c2,.bool U,.slice ra rn rc] 30)) [.slice none 0 0,.slice none 0 0,.slice none 0 0,.bool false,.slice none 0 0] 30 (w.heap.size+1) (by simp)
 have bel:=newB (newB (Below.refl w.heap.size w) (.cells #[.slice sa sn sG,.slice a1 n1 c1,.slice a2 n2 c2,.bool U,.slice ra rn rc] 30)) (.cells #[.slice none 0 0,.slice none 0 0,.slice none 0 0,.bool false,.slice none 0 0] 30)
 replace I:=hide (I.keep bel (Nat.le_refl _))
 have gl:=hg.call bel
 obtain⟨gR,kG⟩:∃gR,gR=w.heap.size+1:=⟨_,rfl⟩
 rw[<-kG] at BR
 have mU:w.heap.size<=gR:=by omega
 by_cases MT:100<l.length
 .rw[if_pos MT]
  have hm:(100:Int)<ln:=by rw[dK.out];omega
  go_enter Tryz.func23,Tryz.ntmps23
  go_upto_region 1 with fail
  rw[<-kG]
  generalize World.alloc (World.alloc w _) _=w1 at*
  clear kG
  have x0:=BX.cell 0
  have x1:=BX.cell 1
  have x2:=BX.cell 2
  have x3:=BX.cell 3
  have x4:=BX.cell 4
  have xl:=BX.lt
  go_wp2_with fail
  go_at_call 32
  refine(c _ gl I.out).mono ?_
  rintro e w2 ⟨h',⟨sb,sm,sH,b1,m1,k1,b2,m2,k2,rb,rm,rk⟩,ys,he,V,hh,bb⟩
  simp only at he
  subst he
  clear c x0 x1 x2 x3 x4 xl BX I
  have bq:=newB bb (.cells #[.slice sb sm sH,.slice b1 m1 k1,.slice b2 m2 k2,.bool U,.slice rb rm rk] 30)
  replace BR:=BR.keep bq BR.lt
  replace bel:=aa bel bq
  clear bq bb V hh
  go_upto_region 5 with fail
  generalize World.alloc w2 _=w3 at*
  have r0:=BR.cell 0
  have r1:=BR.cell 1
  have r2:=BR.cell 2
  have r3:=BR.cell 3
  have r4:=BR.cell 4
  have f0:=BR.free 0
  have f1:=BR.free 1
  have f2:=BR.free 2
  have f3:=BR.free 3
  have f4:=BR.free 4
  have rl:=BR.lt
  replace BR:=hide BR
  replace bel:=hide bel
  go_wp2_with fail
  have B9:=qq BR.out (.slice none 0 0) (.slice none 0 0) (.slice none 0 0) (.bool false) (.slice none 0 0)
  have aq:=jW bel.out mU (.slice none 0 0) (.slice none 0 0) (.slice none 0 0) (.bool false) (.slice none 0 0)
  have i0:=B9.cell 0
  have i1:=B9.cell 1
  have i2:=B9.cell 2
  have i3:=B9.cell 3
  have i4:=B9.cell 4
  exact bodyPost_ret (v:=.tuple #[.agg #[.slice none 0 0,.slice none 0 0,.slice none 0 0,.bool false,.slice none 0 0],.slice none 0 0,.int .i64 2]) (by simp[results,Tryz.results23,go_sem,i0,i1,i2,i3,i4]) rfl ⟨Sh,none,0,0,rfl,ej.nil _,hide rfl,Sl.ofNil _,aq⟩
 .rw[if_neg MT]
  have hm:¬(100:Int)<ln:=by rw[dK.out];omega
  have mS:ln<=100:=by rw[dK.out];omega
  obtain⟨L,hL⟩:∃L,L=l.map (fun r=>ql r.r):=⟨_,rfl⟩
  rw[<-hL]
  replace hL:=hide hL
  obtain⟨RX,PF⟩:∃RX,RX=ez x L:=⟨_,rfl⟩
  rw[<-PF]
  replace PF:=hide PF
  obtain⟨ie,hi,bU,bi,bk⟩:=info_parts NR
  clear MT
  go_enter Tryz.func23,Tryz.ntmps23
  go_upto_region 1 with fail
  rw[<-kG]
  generalize World.alloc (World.alloc w _) _=w1 at*
  clear kG
  have x0:=BX.cell 0
  have x1:=BX.cell 1
  have x2:=BX.cell 2
  have x3:=BX.cell 3
  have x4:=BX.cell 4
  have xl:=BX.lt
  go_wp2_with fail
  go_at_call 32
  refine(c _ gl I.out).mono ?_
  rintro e w2 ⟨h',⟨sb,sm,sH,b1,m1,k1,b2,m2,k2,rb,rm,rk⟩,ys,he,V,hh,bb⟩
  simp only at he
  subst he
  clear c x0 x1 x2 x3 x4 xl BX I
  have HF:=BR.lt
  have LH:=bb.size
  have WB:=V.box
  simp only[Pw.cells,<-hU.out] at WB
  have bq:=newB bb (.cells #[.slice sb sm sH,.slice b1 m1 k1,.slice b2 m2 k2,.bool U,.slice rb rm rk] 30)
  replace BR:=BR.keep bq BR.lt
  have lg:gR<w2.heap.size:=Nat.lt_of_lt_of_le HF LH
  replace bel:=aa bel bq
  have lh:w.heap.size<=h':=Nat.le_trans (Nat.le_of_lt (Nat.lt_of_le_of_lt mU HF)) hh
  have Zi:gR≠h':=by omega
  clear bq bb V hh HF LH gl
  go_upto_region 6 with fail
  generalize w2.heap.size=g at*
  generalize World.alloc w2 _=w3 at*
  have X5:=bel.size
  go_wp2_with (at_make;refine wpList_make_full _ rfl (.tmp 26) (.tmp 26) 60 rfl w3.heap.size 34 ie (.int .i64 0) 1 Tryz.underlying60 hi bU bi _ _ _ _ ln rfl rfl rfl rfl (by rw[bk];omega) (by unfold maxLen;omega) (Nat.le_refl _) ?_)
  intro w4 own grow
  have b4:Below w3.heap.size w3 w4:=(Below.refl _ _).grown grow (Nat.le_refl _) (fun k h=>by cases h)
  rw[S8] at own
  have Mx:=Rv own
  obtain⟨gS,zF⟩:∃gS,gS=w3.heap.size:=⟨_,rfl⟩
  rw[<-zF] at Mx⊢
  have Kb:g<gS:=by rw[zF];exact WB.blk.lt
  have QP:h'<gS:=by rw[zF];exact WB.rb.lt
  have Ph:gR<gS:=by rw[zF];exact BR.lt
  have U8:=hide ((WB.more (Q':=fun q=>q=gS) (fun q hq=>.inr (by rw[hq,zF];exact Nat.le_refl _))).call b4)
  replace BR:=hide (BR.keep b4 BR.lt)
  have de:=aa bel b4
  have H0:Hid (([]:List Int).length=0/\ez x (L.take 0)=(x,[])):=hide ⟨rfl,rfl⟩
  replace Mx:=hide (show ac w4 gS ((([]:List Int)++List.replicate (ln-0) 0).map (Value.int .i64)) 34 from Mx)
  have js:=hide hg
  clear own grow b4 WB bel zF hg
  go_wp2_with fail
  go_loopw [30] (fun i wr=>∃(k:Nat) (h2:Nat) (p2:Pw) (Pj:List Int) (x2:Wd) (s:List Int),k<=ln/\i=.int .i64 k/\Hid (iG (fun q=>q=gS) wr g h2 p2 Pj x2)/\Hid (ac wr gS ((s++List.replicate (ln-k) 0).map (Value.int .i64)) 34)/\Hid (s.length=k/\ez x (L.take k)=(x2,s))/\Hid (ac wr gR [.slice none 0 0,.slice none 0 0,.slice none 0 0,.bool false,.slice none 0 0] 30)/\Hid (w.heap.size<=h2/\gS≠h2/\gR≠h2)/\Below w.heap.size w wr) (fun i _=>ln-(intOf i).toNat)
  case atStart=>exact⟨0,h',_,ys,x,[],Nat.zero_le _,rfl,U8,Mx,H0,BR,hide ⟨lh,by omega,by omega⟩,de⟩
  case round=>
   clear U8 Mx H0 BR de
   obtain⟨k,h2,p2,Pj,x2,s,hk,rfl,WB,BS,H,BR,aF,bel⟩:=hrel
   by_cases az:k<ln
   .have cy:k<l.length:=by rw[<-dK.out];exact az
    obtain⟨q,hq⟩:∃q,l[k]? =some q:=⟨_,List.getElem?_eq_getElem cy⟩
    obtain⟨lb,lo,rfl,yA⟩:=SL.row.where bF.four (by decide) (by intro h;subst h;simp at cy)
    have S':=SL.keep bel (Nat.le_refl _)
    have d0:=S'.row.cell bF.four k 0 q _ hq rfl
    have d1:=S'.row.cell bF.four k 1 q _ hq rfl
    have d2:=S'.row.cell bF.four k 2 q _ hq rfl
    have d3:=S'.row.cell bF.four k 3 q _ hq rfl
    simp only[Nat.add_zero] at d0
    have MV:=Nat.lt_of_lt_of_le yA bel.size
    have jk:=S'.ent q (List.mem_of_getElem? hq)
    have W8:L[k]? =some (ql q.r):=by rw[hL.out,List.getElem?_map,hq];rfl
    have Cr:=Gg x (L.take k) (ql q.r)
    have vY:L.take (k+1)=L.take k++[ql q.r]:=by rw[List.take_add_one,W8];rfl
    rw[<-vY,H.out.2] at Cr
    simp only at Cr
    obtain⟨HE,eK⟩:∃HE,HE=ci x2 (ql q.r):=⟨_,rfl⟩
    obtain⟨Z,hZ⟩:∃Z,Z=(if ci x2 (ql q.r)=0 then dr x2 (ql q.r) else x2):=⟨_,rfl⟩
    rw[<-hZ,<-eK] at Cr
    have cH:=fun V B hQ gl t=>vi (Q:=fun q=>q=gS) (ql q.r) g h2 p2 Pj x2 V B hQ gl q.a q.r.e.length q.c t (hide rfl)
    rw[<-hZ,<-eK] at cH
    unfold ql at cH
    simp only at cH
    have bc:=newB (Below.refl wr.heap.size wr) (.cells #[.int .i64 q.r.k,.int .i64 q.r.s,.int .i64 q.r.n,.slice q.a q.r.e.length q.c] 33)
    have BC:=ac.laid wr [.int .i64 q.r.k,.int .i64 q.r.s,.int .i64 q.r.n,.slice q.a q.r.e.length q.c] 33 _ rfl
    have GD:=(js.out.call bel).call bc
    have jc:=jk.call bc
    replace WB:=hide (WB.out.call bc)
    replace BS:=hide (BS.out.keep bc BS.out.lt)
    replace BR:=hide (BR.out.keep bc BR.out.lt)
    replace bel:=aa bel bc
    replace Cr:=hide Cr
    replace hq:=hide hq
    clear S' cy jk W8 vY eK hZ bc
    go_upto_region 10 with fail
    generalize wr.heap.size=gC at*
    generalize World.alloc wr _=v at*
    have y0:=BC.cell 0
    have y1:=BC.cell 1
    have y2:=BC.cell 2
    have y3:=BC.cell 3
    have yl:=BC.lt
    have NX:=cH v WB.out (fun q hq=>by rw[hq];exact BS.out.lt) GD jc
    clear d0 d1 d2 d3 MV cH
    go_wp2_with fail
    go_at_call 33
    refine NX.mono ?_
    rintro e w5 ⟨rfl,h3,p3,X0,Uu,gr,To⟩
    have Su:=BS.out
    have Yl:=Su.lt
    have Lz:Hid (w.heap.size<=h3/\gS≠h3/\gR≠h3):=hide (by
     have:=aF.out
     have:=bel.size
     have:=BR.out.lt
     rcases To with rfl|To
     .exact aF.out
     .exact⟨by omega,by omega,by omega⟩)
    have Jh:=Su.gb2 gr (by omega) aF.out.2.1
    have WC:=hide (BR.out.gb2 gr (by omega) aF.out.2.2)
    have ay:Below w.heap.size w w5:=bel.trans (gr.from (by omega) aF.out.1 bel.size)
    have QA:=KI s k ln H.out.1 az HE
    have YJ:=hide (Uu.said (i:=k) (v:=HE) rfl Jh (by decide) (by decide))
    have PU:=Jh.set k (.int .i64 HE)
    rw[QA] at PU
    replace PU:=hide PU
    have Xq:=hide (WC.out.other (g':=gS) k (.int .i64 HE) (by omega))
    have aC:=hide (ay.setCell (p:=⟨gS,k,none⟩) (by show w.heap.size<=gS;omega) (.int .i64 HE))
    obtain⟨z,hz⟩:∃z:Int,w5.cell? ⟨gS,k,none⟩=some (.int .i64 z):=⟨0,by
     rw[Jh.cell,List.getElem?_map,List.getElem?_append_right (by rw[H.out.1];exact Nat.le_refl _),H.out.1,Nat.sub_self,List.getElem?_replicate,if_pos (by omega)]
     rfl⟩
    have hzf:=Jh.free k
    have hzl:=Jh.lt
    have H4:Hid ((s++[HE]).length=k+1/\ez x (L.take (k+1))=(Z,s++[HE])):=hide ⟨by rw[List.length_append,H.out.1];rfl,Cr.out⟩
    clear y0 y1 y2 y3 yl NX QA Jh ay WC Uu gr To Su Yl Cr H aF WB BS BR GD jc bel BC
    go_wp2_with fail
    go_roundw
    case rel=>exact⟨k+1,h3,p3,X0,Z,s++[HE],Nat.succ_le_of_lt az,by go_num,YJ,PU,H4,Xq,Lz,aC.out⟩
    case measure=>
     have:=Nat.sub_lt_sub_left az (Nat.lt_succ_self k)
     simpa[intOf] using this
   .obtain rfl:k=ln:=Nat.le_antisymm hk (Nat.le_of_not_lt az)
    have hR:RX=(x2,s):=by
     rw[PF.out,<-H.out.2,List.take_of_length_le (by rw[hL.out,List.length_map,<-dK.out];exact Nat.le_refl _)]
    have Pg:=BS.out
    rw[Nat.sub_self,List.replicate_zero,List.append_nil] at Pg
    have Ja:Hid (k=s.length):=hide H.out.1.symm
    subst hR
    obtain⟨uV,uA,uz,d1,o1,e1,d2,o2,e2,us,uv,uY⟩:=p2
    have mA:=WB.out
    have pz:=mA.blk
    simp only[Pw.cells] at pz
    obtain⟨ZU,wY⟩:∃U,U=x2.up:=⟨_,rfl⟩
    rw[<-wY] at pz
    have vU:=BR.out
    have r0:=vU.cell 0
    have r1:=vU.cell 1
    have r2:=vU.cell 2
    have r3:=vU.cell 3
    have r4:=vU.cell 4
    have f0:=vU.free 0
    have f1:=vU.free 1
    have f2:=vU.free 2
    have f3:=vU.free 3
    have f4:=vU.free 4
    have rl:=vU.lt
    have g0:=pz.cell 0
    have g1:=pz.cell 1
    have g2:=pz.cell 2
    have g3:=pz.cell 3
    have g4:=pz.cell 4
    have gl:=pz.lt
    have DC:¬g=gR:=by omega
    have Ef:¬gR=g:=by omega
    have Ws:=hide Ph
    have Z1:=hide Kb
    replace mA:=hide mA
    replace Pg:=hide Pg
    replace wY:=hide wY
    replace bel:=hide bel
    clear pz vU Ph Kb QP lh Zi hm mS WB BS H aF lg X5
    go_wp2_with fail
    have B9:=qq BR.out (.slice uV uA uz) (.slice d1 o1 e1) (.slice d2 o2 e2) (.bool ZU) (.slice us uv uY)
    have aq:=jW bel.out mU (.slice uV uA uz) (.slice d1 o1 e1) (.slice d2 o2 e2) (.bool ZU) (.slice us uv uY)
    have PM:=ak (ak (ak (ak (ak (au wr (some gR)) 0 (.slice uV uA uz)) 1 (.slice d1 o1 e1)) 2 (.slice d2 o2 e2)) 3 (.bool ZU)) 4 (.slice us uv uY)
    have W9:=(iG.wrote (Q:=fun q=>q=gS) (W':=((((wr.setCell ⟨gR,0,none⟩ (.slice uV uA uz)).setCell ⟨gR,1,none⟩ (.slice d1 o1 e1)).setCell ⟨gR,2,none⟩ (.slice d2 o2 e2)).setCell ⟨gR,3,none⟩ (.bool ZU)).setCell ⟨gR,4,none⟩ (.slice us uv uY)) BR.out PM (by rw[<-wY.out];exact B9) mA.out.is mA.out.so mA.out.right mA.out.ra mA.out.rb mA.out.ry mA.out.rm).is
    have S9:=Pg.out.grown PM (fun j e=>by obtain rfl:=Option.some.inj e;have:=Ws.out;omega)
    have i0:=B9.cell 0
    have i1:=B9.cell 1
    have i2:=B9.cell 2
    have i3:=B9.cell 3
    have i4:=B9.cell 4
    exact bodyPost_ret (v:=.tuple #[.agg #[.slice uV uA uz,.slice d1 o1 e1,.slice d2 o2 e2,.bool ZU,.slice us uv uY],.slice (some ⟨gS,0,none⟩) k k,.int .i64 0]) (by simp[results,Tryz.results23,go_sem,i0,i1,i2,i3,i4]) rfl
     ⟨⟨uV,uA,uz,d1,o1,e1,d2,o2,e2,us,uv,uY⟩,_,_,_,by rw[<-wY.out];rfl,W9,Ja,⟨S9.row 0 _ (fun j u hu=>by rw[Nat.zero_add];exact hu),by rw[List.length_map,<-Ja.out];exact Nat.le_refl _,by omega,fun e=>by cases e⟩,aq⟩
end Go.Proofs.YtoonnbhoiocoeaaGreatDoor
namespace Go.Proofs.YtoonnbhoiocoeaaGreatDoor
open Go.RowKit Go.ChangeShapes Go.WideShapes Go.ChangeAt Go.Joins
theorem J4:Tryz.prog.cellsOf 33=4:=by kernel_rfl
theorem JQ {H:Type}{enc:TypeId × Value->H}{W:World}(cs:List Value)(x:DataW H × List MemPlace)(m:Nat)(hl:cs.length=4)(h:DataW.trod enc Tryz.prog W 0 (fun _=>true) true m 33 cs=some x)(hw:ir 33 x.1):
  ∃y:bF,cs=y.cells/\aY ec W y.a y.c y.r.e:=by
 obtain⟨c0,c1,c2,c3,rfl⟩:=NP hl
 obtain⟨y0,y1,y2,y3,n,rfl,_,h0,h1,h2,h3⟩:=trod_struct4 Tryz.underlying33 h
 simp only[uO,MH,List.drop_zero,List.drop_succ_cons,List.take_succ_cons,List.take_zero] at h0 h1 h2 h3
 obtain⟨a0,e0,rfl,w0⟩:=DataW.trod_int Tryz.underlying3 h0
 obtain⟨a1,e1,rfl,w1⟩:=DataW.trod_int Tryz.underlying3 h1
 obtain⟨a2,e2,rfl,w2⟩:=DataW.trod_int Tryz.underlying3 h2
 obtain⟨ao,k,cap,e3⟩:=slice_form Tryz.underlying31 h3
 simp at e0 e1 e2 e3
 subst e0 e1 e2 e3
 have Pv:ir 31 y3.1:=by
  intro n hn
  refine hw n ?_
  simp[DataW.weights,DataW.weightsEach,Tryz.underlying33,hn]
 obtain⟨l,hl,s,_,_⟩:=jx (ao:=ao) (n:=k) (cap:=cap) ec (fun _=>True) Tryz.underlying31 (by kernel_rfl) (by decide) bZ (fun cs x m=>MD cs x m) (by simpa[Value.cells] using h3) Pv
 subst hl
 exact⟨⟨⟨a0,a1,a2,l⟩,ao,cap⟩,rfl,s⟩
theorem Gi {H:Type}{enc:TypeId × Value->H}{W:World}{ao:Option Addr}{n cap:Nat}{d:DataW H}{ps:List MemPlace}
  (h:DataW.Trod enc Tryz.prog W 0 (fun _=>true) true 59 (.slice ao n cap) d ps) (hw:ir 59 d):
  ∃l:List bF,l.length=n/\dI W ao cap l/\cap*48<=140737488351232:=by
 obtain⟨fuel,hf⟩:=h
 obtain⟨l,hl,s,g,r⟩:=jx (ao:=ao) (n:=n) (cap:=cap) bF.cells (fun y=>aY ec W y.a y.c y.r.e) Tryz.underlying59 J4 (by decide) bF.four (fun cs x m=>JQ cs x m) (by simpa[Value.cells] using hf) hw
 rw[show Tryz.prog.bytesOf 33=48 by kernel_rfl] at r
 exact⟨l,hl,⟨s,g⟩,r⟩
end Go.Proofs.YtoonnbhoiocoeaaGreatDoor
namespace Go.Proofs.YtoonnbhoiocoeaaGreatDoor
open Go.RowKit
open Go.Lib (byteCells)
def Ar (W:World)(l:List Pt)(E:Int)(e:Ending)(w':World):Prop:=
 ∃(a:Option Addr) (n G:Nat),e=.returned (.tuple #[.slice a n G,.int .i64 E])/\Hid (n=l.length)/\w'.ownsRow W.heap.size 56 2 (.slice a n G) n (am l)/\Below W.heap.size W w'
theorem kp {W w':World}{E:Int}(b:Below W.heap.size W w'):Ar W [] E (.returned (.tuple #[.slice none 0 0,.int .i64 E])) w':=
 ⟨none,0,0,rfl,hide rfl,World.ownsRow_nil _ _ _ _,b⟩
theorem tx (x:Wd)(r s:Int):
  (cu x≠0->jB x r s=cu x)/\(cu x=0->¬(0<=r/\r<=2)->jB x r s=5)/\(cu x=0->(0<=r/\r<=2)->x.rd.getD r.toNat 0<0->jB x r s=7)/\
   (cu x=0->(0<=r/\r<=2)->¬x.rd.getD r.toNat 0<0->jB x r s=iK (aZ ((ax x.d).take (x.rd.getD r.toNat 0).toNat)) s):=by
 unfold jB
 refine⟨fun h=>if_pos h,fun h k=>?_,fun h k v=>?_,fun h k v=>?_⟩
 .rw[if_neg (by simp[h]),if_pos k]
 .rw[if_neg (by simp[h]),if_neg (fun e=>e k),if_pos v]
 .rw[if_neg (by simp[h]),if_neg (fun e=>e k),if_neg v]
theorem xU {x:Wd}{r s f t:Int}(h:jB x r s≠0):mz x r s f t=[]:=if_neg h
theorem yr (x:Wd)(p:Pw)(r s f t:Int)(w:World)(hg:Gl w)(I:ej w p x)(few:p.n1+p.n2<=9223372036854775807)(gV:p.sn<=140737488355328):
  Calls Tryz.prog 17 #[p.val x.up,.int .i64 r,.int .i64 s,.int .i64 f,.int .i64 t] w (Ar w (mz x r s f t) (jB x r s)):=by
 obtain⟨iV,iR,y9,Ga⟩:=tx x r s
 have c:=fun W g i=>nN x p W g i few gV
 unfold Ap at c
 obtain⟨RE,om⟩:∃RE,RE=jB x r s:=⟨_,rfl⟩
 obtain⟨RL,oN⟩:∃RL,RL=mz x r s f t:=⟨_,rfl⟩
 have dq:RE≠0->RL=[]:=fun e=>by rw[oN];exact xU (by rw[<-om];exact e)
 rw[<-om] at iV iR y9 Ga⊢
 rw[<-oN]
 obtain⟨es,e1,e2,er,IS,S1,S2,SR⟩:=I
 obtain⟨U,hU⟩:∃U,U=x.up:=⟨_,rfl⟩
 rw[<-hU] at c⊢
 obtain⟨sa,sn,sG,a1,n1,c1,a2,n2,c2,ra,rn,rc⟩:=p
 simp only[Pw.val] at*
 have BX:=ac.laid w [.slice sa sn sG,.slice a1 n1 c1,.slice a2 n2 c2,.bool U,.slice ra rn rc] 30 _ rfl
 have bel:=newB (Below.refl w.heap.size w) (.cells #[.slice sa sn sG,.slice a1 n1 c1,.slice a2 n2 c2,.bool U,.slice ra rn rc] 30)
 have I1:=hide (show ej (w.alloc (.cells #[.slice sa sn sG,.slice a1 n1 c1,.slice a2 n2 c2,.bool U,.slice ra rn rc] 30)) ⟨sa,sn,sG,a1,n1,c1,a2,n2,c2,ra,rn,rc⟩ x from ej.alloc ⟨es,e1,e2,er,IS,S1,S2,SR⟩ _)
 have gl:=hg.call bel
 replace hU:=hide hU
 replace om:=hide om
 replace oN:=hide oN
 have Xn:=hide er
 clear es e1 e2 er IS S1 S2 SR
 go_enter Tryz.func17,Tryz.ntmps17
 go_upto_region 1 with fail
 generalize World.alloc w _=w1 at*
 have x0:=BX.cell 0
 have x1:=BX.cell 1
 have x2:=BX.cell 2
 have x3:=BX.cell 3
 have x4:=BX.cell 4
 have xl:=BX.lt
 go_wp2_with fail
 go_at_call 39
 refine(c _ gl I1.out).mono ?_
 rintro e w2 ⟨a',n',G',la,ln,lG,l,rfl,hP,b2⟩
 clear x0 x1 x2 x3 x4 xl c
 have bq:=newB b2 (.cells #[.slice a' n' G'] 24)
 replace BX:=BX.keep bq BX.lt
 have I2:=hide (I1.out.call bq)
 have Yj:=hide (newB (Below.refl w2.heap.size w2) (.cells #[.slice a' n' G'] 24))
 replace bel:=aa bel bq
 clear bq b2 gl I1
 by_cases hz:cu x=0
 .obtain⟨rfl,_,LR,dK,iQ⟩:=hP.out hz
  replace LR:=LR.call Yj.out
  have Fzs:ln<=lG:=by rw[dK];exact LR.row.le
  have DI:lG<=9223372036854775807:=LR.row.max
  replace dK:=hide dK
  replace iQ:=hide iQ
  rw[hz]
  by_cases hr:0<=r/\r<=2
  .obtain⟨k,rfl⟩:∃k:Nat,r=k:=⟨r.toNat,by omega⟩
   rw[Int.toNat_natCast] at y9 Ga
   have my:k<3:=by omega
   obtain⟨r1,r2,r3,r4,r5,r6⟩:=dQ hz
   have cy:k<x.rd.length:=by omega
   have y6:rn=3:=by rw[Xn.out];exact r5
   have nZ:fd x.up (iv x).length (x.rd.getD k 0)=true:=r6 _ (by rw[List.getD_eq_getElem?_getD,List.getElem?_eq_getElem cy];exact List.getElem_mem cy)
   have Pa:=I2.out.r
   obtain⟨rb,ro,rfl,tJ,sP⟩:=Pa.row.at (by intro e;rw[List.map_eq_nil_iff] at e;rw[e] at cy;simp at cy)
   clear tJ sP
   have v0:=Pa.int k cy
   subst y6
   have cR:=fun W=>nJ (k:Int) W
   rw[show gA (k:Int)=true by unfold gA;exact decide_eq_true (by omega)] at cR
   generalize hv:x.rd.getD k 0=v at*
   have Yf:(k:Int)<3:=by omega
   by_cases si:v<0
   .have hE:RE=7:=y9 hz hr si
    have hL:RL=[]:=dq (by rw[hE];decide)
    have yZ:v=-1:=by
     unfold fd at nZ
     simp only[Bool.and_eq_true,decide_eq_true_eq] at nZ
     omega
    subst hE hL yZ
    clear iV iR y9 Ga dq hz hP nZ r1 r2 r3 r4 r5 r6 hr Pa LR
    go_upto_region 4 with fail
    generalize World.alloc w2 _=w3 at*
    have x4:=BX.cell 4
    have xl:=BX.lt
    go_wp2_with fail
    go_at_call 53
    refine(cR _).mono ?_
    rintro e w4 ⟨rfl,rfl⟩
    go_wp2_with fail
    exact bodyPost_ret (v:=.tuple #[.slice none 0 0,.int .i64 7]) (by simp[results,Tryz.results17,go_sem]) rfl (kp bel)
   .have hE:=Ga hz hr (by omega)
    unfold fd at nZ
    simp only[Bool.and_eq_true,Bool.or_eq_true,decide_eq_true_eq] at nZ
    obtain⟨⟨_,Ia⟩,Kl⟩:=nZ
    have EX:x.up=true:=Kl.elim id (fun e=>absurd e si)
    have zG:iv x=ax x.d:=if_pos EX
    obtain⟨V,rfl⟩:∃V:Nat,v=V:=⟨v.toNat,by omega⟩
    rw[Int.toNat_natCast] at hE
    have rV:V<=ln:=by rw[dK.out,<-List.length_map (f:=fun q:bF=>q.r),iQ.out];omega
    have bk:=rM (wk hz EX).2.1 V
    obtain⟨CX,mM⟩:∃CX,CX=aZ ((ax x.d).take V):=⟨_,rfl⟩
    have jM:=fp bk
    rw[<-mM] at hE jM
    have vo:RL=gH (fC CX s) f t:=by
     by_cases h0:RE=0
     .rw[oN.out]
      unfold mz
      rw[if_pos (by rw[<-om.out];exact h0),Int.toNat_natCast,hv,Int.toNat_natCast,<-mM]
     .rw[dq h0]
      have:fC CX s=[]:=by
       unfold fC
       rw[if_neg (by rw[<-hE];exact h0)]
      rw[this]
      rfl
    have tQ:(l.take V).map (·.r)=(ax x.d).take V:=by rw[List.map_take,iQ.out,zG]
    have NO:Hid (V=(l.take V).length):=hide (by rw[List.length_take,<-dK.out];omega)
    have cP:=fun W S=>kZ (l.take V) la V lG 4 W S NO (hide (by rw[tQ,<-mM];exact(bL jM).symm))
    rw[tQ,bk,<-mM] at cP
    have LV:dI (w2.alloc (.cells #[.slice a' 4 G'] 24)) la lG (l.take V):=⟨LR.row.front bF.four V,fun q hq=>LR.ent q (List.mem_of_mem_take hq)⟩
    have cQ:=fun W (a:Option Addr) G (i:dC W a G CX)=>Ka s f t i (bL jM).symm
    rw[<-hE,<-vo] at cQ
    have YV:V<=lG:=Nat.le_trans rV Fzs
    have hVm:(V:Int)<=9223372036854775807:=by omega
    have nV:¬(V:Int)=-1:=by omega
    have nV2:((V:Int)==-1)=false:=by simp
    obtain⟨q,hq⟩:∃q,q=RL.length:=⟨_,rfl⟩
    rw[<-hq] at cQ
    replace hq:=hide hq
    clear iV iR y9 Ga dq hz hP Ia Kl EX zG r1 r2 r3 r4 r5 r6 hr Pa LR hE bk mM jM vo tQ hv si om oN
    go_upto_region 4 with fail
    generalize World.alloc w2 _=w3 at*
    have x4:=BX.cell 4
    have xl:=BX.lt
    go_wp2_with fail
    go_at_call 53
    refine(cR _).mono ?_
    rintro e w4 ⟨rfl,rfl⟩
    go_wp2_with fail
    go_at_call 54
    refine((cP _ LV).mono fun _ _ h=>xj h).mono ?_
    rintro e w5 ⟨aS,GS,rfl,BS,IN,b5,hs5⟩
    clear x4 xl cP LV v0
    replace bel:=aa bel b5
    clear b5
    go_upto_region 12 with fail
    generalize World.alloc w5 _=w6 at*
    have s0:=BS.cell 0
    have sl:=BS.lt
    go_wp2_with fail
    go_at_call 55
    refine(cQ _ _ _ IN.is).mono ?_
    rintro e w7 ⟨aQ,GQ,rfl,own,b7⟩
    have jo:=xM own bel.size
    replace bel:=aa bel b7
    clear own b7 cQ IN
    go_wp2_with fail
    exact bodyPost_ret (v:=.tuple #[.slice aQ q GQ,.int .i64 RE]) (by simp[results,Tryz.results17,go_sem]) rfl ⟨aQ,q,GQ,rfl,hq,jo,bel⟩
  .have hE:RE=5:=iR hz hr
   have hL:RL=[]:=dq (by rw[hE];decide)
   subst hE hL
   have cR:=fun W=>nJ r W
   rw[show gA r=false by unfold gA;exact decide_eq_false hr] at cR
   clear iV iR y9 Ga dq hz hP hr LR
   go_upto_region 4 with fail
   generalize World.alloc w2 _=w3 at*
   go_wp2_with fail
   go_at_call 53
   refine(cR _).mono ?_
   rintro e w4 ⟨rfl,rfl⟩
   go_wp2_with fail
   exact bodyPost_ret (v:=.tuple #[.slice none 0 0,.int .i64 5]) (by simp[results,Tryz.results17,go_sem]) rfl (kp bel)
 .have hE:RE=cu x:=iV hz
  have hL:RL=[]:=dq (by rw[hE];exact hz)
  subst hL
  replace hE:=hide hE
  have hd:decide (cu x=0)=false:=decide_eq_false hz
  clear iV iR y9 Ga dq hP om
  generalize cu x=E at*
  go_upto_region 3 with fail
  generalize World.alloc w2 _=w3 at*
  go_wp2_with fail
  exact bodyPost_ret (v:=.tuple #[.slice none 0 0,.int .i64 E]) (by simp[results,Tryz.results17,go_sem]) rfl (by rw[hE.out];exact kp bel)
end Go.Proofs.YtoonnbhoiocoeaaGreatDoor
namespace Go.Proofs.YtoonnbhoiocoeaaGreatDoor
def IF (t:Int):Hp:=⟨1,0,0,[(1,t,2*t)]⟩
def Oo:List Hp:=[IF 5,⟨5,0,2,[]⟩,IF 6,IF 6,⟨2,1,2,[]⟩,⟨4,0,9,[]⟩]
def Qa:List Hp:=[⟨7,0,0,[]⟩,IF 7,⟨8,0,0,[]⟩]
def ms:Wd:=(ez f7 Oo).1
def uU:Wd:=(ez ms Qa).1
theorem Vz:(ez f7 Oo).2=[0,0,0,7,0,0]:=by decide+kernel
theorem U9:(ez ms Qa).2=[0,7,0]:=by decide+kernel
theorem Qz:jB ms 2 1=0/\mz ms 2 1 0 100=[(5,10)]:=by decide+kernel
theorem Wz:jB ms 1 1=7:=by decide+kernel
theorem Qo:iK ms.c 1=0/\fC ms.c 1=[]:=by decide+kernel
theorem VT:jB uU 2 1=7/\uU.up=true:=by decide+kernel
theorem Iv:ms.up=true:=by decide+kernel
theorem QE:cu ms=0/\cu uU=0:=by decide+kernel
theorem TD:mz ms 1 1 0 100=[]:=by decide+kernel
theorem Qk:ms.c.length=4:=by decide+kernel
theorem qO:ms.d.safe.length+ms.d.wait.length<=1000/\ms.c.length<=1000/\uU.d.safe.length+uU.d.wait.length<=1000/\uU.c.length<=1000:=by decide+kernel
theorem RK:mz uU 2 1 0 100=[]:=by decide+kernel
theorem Nv:uU.up=true:=by decide+kernel
end Go.Proofs.YtoonnbhoiocoeaaGreatDoor
namespace Go.Proofs.YtoonnbhoiocoeaaGreatDoor
open Go.RowKit
theorem Gs {w:World}{g:Nat}{l:List Nt}{T:TypeId}(B:ac w g (l.flatMap ec) T)(h:l.length<=1000):aY ec w (some ⟨g,0,none⟩) l.length l:=by
 refine⟨.inr ⟨g,0,rfl,B.lt,fun i v hv=>?_⟩,Nat.le_refl _,by omega,fun h=>by cases h⟩
 rw[Nat.zero_add]
 exact(B.cell i).trans hv
theorem qX (t:Int)(ht:t=5\/t=6\/t=7)(w:World):Calls Tryz.prog 37 #[.int .i64 t] w fun e w'=>∃g,e=.returned (.agg #[.int .i64 1,.int .i64 0,.int .i64 0,.slice (some ⟨g,0,none⟩) 1 1])/\aY ec w' (some ⟨g,0,none⟩) 1 [(1,t,2*t)]/\Below w.heap.size w w':=by
 obtain⟨u,hu⟩:∃u,u=2*t:=⟨_,rfl⟩
 rw[<-hu]
 have BA:=ac.laid w [.int .i64 1,.int .i64 0,.int .i64 0,.slice (some ⟨w.heap.size+1,0,none⟩) 1 1] 33 _ rfl
 have bel:Below w.heap.size w (w.alloc (.cells #[.int .i64 1,.int .i64 0,.int .i64 0,.slice (some ⟨w.heap.size+1,0,none⟩) 1 1] 33)):=(Below.refl _ _).alloc (Nat.le_refl _) _
 have dz:(w.alloc (.cells #[.int .i64 1,.int .i64 0,.int .i64 0,.slice (some ⟨w.heap.size+1,0,none⟩) 1 1] 33)).heap.size=w.heap.size+1:=by simp
 obtain⟨w1,CQ⟩:∃w1,w1=w.alloc (.cells #[.int .i64 1,.int .i64 0,.int .i64 0,.slice (some ⟨w.heap.size+1,0,none⟩) 1 1] 33):=⟨_,rfl⟩
 rw[<-CQ] at BA bel dz
 have BB:=ac.laid w1 ([(1,t,u)].flatMap ec) 75 (w.heap.size+1) dz.symm
 have GF:=BA.keep (newB (Below.refl w1.heap.size w1) (.cells ([(1,t,u)].flatMap ec).toArray 75)) BA.lt
 have al:=newB bel (.cells ([(1,t,u)].flatMap ec).toArray 75)
 have sl:=Gs (l:=[(1,t,u)]) BB (by simp)
 simp only[ec,List.flatMap_cons,List.flatMap_nil,List.append_nil] at BB GF al sl
 obtain⟨w2,vH⟩:∃w2,w2=w1.alloc (.cells #[.int .i64 1,.int .i64 t,.int .i64 u] 75):=⟨_,rfl⟩
 rw[<-vH] at BB GF al sl
 have i0:w2.cell? ⟨w.heap.size,0,none⟩=some (.int .i64 1):=GF.cell 0
 have i1:w2.cell? ⟨w.heap.size,1,none⟩=some (.int .i64 0):=GF.cell 1
 have i2:w2.cell? ⟨w.heap.size,2,none⟩=some (.int .i64 0):=GF.cell 2
 have i3:w2.cell? ⟨w.heap.size,3,none⟩=some (.slice (some ⟨w.heap.size+1,0,none⟩) 1 1):=GF.cell 3
 clear BA BB GF bel dz
 rcases ht with rfl|rfl|rfl
 all_goals(
  simp only[Int.reduceMul] at hu
  subst hu
  go_enter Tryz.func37,Tryz.ntmps37
  go_wp2_with fail
  rw[<-CQ,<-vH]
  exact bodyPost_ret (v:=.agg #[.int .i64 1,.int .i64 0,.int .i64 0,.slice (some ⟨w.heap.size+1,0,none⟩) 1 1]) (by simp[results,Tryz.results37,go_sem,i0,i1,i2,i3]) rfl ⟨_,rfl,sl,al⟩)
end Go.Proofs.YtoonnbhoiocoeaaGreatDoor
namespace Go.Proofs.YtoonnbhoiocoeaaGreatDoor
open Go.RowKit
theorem DT (a1 a2:Option Addr)(c1 c2:Nat)(l m:List Int)(w:World)(r1:Row w a1 (l.map (Value.int .i64)))(r2:Row w a2 (m.map (Value.int .i64)))(hl:l.length<=4611686018427387904)(hm:m.length<=4611686018427387904):
  Calls Tryz.prog 24 #[.slice a1 l.length c1,.slice a2 m.length c2] w fun e w'=>e=.returned (.bool (decide (l=m)))/\∃q,w'=w.drewN q:=by
 by_cases kE:l.length=m.length
 .generalize hn:l.length=n at*
  have jf:=kE.symm
  rw[jf] at hm⊢
  by_cases h0:n=0
  .subst h0
   obtain rfl:=List.eq_nil_of_length_eq_zero hn
   obtain rfl:=List.eq_nil_of_length_eq_zero jf
   clear hn jf kE hl hm r1 r2
   go_enter Tryz.func24,Tryz.ntmps24
   go_wp2
   refine wp_loop_rounds 1 ?_
   rw[rounds_succ]
   go_wp2
   go_ret
   exact⟨rfl,0,rfl⟩
  obtain⟨b1,o1,rfl,-,k1⟩:=r1.at (by intro h;simp at h;subst h;simp at hn;omega)
  obtain⟨b2,o2,rfl,-,k2⟩:=r2.at (by intro h;simp at h;subst h;simp at jf;omega)
  have g1:=fun k hk=>L4 k1 k hk
  have g2:=fun k hk=>L4 k2 k hk
  clear k1 k2 r1 r2
  have HL:Hid (l.length=n):=hn
  have HM:Hid (m.length=n):=jf
  clear hn jf kE
  go_enter Tryz.func24,Tryz.ntmps24
  go_wp2
  go_loopg [13] n (fun g LQ wr=>∃k q:Nat,k<=n/\n-k<=g/\LQ=.int .i64 k/\wr=w.drewN q/\Hid (∀j,j<k->l.getD j 0=m.getD j 0))
  case atStart=>exact⟨0,0,Nat.zero_le _,by omega,rfl,rfl,fun j hj=>absurd hj (Nat.not_lt_zero _)⟩
  case round=>
   obtain⟨k,q,hk,hg,rfl,rfl,A⟩:=hrel
   by_cases az:k<n
   .have e1:=g1 k (by rw[HL.out];exact az)
    have e2:=g2 k (by rw[HM.out];exact az)
    clear g1 g2
    generalize hx:l.getD k 0=x at e1
    generalize hy:m.getD k 0=y at e2
    have B:Hid (l.getD k 0=x/\m.getD k 0=y):=⟨hx,hy⟩
    clear hx hy
    cases uH:(x==y) with
    |true=>
     obtain rfl:x=y:=by simpa using uH
     clear uH
     go_wp2_with fail
     go_region
     all_goals go_wp2
     all_goals go_roundg (n-(k+1))
     case measure=>omega
     case rel=>
      refine⟨k+1,q+1,by omega,by omega,by go_num,rfl,(show Hid _ from fun j hj=>?_)⟩
      by_cases e:j=k
      .subst e
       rw[B.out.1,B.out.2]
      .exact A.out j (by omega)
    |false=>
     go_wp2_with fail
     go_region
     all_goals go_wp2
     all_goals go_ret
     refine⟨?_,q+1,rfl⟩
     have aF:l≠m:=IE (d:=0) (k:=k) (by rw[B.out.1,B.out.2];simpa using uH)
     simp[aF]
   .have:k=n:=by omega
    subst this
    clear g1 g2
    go_wp2
    go_ret
    refine⟨?_,q,rfl⟩
    have he:l=m:=IK (d:=0) (HL.out.trans HM.out.symm) (fun j hj=>A.out j (by rw[<-HL.out];exact hj))
    simp[he]
 .have Ql:¬(l.length:Int)=(m.length:Int):=by omega
  have aF:l≠m:=fun e=>kE (by rw[e])
  clear r1 r2
  have H:Hid (l≠m):=aF
  clear aF
  generalize l.length=x at*
  generalize m.length=y at*
  go_enter Tryz.func24,Tryz.ntmps24
  go_wp2
  go_ret
  refine⟨?_,0,rfl⟩
  simp[H.out]
end Go.Proofs.YtoonnbhoiocoeaaGreatDoor
namespace Go.Proofs.YtoonnbhoiocoeaaGreatDoor
open Go.RowKit
open Go.Lib (byteCells)
theorem ej.boxW {w w':World}{g:Nat}{p:Pw}{x:Wd}{t:TypeId}{a1 a2 a3 a4:Option Addr}{n1 n2 n3 n4 c1 c2 c3 c4:Nat}{u:Bool}(k:ej w p x)(hz:aE x.c=0)(B:ac w g [.slice a1 n1 c1,.slice a2 n2 c2,.slice a3 n3 c3,.bool u,.slice a4 n4 c4] t)(hg:w.grownBy w' (some g)):ej w' p x:=
 ⟨k.es,k.e1,k.e2,k.er,(jn.boxW (dC.old k.s (P:=fun _=>False) (fun _ h=>h.elim)) hz B hg).is,dU k.s1 B (by simp) hg,dU k.s2 B (by simp) hg,tL k.r B (by simp) hg⟩
theorem BU {w:World}{g:Nat}(u0 u1 u2 u3 u4:Value):w.grownBy (((((w.setCell ⟨g,0,none⟩ u0).setCell ⟨g,1,none⟩ u1).setCell ⟨g,2,none⟩ u2).setCell ⟨g,3,none⟩ u3).setCell ⟨g,4,none⟩ u4) (some g):=
 ak (ak (ak (ak (ak ⟨rfl,rfl,rfl,Nat.le_refl _,fun _ _ _=>rfl⟩ 0 u0) 1 u1) 2 u2) 3 u3) 4 u4
end Go.Proofs.YtoonnbhoiocoeaaGreatDoor
