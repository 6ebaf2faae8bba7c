/-
  world.Run: one happening after the other.
-/
import Derived.Test.YtoonnbhoiocoeaaGreatDoorQ27
set_option maxHeartbeats 40000000
set_option maxRecDepth 100000
set_option linter.unusedVariables false
namespace Go.Proofs.YtoonnbhoiocoeaaGreatDoor
open Go.RowKit
open Go.Lib (byteCells)
def qE (r:Rc):Hp:=⟨r.k,r.s,r.n,r.e⟩
theorem Gy (w:Wd)(a:List Hp)(y:Hp):ff w (a++[y])=(if bR (ff w a).1 y=0 then dz (ff w a).1 y else(ff w a).1,(ff w a).2++[bR (ff w a).1 y]):=by
 rw[oN,sS]
 generalize ff w a=R
 by_cases h:bR R.1 y=0
 .rw[if_pos h,if_pos h,h]
  rfl
 rw[if_neg h,if_neg h]
 rfl
def xr (W:World)(x:Wd)(said:List Int)(E:Int)(e:Ending)(w':World):Prop:=
 ∃(p:Pw) (ss:Option Addr) (sn sG:Nat),e=.returned (.tuple #[p.val x.up,.slice ss sn sG,.int .i64 E])/\dE w' p x/\Hid (sn=said.length)/\Sl w' ss sG (said.map (Value.int .i64))/\Below W.heap.size W w'
theorem OB:(Tryz.prog.info? 34).map (fun i=>(i.zero,i.size,i.bytes))=some (some (.int .i64 0),1,8):=by kernel_rfl
theorem Lj (s:List Int)(k n:Nat)(hs:s.length=k)(hk:k<n)(v:Int):((s++List.replicate (n-k) 0).map (Value.int .i64)).set k (.int .i64 v)=((s++[v])++List.replicate (n-(k+1)) 0).map (Value.int .i64):=by
 rw[<-List.map_set,List.set_append_right _ _ (by omega),hs,Nat.sub_self]
 obtain⟨m,hm⟩:∃m,n-k=m+1:=⟨n-k-1,by omega⟩
 rw[hm,List.replicate_succ,List.set_cons_zero,show n-(k+1)=m by omega]
 simp
theorem Tu {w':World}{g n:Nat}{cs:List Value}{t:TypeId}(h:w'.ownsRow g t 1 (.slice (some ⟨g,0,none⟩) n n) n cs):ag w' g cs t:=by
 have hl:=h.1
 rcases h.2 with⟨h',_⟩| ⟨g',rZ,cur,h',_,hg,_,_,hs,nN⟩
 .simp at h'
 simp only[Value.slice.injEq,Option.some.injEq,Addr.mk.injEq,and_true,true_and] at h'
 obtain⟨rfl,rfl⟩:=h'
 have e:cur.toList=cs:=by
  rw[<-nN,List.take_of_length_le (by simp[hs])]
 unfold ag
 rw[<-e]
 simpa using hg
theorem Um (n:Nat):(madeCells #[Value.int .i64 0] n).toList=(List.replicate n (0:Int)).map (Value.int .i64):=by
 rw[List.map_replicate]
 apply List.eq_replicate_iff.2
 constructor
 .simp[madeCells]
 intro v hv
 simp[madeCells] at hv
 obtain⟨i,_,rfl⟩:=hv
 simp[Nat.mod_one]
theorem JP (x:Wd)(l:List dK)(p:Pw)(la:Option Addr)(ln lc:Nat)(w:World)(hg:Gl w)(I:dE w p x)(h:dw x=0)(SL:eK w la lc l)(eG:Hid (ln=l.length)):
  Calls Tryz.prog 23 #[p.val x.up,.slice la ln lc] w (if 100<l.length then xr w zD [] 2 else xr w (ff x (l.map (fun r=>qE r.r))).1 (ff x (l.map (fun r=>qE r.r))).2 0):=by
 have c:=fun W g i=>yu x p W g i h
 unfold M9 at c
 have VV:ln<=lc:=by rw[eG.out];exact SL.row.le
 have hlm:lc<=9223372036854775807:=SL.row.max
 obtain⟨U,hU⟩:∃U,U=x.up:=⟨_,rfl⟩
 rw[<-hU] at c⊢
 replace hU:=aa hU
 obtain⟨sa,sn,sG,a1,n1,c1,a2,n2,c2,ra,rn,rc⟩:=p
 simp only[Pw.val] at*
 have BX:=(ag.laid w [.slice sa sn sG,.slice a1 n1 c1,.slice a2 n2 c2,.bool U,.slice ra rn rc] 30 _ rfl).alc (.cells #[.slice none 0 0,.slice none 0 0,.slice none 0 0,.bool false,.slice none 0 0] 30)
 have BR:=ag.laid (w.alloc (.cells #[.slice sa sn sG,.slice a1 n1 c1,.slice a2 n2 c2,.bool U,.slice ra rn rc] 30)) [.slice none 0 0,.slice none 0 0,.slice none 0 0,.bool false,.slice none 0 0] 30 (w.heap.size+1) (by simp)
 have bel:=newB (newB (Below.refl w.heap.size w) (.cells #[.slice sa sn sG,.slice a1 n1 c1,.slice a2 n2 c2,.bool U,.slice ra rn rc] 30)) (.cells #[.slice none 0 0,.slice none 0 0,.slice none 0 0,.bool false,.slice none 0 0] 30)
 replace I:=aa (I.keep bel (Nat.le_refl _))
 have gl:=hg.call bel
 obtain⟨gR,jv⟩:∃gR,gR=w.heap.size+1:=⟨_,rfl⟩
 rw[<-jv] at BR
 have ip:w.heap.size<=gR:=by omega
 by_cases M2:100<l.length
 .rw[if_pos M2]
  have hm:(100:Int)<ln:=by rw[eG.out];omega
  go_enter Tryz.func23,Tryz.ntmps23
  go_upto_region 1 with fail
  rw[<-jv]
  generalize World.alloc (World.alloc w _) _=w1 at*
  clear jv
  obtain⟨x0,x1,x2,x3,x4,xl⟩:=BX.c5
  go_wp2_with fail
  go_at_call 32
  refine(c _ gl I.out).mono ?_
  rintro e w2 ⟨h',⟨sb,sm,sH,b1,m1,k1,b2,m2,k2,rb,rm,rk⟩,ys,he,V,hh,bb⟩
  simp only at he
  subst he
  clear c x0 x1 x2 x3 x4 xl BX I
  have bq:=newB bb (.cells #[.slice sb sm sH,.slice b1 m1 k1,.slice b2 m2 k2,.bool U,.slice rb rm rk] 30)
  replace BR:=BR.keep bq BR.lt
  replace bel:=ac bel bq
  clear bq bb V hh
  go_upto_region 5 with fail
  generalize World.alloc w2 _=w3 at*
  obtain⟨r0,r1,r2,r3,r4,-⟩:=BR.c5
  obtain⟨f0,f1,f2,f3,f4⟩:=BR.f5
  have rl:=BR.lt
  replace BR:=aa BR
  replace bel:=aa bel
  go_wp2_with fail
  have B9:=fA BR.out (.slice none 0 0) (.slice none 0 0) (.slice none 0 0) (.bool false) (.slice none 0 0)
  have aq:=dP bel.out ip (.slice none 0 0) (.slice none 0 0) (.slice none 0 0) (.bool false) (.slice none 0 0)
  obtain⟨i0,i1,i2,i3,i4,-⟩:=B9.c5
  exact bodyPost_ret (v:=.tuple #[.agg #[.slice none 0 0,.slice none 0 0,.slice none 0 0,.bool false,.slice none 0 0],.slice none 0 0,.int .i64 2]) (by simp[results,Tryz.results23,go_sem,i0,i1,i2,i3,i4]) rfl ⟨ti,none,0,0,rfl,dE.nil _,aa rfl,Sl.ofNil _,aq⟩
 rw[if_neg M2]
 have hm:¬(100:Int)<ln:=by rw[eG.out];omega
 have kH:ln<=100:=by rw[eG.out];omega
 obtain⟨L,hL⟩:∃L,L=l.map (fun r=>qE r.r):=⟨_,rfl⟩
 rw[<-hL]
 replace hL:=aa hL
 obtain⟨RX,QX⟩:∃RX,RX=ff x L:=⟨_,rfl⟩
 rw[<-QX]
 replace QX:=aa QX
 obtain⟨ie,hi,bK,bm,bQ⟩:=info_parts OB
 clear M2
 go_enter Tryz.func23,Tryz.ntmps23
 go_upto_region 1 with fail
 rw[<-jv]
 generalize World.alloc (World.alloc w _) _=w1 at*
 clear jv
 obtain⟨x0,x1,x2,x3,x4,xl⟩:=BX.c5
 go_wp2_with fail
 go_at_call 32
 refine(c _ gl I.out).mono ?_
 rintro e w2 ⟨h',⟨sb,sm,sH,b1,m1,k1,b2,m2,k2,rb,rm,rk⟩,ys,he,V,hh,bb⟩
 simp only at he
 subst he
 clear c x0 x1 x2 x3 x4 xl BX I
 have Ji:=BR.lt
 have NT:=bb.size
 have WB:=V.box
 simp only[Pw.cells,<-hU.out] at WB
 have bq:=newB bb (.cells #[.slice sb sm sH,.slice b1 m1 k1,.slice b2 m2 k2,.bool U,.slice rb rm rk] 30)
 replace BR:=BR.keep bq BR.lt
 have lg:gR<w2.heap.size:=Nat.lt_of_lt_of_le Ji NT
 replace bel:=ac bel bq
 have lh:w.heap.size<=h':=Nat.le_trans (Nat.le_of_lt (Nat.lt_of_le_of_lt ip Ji)) hh
 have Uz:gR≠h':=by omega
 clear bq bb V hh Ji NT gl
 go_upto_region 6 with fail
 generalize w2.heap.size=g at*
 generalize World.alloc w2 _=w3 at*
 have ZN:=bel.size
 go_wp2_with (at_make;refine wpList_make_full _ rfl (.tmp 26) (.tmp 26) 60 rfl w3.heap.size 34 ie (.int .i64 0) 1 Tryz.underlying60 hi bK bm _ _ _ _ ln rfl rfl rfl rfl (by rw[bQ];omega) (by unfold maxLen;omega) (Nat.le_refl _) ?_)
 intro w4 own grow
 have b4:Below w3.heap.size w3 w4:=(Below.refl _ _).grown grow (Nat.le_refl _) (fun k h=>by cases h)
 rw[Um] at own
 have Om:=Tu own
 obtain⟨gS,zP⟩:∃gS,gS=w3.heap.size:=⟨_,rfl⟩
 rw[<-zP] at Om⊢
 have Ks:g<gS:=by rw[zP];exact WB.blk.lt
 have Tx:h'<gS:=by rw[zP];exact WB.rb.lt
 have QL:gR<gS:=by rw[zP];exact BR.lt
 have XP:=aa ((WB.more (Q':=fun q=>q=gS) (fun q hq=>.inr (by rw[hq,zP];exact Nat.le_refl _))).call b4)
 replace BR:=aa (BR.keep b4 BR.lt)
 have cq:=ac bel b4
 have H0:Hid (([]:List Int).length=0/\ff x (L.take 0)=(x,[])):=aa ⟨rfl,rfl⟩
 replace Om:=aa (show ag w4 gS ((([]:List Int)++List.replicate (ln-0) 0).map (Value.int .i64)) 34 from Om)
 have jF:=aa hg
 clear own grow b4 WB bel zP hg
 go_wp2_with fail
 go_loopw [30] (fun i wr=>∃(k:Nat) (h2:Nat) (p2:Pw) (Pf:List Int) (x2:Wd) (s:List Int),k<=ln/\i=.int .i64 k/\Hid (ix (fun q=>q=gS) wr g h2 p2 Pf x2)/\Hid (ag wr gS ((s++List.replicate (ln-k) 0).map (Value.int .i64)) 34)/\Hid (s.length=k/\ff x (L.take k)=(x2,s))/\Hid (ag wr gR [.slice none 0 0,.slice none 0 0,.slice none 0 0,.bool false,.slice none 0 0] 30)/\Hid (w.heap.size<=h2/\gS≠h2/\gR≠h2)/\Below w.heap.size w wr) (fun i _=>ln-(intOf i).toNat)
 case atStart=>exact⟨0,h',_,ys,x,[],Nat.zero_le _,rfl,XP,Om,H0,BR,aa ⟨lh,by omega,by omega⟩,cq⟩
 case round=>
  clear XP Om H0 BR cq
  obtain⟨k,h2,p2,Pf,x2,s,hk,rfl,WB,BS,H,BR,aF,bel⟩:=hrel
  by_cases aE:k<ln
  .have dy:k<l.length:=by rw[<-eG.out];exact aE
   obtain⟨q,hq⟩:∃q,l[k]? =some q:=⟨_,List.getElem?_eq_getElem dy⟩
   obtain⟨lb,lo,rfl,NZ⟩:=SL.row.where dK.four (by decide) (by intro h;subst h;simp at dy)
   have S':=SL.keep bel (Nat.le_refl _)
   have d0:=S'.row.cell dK.four k 0 q _ hq rfl
   have d1:=S'.row.cell dK.four k 1 q _ hq rfl
   have d2:=S'.row.cell dK.four k 2 q _ hq rfl
   have d3:=S'.row.cell dK.four k 3 q _ hq rfl
   simp only[Nat.add_zero] at d0
   have Th:=Nat.lt_of_lt_of_le NZ bel.size
   have pL:=S'.ent q (List.mem_of_getElem? hq)
   have Wu:L[k]? =some (qE q.r):=by rw[hL.out,List.getElem?_map,hq];rfl
   have Db:=Gy x (L.take k) (qE q.r)
   have sJ:L.take (k+1)=L.take k++[qE q.r]:=by rw[List.take_add_one,Wu];rfl
   rw[<-sJ,H.out.2] at Db
   simp only at Db
   obtain⟨HE,dO⟩:∃HE,HE=bR x2 (qE q.r):=⟨_,rfl⟩
   obtain⟨Z,hZ⟩:∃Z,Z=(if bR x2 (qE q.r)=0 then dz x2 (qE q.r) else x2):=⟨_,rfl⟩
   rw[<-hZ,<-dO] at Db
   have cH:=fun V B hQ gl t=>vU (Q:=fun q=>q=gS) (qE q.r) g h2 p2 Pf x2 V B hQ gl q.a q.r.e.length q.c t (aa rfl)
   rw[<-hZ,<-dO] at cH
   unfold qE at cH
   simp only at cH
   have bc:=newB (Below.refl wr.heap.size wr) (.cells #[.int .i64 q.r.k,.int .i64 q.r.s,.int .i64 q.r.n,.slice q.a q.r.e.length q.c] 33)
   have BC:=ag.laid wr [.int .i64 q.r.k,.int .i64 q.r.s,.int .i64 q.r.n,.slice q.a q.r.e.length q.c] 33 _ rfl
   have GO:=(jF.out.call bel).call bc
   have kO:=pL.call bc
   replace WB:=aa (WB.out.call bc)
   replace BS:=aa (BS.out.keep bc BS.out.lt)
   replace BR:=aa (BR.out.keep bc BR.out.lt)
   replace bel:=ac bel bc
   replace Db:=aa Db
   replace hq:=aa hq
   clear S' dy pL Wu sJ dO hZ bc
   go_upto_region 10 with fail
   generalize wr.heap.size=gC at*
   generalize World.alloc wr _=v at*
   obtain⟨y0,y1,y2,y3,yl⟩:=BC.c4
   have zc:=cH v WB.out (fun q hq=>by rw[hq];exact BS.out.lt) GO kO
   clear d0 d1 d2 d3 Th cH
   go_wp2_with fail
   go_at_call 33
   refine zc.mono ?_
   rintro e w5 ⟨rfl,h3,p3,ys3,U7,gr,Uv⟩
   have Se:=BS.out
   have ZX:=Se.lt
   have NN:Hid (w.heap.size<=h3/\gS≠h3/\gR≠h3):=aa (by
    have:=aF.out
    have:=bel.size
    have:=BR.out.lt
    rcases Uv with rfl|Uv
    .exact aF.out
    exact⟨by omega,by omega,by omega⟩)
   have JY:=Se.gb2 gr (by omega) aF.out.2.1
   have Lu:=aa (BR.out.gb2 gr (by omega) aF.out.2.2)
   have aC:Below w.heap.size w w5:=bel.trans (gr.from (by omega) aF.out.1 bel.size)
   have Rt:=Lj s k ln H.out.1 aE HE
   have Zr:=aa (U7.said (i:=k) (v:=HE) rfl JY (by decide) (by decide))
   have PM:=JY.set k (.int .i64 HE)
   rw[Rt] at PM
   replace PM:=aa PM
   have Zg:=aa (Lu.out.other (g':=gS) k (.int .i64 HE) (by omega))
   have ay:=aa (aC.setCell (p:=⟨gS,k,none⟩) (by show w.heap.size<=gS;omega) (.int .i64 HE))
   obtain⟨z,hz⟩:∃z:Int,w5.cell? ⟨gS,k,none⟩=some (.int .i64 z):=⟨0,by
    rw[JY.cell,List.getElem?_map,List.getElem?_append_right (by rw[H.out.1];exact Nat.le_refl _),H.out.1,Nat.sub_self,List.getElem?_replicate,if_pos (by omega)]
    rfl⟩
   have hzf:=JY.free k
   have hzl:=JY.lt
   have H4:Hid ((s++[HE]).length=k+1/\ff x (L.take (k+1))=(Z,s++[HE])):=aa ⟨by rw[List.length_append,H.out.1];rfl,Db.out⟩
   clear y0 y1 y2 y3 yl zc Rt JY aC Lu U7 gr Uv Se ZX Db H aF WB BS BR GO kO bel BC
   go_wp2_with fail
   go_roundw
   case rel=>exact⟨k+1,h3,p3,ys3,Z,s++[HE],Nat.succ_le_of_lt aE,by go_num,Zr,PM,H4,Zg,NN,ay.out⟩
   case measure=>
    have:=Nat.sub_lt_sub_left aE (Nat.lt_succ_self k)
    simpa[intOf] using this
  obtain rfl:k=ln:=Nat.le_antisymm hk (Nat.le_of_not_lt aE)
  have hR:RX=(x2,s):=by
   rw[QX.out,<-H.out.2,List.take_of_length_le (by rw[hL.out,List.length_map,<-eG.out];exact Nat.le_refl _)]
  have Hs:=BS.out
  rw[Nat.sub_self,List.replicate_zero,List.append_nil] at Hs
  have K9:Hid (k=s.length):=aa H.out.1.symm
  subst hR
  obtain⟨vg,u9,vk,d1,o1,e1,d2,o2,e2,uN,va,vB⟩:=p2
  have mO:=WB.out
  have DI:=mO.blk
  simp only[Pw.cells] at DI
  obtain⟨ZU,yW⟩:∃U,U=x2.up:=⟨_,rfl⟩
  rw[<-yW] at DI
  have Ps:=BR.out
  obtain⟨r0,r1,r2,r3,r4,-⟩:=Ps.c5
  obtain⟨f0,f1,f2,f3,f4⟩:=Ps.f5
  have rl:=Ps.lt
  obtain⟨g0,g1,g2,g3,g4,gl⟩:=DI.c5
  have E':¬g=gR:=by omega
  have GH:¬gR=g:=by omega
  have VX:=aa QL
  have aaJ:=aa Ks
  replace mO:=aa mO
  replace Hs:=aa Hs
  replace yW:=aa yW
  replace bel:=aa bel
  clear DI Ps QL Ks Tx lh Uz hm kH WB BS H aF lg ZN
  go_wp2_with fail
  have B9:=fA BR.out (.slice vg u9 vk) (.slice d1 o1 e1) (.slice d2 o2 e2) (.bool ZU) (.slice uN va vB)
  have aq:=dP bel.out ip (.slice vg u9 vk) (.slice d1 o1 e1) (.slice d2 o2 e2) (.bool ZU) (.slice uN va vB)
  have QI:=al (al (al (al (al (au wr (some gR)) 0 (.slice vg u9 vk)) 1 (.slice d1 o1 e1)) 2 (.slice d2 o2 e2)) 3 (.bool ZU)) 4 (.slice uN va vB)
  have W9:=(ix.wrote (Q:=fun q=>q=gS) (W':=((((wr.setCell ⟨gR,0,none⟩ (.slice vg u9 vk)).setCell ⟨gR,1,none⟩ (.slice d1 o1 e1)).setCell ⟨gR,2,none⟩ (.slice d2 o2 e2)).setCell ⟨gR,3,none⟩ (.bool ZU)).setCell ⟨gR,4,none⟩ (.slice uN va vB)) BR.out QI (by rw[<-yW.out];exact B9) mO.out.is mO.out.so mO.out.right mO.out.ra mO.out.rb mO.out.ry mO.out.rm).is
  have S9:=Hs.out.grown QI (fun j e=>by obtain rfl:=Option.some.inj e;have:=VX.out;omega)
  obtain⟨i0,i1,i2,i3,i4,-⟩:=B9.c5
  exact bodyPost_ret (v:=.tuple #[.agg #[.slice vg u9 vk,.slice d1 o1 e1,.slice d2 o2 e2,.bool ZU,.slice uN va vB],.slice (some ⟨gS,0,none⟩) k k,.int .i64 0]) (by simp[results,Tryz.results23,go_sem,i0,i1,i2,i3,i4]) rfl
   ⟨⟨vg,u9,vk,d1,o1,e1,d2,o2,e2,uN,va,vB⟩,_,_,_,by rw[<-yW.out];rfl,W9,K9,⟨S9.row 0 _ (fun j u hu=>by rw[Nat.zero_add];exact hu),by rw[List.length_map,<-K9.out];exact Nat.le_refl _,by omega,fun e=>by cases e⟩,aq⟩
open Go.RowKit Go.ChangeShapes Go.WideShapes Go.ChangeAt Go.Joins
theorem Le:Tryz.prog.cellsOf 33=4:=by kernel_rfl
theorem KO {H:Type}{enc:TypeId × Value->H}{W:World}{r:Reach}{b0:Nat}{v:Value}{d:DataW H}{p:List MemPlace}(hv:Value.okWide Tryz.prog W r b0 33 v)
  (h:DataW.Trod enc Tryz.prog W 0 (fun _=>true) true 33 v d p) (hw:iT 33 d):
  ∃(q:Hp) (ao:Option Addr) (cap:Nat),v=.agg #[.int .i64 q.k,.int .i64 q.s,.int .i64 q.n,.slice ao q.e.length cap]/\be ec W ao cap q.e:=by
 obtain⟨c0,c1,c2,c3,y0,y1,y2,y3,m,rfl,rfl,rfl,h0,h1,h2,h3⟩:=open_agg4 Tryz.underlying33 (by kernel_rfl) Le hv h
 obtain⟨a0,e0,rfl,w0⟩:=DataW.trod_int Tryz.underlying3 h0
 obtain⟨a1,e1,rfl,w1⟩:=DataW.trod_int Tryz.underlying3 h1
 obtain⟨a2,e2,rfl,w2⟩:=DataW.trod_int Tryz.underlying3 h2
 obtain⟨ao,n,cap,e3⟩:=slice_form Tryz.underlying31 h3
 simp at e0 e1 e2 e3
 subst e0 e1 e2 e3
 have Qs:iT 31 y3.1:=by
  intro n hn
  refine hw n ?_
  simp[DataW.weights,DataW.weightsEach,Tryz.underlying33,hn]
 obtain⟨l,hl,s,_,_⟩:=ky (ao:=ao) (n:=n) (cap:=cap) ec (fun _=>True) Tryz.underlying31 (by kernel_rfl) (by decide) dq (fun cs x m=>NR cs x m) (by simpa[Value.cells] using h3) Qs
 subst hl
 exact⟨⟨a0,a1,a2,l⟩,ao,cap,rfl,s⟩
def Q9 (W:World)(l:List Pt)(E:Int)(e:Ending)(w':World):Prop:=
 ∃(a:Option Addr) (n G:Nat),e=.returned (.tuple #[.slice a n G,.int .i64 E])/\Hid (n=l.length)/\w'.ownsRow W.heap.size 56 2 (.slice a n G) n (ar l)/\Below W.heap.size W w'
theorem uW {W w':World}{E:Int}(b:Below W.heap.size W w'):Q9 W [] E (.returned (.tuple #[.slice none 0 0,.int .i64 E])) w':=
 ⟨none,0,0,rfl,aa rfl,World.ownsRow_nil _ _ _ _,b⟩
theorem Cd (x:Wd)(r s:Int):
  (dw x≠0->kt x r s=dw x)/\(dw x=0->¬(0<=r/\r<=2)->kt x r s=5)/\(dw x=0->(0<=r/\r<=2)->x.rd.getD r.toNat 0<0->kt x r s=7)/\
   (dw x=0->(0<=r/\r<=2)->¬x.rd.getD r.toNat 0<0->kt x r s=mj (cd ((aO x.d).take (x.rd.getD r.toNat 0).toNat)) s):=by
 unfold kt
 refine⟨fun h=>if_pos h,fun h k=>?_,fun h k v=>?_,fun h k v=>?_⟩
 .rw[if_neg (by simp[h]),if_pos k]
 .rw[if_neg (by simp[h]),if_neg (fun e=>e k),if_pos v]
 rw[if_neg (by simp[h]),if_neg (fun e=>e k),if_neg v]
theorem GP {x:Wd}{r s f t:Int}(h:kt x r s≠0):qA x r s f t=[]:=if_neg h
theorem GT (x:Wd)(p:Pw)(r s f t:Int)(w:World)(hg:Gl w)(I:dE w p x)(few:p.n1+p.n2<=9223372036854775807)(kg:p.sn<=140737488355328):
  Calls Tryz.prog 17 #[p.val x.up,.int .i64 r,.int .i64 s,.int .i64 f,.int .i64 t] w (Q9 w (qA x r s f t) (kt x r s)):=by
 obtain⟨KW,J',zO,Jg⟩:=Cd x r s
 have c:=fun W g i=>k7 x p W g i few kg
 unfold zm at c
 obtain⟨RE,wV⟩:∃RE,RE=kt x r s:=⟨_,rfl⟩
 obtain⟨RL,xB⟩:∃RL,RL=qA x r s f t:=⟨_,rfl⟩
 have jT:RE≠0->RL=[]:=fun e=>by rw[xB];exact GP (by rw[<-wV];exact e)
 rw[<-wV] at KW J' zO Jg⊢
 rw[<-xB]
 obtain⟨es,e1,e2,er,IS,S1,S2,SR⟩:=I
 obtain⟨U,hU⟩:∃U,U=x.up:=⟨_,rfl⟩
 rw[<-hU] at c⊢
 obtain⟨sa,sn,sG,a1,n1,c1,a2,n2,c2,ra,rn,rc⟩:=p
 simp only[Pw.val] at*
 have BX:=ag.laid w [.slice sa sn sG,.slice a1 n1 c1,.slice a2 n2 c2,.bool U,.slice ra rn rc] 30 _ rfl
 have bel:=newB (Below.refl w.heap.size w) (.cells #[.slice sa sn sG,.slice a1 n1 c1,.slice a2 n2 c2,.bool U,.slice ra rn rc] 30)
 have I1:=aa (show dE (w.alloc (.cells #[.slice sa sn sG,.slice a1 n1 c1,.slice a2 n2 c2,.bool U,.slice ra rn rc] 30)) ⟨sa,sn,sG,a1,n1,c1,a2,n2,c2,ra,rn,rc⟩ x from dE.alloc ⟨es,e1,e2,er,IS,S1,S2,SR⟩ _)
 have gl:=hg.call bel
 replace hU:=aa hU
 replace wV:=aa wV
 replace xB:=aa xB
 have YK:=aa er
 clear es e1 e2 er IS S1 S2 SR
 go_enter Tryz.func17,Tryz.ntmps17
 go_upto_region 1 with fail
 generalize World.alloc w _=w1 at*
 obtain⟨x0,x1,x2,x3,x4,xl⟩:=BX.c5
 go_wp2_with fail
 go_at_call 39
 refine(c _ gl I1.out).mono ?_
 rintro e w2 ⟨a',n',G',la,ln,lG,l,rfl,hP,b2⟩
 clear x0 x1 x2 x3 x4 xl c
 have bq:=newB b2 (.cells #[.slice a' n' G'] 24)
 replace BX:=BX.keep bq BX.lt
 have I2:=aa (I1.out.call bq)
 have Z2:=aa (newB (Below.refl w2.heap.size w2) (.cells #[.slice a' n' G'] 24))
 replace bel:=ac bel bq
 clear bq b2 gl I1
 by_cases hz:dw x=0
 .obtain⟨rfl,_,LR,eG,nO⟩:=hP.out hz
  replace LR:=LR.call Z2.out
  have VV:ln<=lG:=by rw[eG];exact LR.row.le
  have hlm:lG<=9223372036854775807:=LR.row.max
  replace eG:=aa eG
  replace nO:=aa nO
  rw[hz]
  by_cases hr:0<=r/\r<=2
  .obtain⟨k,rfl⟩:∃k:Nat,r=k:=⟨r.toNat,by omega⟩
   rw[Int.toNat_natCast] at zO Jg
   have m6:k<3:=by omega
   obtain⟨r1,r2,r3,r4,r5,r6⟩:=fi hz
   have dy:k<x.rd.length:=by omega
   have Tp:rn=3:=by rw[YK.out];exact r5
   have A9:fl x.up (iW x).length (x.rd.getD k 0)=true:=r6 _ (by rw[List.getD_eq_getElem?_getD,List.getElem?_eq_getElem dy];exact List.getElem_mem dy)
   have PN:=I2.out.r
   obtain⟨rb,ro,rfl,EL,Ft⟩:=PN.row.at (by intro e;rw[List.map_eq_nil_iff] at e;rw[e] at dy;simp at dy)
   clear EL Ft
   have v0:=PN.int k dy
   subst Tp
   have cR:=fun W=>nX (k:Int) W
   rw[show fK (k:Int)=true by unfold fK;exact decide_eq_true (by omega)] at cR
   generalize hv:x.rd.getD k 0=v at*
   have hkI:(k:Int)<3:=by omega
   by_cases Dt:v<0
   .have hE:RE=7:=zO hz hr Dt
    have hL:RL=[]:=jT (by rw[hE];decide)
    have Ce:v=-1:=by
     unfold fl at A9
     simp only[Bool.and_eq_true,decide_eq_true_eq] at A9
     omega
    subst hE hL Ce
    clear KW J' zO Jg jT hz hP A9 r1 r2 r3 r4 r5 r6 hr PN LR
    go_upto_region 4 with fail
    generalize World.alloc w2 _=w3 at*
    have x4:=BX.cell 4
    have xl:=BX.lt
    go_wp2_with fail
    go_at_call 53
    refine(cR _).mono ?_
    rintro e w4 ⟨rfl,rfl⟩
    go_wp2_with fail
    exact bodyPost_ret (v:=.tuple #[.slice none 0 0,.int .i64 7]) (by simp[results,Tryz.results17,go_sem]) rfl (uW bel)
   have hE:=Jg hz hr (by omega)
   unfold fl at A9
   simp only[Bool.and_eq_true,Bool.or_eq_true,decide_eq_true_eq] at A9
   obtain⟨⟨_,Y7⟩,WG⟩:=A9
   have SY:x.up=true:=WG.elim id (fun e=>absurd e Dt)
   have JZ:iW x=aO x.d:=if_pos SY
   obtain⟨V,rfl⟩:∃V:Nat,v=V:=⟨v.toNat,by omega⟩
   rw[Int.toNat_natCast] at hE
   have Ys:V<=ln:=by rw[eG.out,<-List.length_map (f:=fun q:dK=>q.r),nO.out];omega
   have bQ:=IP (MY hz SY).2.1 V
   obtain⟨CX,OK⟩:∃CX,CX=cd ((aO x.d).take V):=⟨_,rfl⟩
   have rL:=fV bQ
   rw[<-OK] at hE rL
   have Rg:RL=qo (gU CX s) f t:=by
    by_cases h0:RE=0
    .rw[xB.out]
     unfold qA
     rw[if_pos (by rw[<-wV.out];exact h0),Int.toNat_natCast,hv,Int.toNat_natCast,<-OK]
    rw[jT h0]
    have:gU CX s=[]:=by
     unfold gU
     rw[if_neg (by rw[<-hE];exact h0)]
    rw[this]
    rfl
   have SK:(l.take V).map (·.r)=(aO x.d).take V:=by rw[List.map_take,nO.out,JZ]
   have ZV:Hid (V=(l.take V).length):=aa (by rw[List.length_take,<-eG.out];omega)
   have cP:=fun W S=>nz (l.take V) la V lG 4 W S ZV (aa (by rw[SK,<-OK];exact(bZ rL).symm))
   rw[SK,bQ,<-OK] at cP
   have LV:eK (w2.alloc (.cells #[.slice a' 4 G'] 24)) la lG (l.take V):=⟨LR.row.front dK.four V,fun q hq=>LR.ent q (List.mem_of_mem_take hq)⟩
   have cQ:=fun W (a:Option Addr) G (i:cu W a G CX)=>KJ s f t i (bZ rL).symm
   rw[<-hE,<-Rg] at cQ
   have hVc:V<=lG:=Nat.le_trans Ys VV
   have hVm:(V:Int)<=9223372036854775807:=by omega
   have nV:¬(V:Int)=-1:=by omega
   have nV2:((V:Int)==-1)=false:=by simp
   obtain⟨q,hq⟩:∃q,q=RL.length:=⟨_,rfl⟩
   rw[<-hq] at cQ
   replace hq:=aa hq
   clear KW J' zO Jg jT hz hP Y7 WG SY JZ r1 r2 r3 r4 r5 r6 hr PN LR hE bQ OK rL Rg SK hv Dt wV xB
   go_upto_region 4 with fail
   generalize World.alloc w2 _=w3 at*
   have x4:=BX.cell 4
   have xl:=BX.lt
   go_wp2_with fail
   go_at_call 53
   refine(cR _).mono ?_
   rintro e w4 ⟨rfl,rfl⟩
   go_wp2_with fail
   go_at_call 54
   refine((cP _ LV).mono fun _ _ h=>xG h).mono ?_
   rintro e w5 ⟨aS,GS,rfl,BS,IN,b5,hs5⟩
   clear x4 xl cP LV v0
   replace bel:=ac bel b5
   clear b5
   go_upto_region 12 with fail
   generalize World.alloc w5 _=w6 at*
   have s0:=BS.cell 0
   have sl:=BS.lt
   go_wp2_with fail
   go_at_call 55
   refine(cQ _ _ _ IN.is).mono ?_
   rintro e w7 ⟨aQ,GQ,rfl,own,b7⟩
   have jw:=OZ own bel.size
   replace bel:=ac bel b7
   clear own b7 cQ IN
   go_wp2_with fail
   exact bodyPost_ret (v:=.tuple #[.slice aQ q GQ,.int .i64 RE]) (by simp[results,Tryz.results17,go_sem]) rfl ⟨aQ,q,GQ,rfl,hq,jw,bel⟩
  have hE:RE=5:=J' hz hr
  have hL:RL=[]:=jT (by rw[hE];decide)
  subst hE hL
  have cR:=fun W=>nX r W
  rw[show fK r=false by unfold fK;exact decide_eq_false hr] at cR
  clear KW J' zO Jg jT hz hP hr LR
  go_upto_region 4 with fail
  generalize World.alloc w2 _=w3 at*
  go_wp2_with fail
  go_at_call 53
  refine(cR _).mono ?_
  rintro e w4 ⟨rfl,rfl⟩
  go_wp2_with fail
  exact bodyPost_ret (v:=.tuple #[.slice none 0 0,.int .i64 5]) (by simp[results,Tryz.results17,go_sem]) rfl (uW bel)
 have hE:RE=dw x:=KW hz
 have hL:RL=[]:=jT (by rw[hE];exact hz)
 subst hL
 replace hE:=aa hE
 have hd:decide (dw x=0)=false:=decide_eq_false hz
 clear KW J' zO Jg jT hP wV
 generalize dw x=E at*
 go_upto_region 3 with fail
 generalize World.alloc w2 _=w3 at*
 go_wp2_with fail
 exact bodyPost_ret (v:=.tuple #[.slice none 0 0,.int .i64 E]) (by simp[results,Tryz.results17,go_sem]) rfl (by rw[hE.out];exact uW bel)
def Jt (t:Int):Hp:=⟨1,0,0,[(1,t,2*t)]⟩
def QV:List Hp:=[Jt 5,⟨5,0,2,[]⟩,Jt 6,Jt 6,⟨2,1,2,[]⟩,⟨4,0,9,[]⟩]
def PI:List Hp:=[⟨7,0,0,[]⟩,Jt 7,⟨8,0,0,[]⟩]
def mL:Wd:=(ff iy QV).1
def uU:Wd:=(ff mL PI).1
theorem XY:(ff iy QV).2=[0,0,0,7,0,0]:=by decide+kernel
theorem Yj:(ff mL PI).2=[0,7,0]:=by decide+kernel
theorem Ru:kt mL 2 1=0/\qA mL 2 1 0 100=[(5,10)]:=by decide+kernel
theorem WK:kt mL 1 1=7:=by decide+kernel
theorem Rq:mj mL.c 1=0/\gU mL.c 1=[]:=by decide+kernel
theorem W5:kt uU 2 1=7/\uU.up=true:=by decide+kernel
theorem JV:mL.up=true:=by decide+kernel
theorem Rd:dw mL=0/\dw uU=0:=by decide+kernel
theorem UR:qA mL 1 1 0 100=[]:=by decide+kernel
theorem Ro:mL.c.length=4:=by decide+kernel
theorem ri:mL.d.safe.length+mL.d.wait.length<=1000/\mL.c.length<=1000/\uU.d.safe.length+uU.d.wait.length<=1000/\uU.c.length<=1000:=by decide+kernel
theorem TI:qA uU 2 1 0 100=[]:=by decide+kernel
theorem Mz:uU.up=true:=by decide+kernel
theorem Hu {w:World}{g:Nat}{l:List Nt}{T:TypeId}(B:ag w g (l.flatMap ec) T)(h:l.length<=1000):be ec w (some ⟨g,0,none⟩) l.length l:=by
 refine⟨.inr ⟨g,0,rfl,B.lt,fun i v hv=>?_⟩,Nat.le_refl _,by omega,fun h=>by cases h⟩
 rw[Nat.zero_add]
 exact(B.cell i).trans hv
theorem re (t:Int)(ht:t=5\/t=6\/t=7)(w:World):Calls Tryz.prog 37 #[.int .i64 t] w fun e w'=>∃g,e=.returned (.agg #[.int .i64 1,.int .i64 0,.int .i64 0,.slice (some ⟨g,0,none⟩) 1 1])/\be ec w' (some ⟨g,0,none⟩) 1 [(1,t,2*t)]/\Below w.heap.size w w':=by
 obtain⟨u,hu⟩:∃u,u=2*t:=⟨_,rfl⟩
 rw[<-hu]
 have BA:=ag.laid w [.int .i64 1,.int .i64 0,.int .i64 0,.slice (some ⟨w.heap.size+1,0,none⟩) 1 1] 33 _ rfl
 have bel:Below w.heap.size w (w.alloc (.cells #[.int .i64 1,.int .i64 0,.int .i64 0,.slice (some ⟨w.heap.size+1,0,none⟩) 1 1] 33)):=(Below.refl _ _).alloc (Nat.le_refl _) _
 have dW:(w.alloc (.cells #[.int .i64 1,.int .i64 0,.int .i64 0,.slice (some ⟨w.heap.size+1,0,none⟩) 1 1] 33)).heap.size=w.heap.size+1:=by simp
 obtain⟨w1,DU⟩:∃w1,w1=w.alloc (.cells #[.int .i64 1,.int .i64 0,.int .i64 0,.slice (some ⟨w.heap.size+1,0,none⟩) 1 1] 33):=⟨_,rfl⟩
 rw[<-DU] at BA bel dW
 have BB:=ag.laid w1 ([(1,t,u)].flatMap ec) 75 (w.heap.size+1) dW.symm
 have Hl:=BA.keep (newB (Below.refl w1.heap.size w1) (.cells ([(1,t,u)].flatMap ec).toArray 75)) BA.lt
 have am:=newB bel (.cells ([(1,t,u)].flatMap ec).toArray 75)
 have sl:=Hu (l:=[(1,t,u)]) BB (by simp)
 simp only[ec,List.flatMap_cons,List.flatMap_nil,List.append_nil] at BB Hl am sl
 obtain⟨w2,xd⟩:∃w2,w2=w1.alloc (.cells #[.int .i64 1,.int .i64 t,.int .i64 u] 75):=⟨_,rfl⟩
 rw[<-xd] at BB Hl am sl
 have i0:w2.cell? ⟨w.heap.size,0,none⟩=some (.int .i64 1):=Hl.cell 0
 have i1:w2.cell? ⟨w.heap.size,1,none⟩=some (.int .i64 0):=Hl.cell 1
 have i2:w2.cell? ⟨w.heap.size,2,none⟩=some (.int .i64 0):=Hl.cell 2
 have i3:w2.cell? ⟨w.heap.size,3,none⟩=some (.slice (some ⟨w.heap.size+1,0,none⟩) 1 1):=Hl.cell 3
 clear BA BB Hl bel dW
 rcases ht with rfl|rfl|rfl
 all_goals(
  simp only[Int.reduceMul] at hu
  subst hu
  go_enter Tryz.func37,Tryz.ntmps37
  go_wp2_with fail
  rw[<-DU,<-xd]
  exact bodyPost_ret (v:=.agg #[.int .i64 1,.int .i64 0,.int .i64 0,.slice (some ⟨w.heap.size+1,0,none⟩) 1 1]) (by simp[results,Tryz.results37,go_sem,i0,i1,i2,i3]) rfl ⟨_,rfl,sl,am⟩)
theorem Fw (a1 a2:Option Addr)(c1 c2:Nat)(l m:List Int)(w:World)(r1:Row w a1 (l.map (Value.int .i64)))(r2:Row w a2 (m.map (Value.int .i64)))(hl:l.length<=4611686018427387904)(hm:m.length<=4611686018427387904):
  Calls Tryz.prog 24 #[.slice a1 l.length c1,.slice a2 m.length c2] w fun e w'=>e=.returned (.bool (decide (l=m)))/\∃q,w'=w.drewN q:=by
 by_cases je:l.length=m.length
 .generalize hn:l.length=n at*
  have ik:=je.symm
  rw[ik] at hm⊢
  by_cases h0:n=0
  .subst h0
   obtain rfl:=List.eq_nil_of_length_eq_zero hn
   obtain rfl:=List.eq_nil_of_length_eq_zero ik
   clear hn ik je hl hm r1 r2
   go_enter Tryz.func24,Tryz.ntmps24
   go_wp2
   refine wp_loop_rounds 1 ?_
   rw[rounds_succ]
   go_wp2
   go_ret
   exact⟨rfl,0,rfl⟩
  obtain⟨b1,o1,rfl,-,k1⟩:=r1.at (by intro h;simp at h;subst h;simp at hn;omega)
  obtain⟨b2,o2,rfl,-,k2⟩:=r2.at (by intro h;simp at h;subst h;simp at ik;omega)
  have g1:=fun k hk=>DB k1 k hk
  have g2:=fun k hk=>DB k2 k hk
  clear k1 k2 r1 r2
  have HL:Hid (l.length=n):=hn
  have HM:Hid (m.length=n):=ik
  clear hn ik je
  go_enter Tryz.func24,Tryz.ntmps24
  go_wp2
  go_loopg [13] n (fun g Ib wr=>∃k q:Nat,k<=n/\n-k<=g/\Ib=.int .i64 k/\wr=w.drewN q/\Hid (∀j,j<k->l.getD j 0=m.getD j 0))
  case atStart=>exact⟨0,0,Nat.zero_le _,by omega,rfl,rfl,fun j hj=>absurd hj (Nat.not_lt_zero _)⟩
  case round=>
   obtain⟨k,q,hk,hg,rfl,rfl,A⟩:=hrel
   by_cases aE:k<n
   .have e1:=g1 k (by rw[HL.out];exact aE)
    have e2:=g2 k (by rw[HM.out];exact aE)
    clear g1 g2
    generalize hx:l.getD k 0=x at e1
    generalize hy:m.getD k 0=y at e2
    have B:Hid (l.getD k 0=x/\m.getD k 0=y):=⟨hx,hy⟩
    clear hx hy
    cases qi:(x==y) with
    |true=>
     obtain rfl:x=y:=by simpa using qi
     clear qi
     go_wp2_with fail
     go_region
     all_goals go_wp2
     all_goals go_roundg (n-(k+1))
     case measure=>omega
     case rel=>
      refine⟨k+1,q+1,by omega,by omega,by go_num,rfl,(show Hid _ from fun j hj=>?_)⟩
      by_cases e:j=k
      .subst e
       rw[B.out.1,B.out.2]
      .exact A.out j (by omega)
    |false=>
     go_wp2_with fail
     go_region
     all_goals go_wp2
     all_goals go_ret
     refine⟨?_,q+1,rfl⟩
     have aF:l≠m:=CZ (d:=0) (k:=k) (by rw[B.out.1,B.out.2];simpa using qi)
     simp[aF]
   have:k=n:=by omega
   subst this
   clear g1 g2
   go_wp2
   go_ret
   refine⟨?_,q,rfl⟩
   have he:l=m:=DM (d:=0) (HL.out.trans HM.out.symm) (fun j hj=>A.out j (by rw[<-HL.out];exact hj))
   simp[he]
 have JX:¬(l.length:Int)=(m.length:Int):=by omega
 have aF:l≠m:=fun e=>je (by rw[e])
 clear r1 r2
 have H:Hid (l≠m):=aF
 clear aF
 generalize l.length=x at*
 generalize m.length=y at*
 go_enter Tryz.func24,Tryz.ntmps24
 go_wp2
 go_ret
 refine⟨?_,0,rfl⟩
 simp[H.out]
theorem dE.boxW {w w':World}{g:Nat}{p:Pw}{x:Wd}{t:TypeId}{a1 a2 a3 a4:Option Addr}{n1 n2 n3 n4 c1 c2 c3 c4:Nat}{u:Bool}(k:dE w p x)(hz:az x.c=0)(B:ag w g [.slice a1 n1 c1,.slice a2 n2 c2,.slice a3 n3 c3,.bool u,.slice a4 n4 c4] t)(hg:w.grownBy w' (some g)):dE w' p x:=
 ⟨k.es,k.e1,k.e2,k.er,(jA.boxW (cu.old k.s (P:=fun _=>False) (fun _ h=>h.elim)) hz B hg).is,dA k.s1 B (by simp) hg,dA k.s2 B (by simp) hg,uy k.r B (by simp) hg⟩
theorem pz {w:World}{g:Nat}(u0 u1 u2 u3 u4:Value):w.grownBy (((((w.setCell ⟨g,0,none⟩ u0).setCell ⟨g,1,none⟩ u1).setCell ⟨g,2,none⟩ u2).setCell ⟨g,3,none⟩ u3).setCell ⟨g,4,none⟩ u4) (some g):=
 al (al (al (al (al ⟨rfl,rfl,rfl,Nat.le_refl _,fun _ _ _=>rfl⟩ 0 u0) 1 u1) 2 u2) 3 u3) 4 u4
end Go.Proofs.YtoonnbhoiocoeaaGreatDoor
