/-
  WorldRuns: what holds at each moment of its loop, and how it stays.
-/
import Derived.Test.YtoonnbhoiocoeaaGreatDoorRows
import Derived.Test.YtoonnbhoiocoeaaGreatDoorCards
import Derived.Test.YtoonnbhoiocoeaaGreatDoorTie
import Derived.ProofKit
import Derived.ChangeMaps5
import Derived.LaidMore
import Derived.Stop.Joined
import Derived.SevenTiedAt
import Derived.Test.YtoonnbhoiocoeaaGreatDoorS40
set_option maxHeartbeats 40000000
set_option maxRecDepth 100000
set_option linter.unusedVariables false
namespace Go.Proofs.YtoonnbhoiocoeaaGreatDoor
open Go.RowKit
open Go.Lib (byteCells)
def aA (o:Value):Nat->Prop:=fun g=>o.ownBlock=some g
structure St (W w0 wr:World)(o:Value)(q:Pw)(z:Wd)(O:List Int):Prop where
 er:aM 34 wr o O
 bx:ag wr W.heap.size [.slice q.sa q.sn q.sG,.slice q.a1 q.n1 q.c1,.slice q.a2 q.n2 q.c2,.bool z.up,.slice q.ra q.rn q.rc] 30
 iw:dE wr q z
 sp:ab (aA o) wr q.sa q.sG z.c
 rd:∀ad,q.ra=some ad->∀g,o.ownBlock=some g->ad.block≠g
 g0:w0.grownBy wr (some W.heap.size)
 own:∀g,o.ownBlock=some g->w0.heap.size<=g
 bel:Below W.heap.size W wr
 lt:W.heap.size<w0.heap.size
theorem St.ownlt {W w0 wr:World}{o:Value}{q:Pw}{z:Wd}{O:List Int}(s:St W w0 wr o q z O):∀g,aA o g->g<wr.heap.size:=by
 intro g hg
 rcases s.er with⟨h,_⟩| ⟨g',G,ys,h,B,_⟩
 .unfold aA at hg
  rw[h] at hg
  cases hg
 unfold aA at hg
 rw[h] at hg
 obtain rfl:g'=g:=by simpa[Value.ownBlock] using hg
 exact B.lt
theorem St.rdNew {W w0 wr:World}{o:Value}{q:Pw}{z:Wd}{O:List Int}(s:St W w0 wr o q z O){ra:Option Addr}(h:∀ad,ra=some ad->wr.heap.size<=ad.block):∀ad,ra=some ad->∀g,o.ownBlock=some g->ad.block≠g:=by
 intro ad e g hg eb
 have h1:=h ad e
 have h2:=s.ownlt g hg
 omega
theorem St.call {W w0 wr w':World}{o:Value}{q:Pw}{z:Wd}{O:List Int}(s:St W w0 wr o q z O)(b:Below wr.heap.size wr w'):St W w0 w' o q z O:=
 ⟨s.er.keep b (Nat.le_refl _),s.bx.keep b s.bx.lt,s.iw.call b,s.sp.call b,s.rd,
  ⟨b.os.trans s.g0.os,b.tape.trans s.g0.tape,b.output.trans s.g0.output,Nat.le_trans s.g0.size b.size,fun k hk aF=>(b.block k (Nat.lt_of_lt_of_le hk s.g0.size)).trans (s.g0.block k hk aF)⟩,s.own,ac s.bel b,s.lt⟩
theorem St.put {W w0 wr:World}{o:Value}{q q':Pw}{z z':Wd}{O:List Int}(s:St W w0 wr o q z O)(hz:dw z'=0)(I:dE wr q' z')(sp:ab (aA o) wr q'.sa q'.sG z'.c)(rd:∀ad,q'.ra=some ad->∀g,o.ownBlock=some g->ad.block≠g):
  St W w0 (((((wr.setCell ⟨W.heap.size,0,none⟩ (.slice q'.sa q'.sn q'.sG)).setCell ⟨W.heap.size,1,none⟩ (.slice q'.a1 q'.n1 q'.c1)).setCell ⟨W.heap.size,2,none⟩ (.slice q'.a2 q'.n2 q'.c2)).setCell ⟨W.heap.size,3,none⟩ (.bool z'.up)).setCell ⟨W.heap.size,4,none⟩ (.slice q'.ra q'.rn q'.rc)) o q' z' O:=by
 have gr:=pz (w:=wr) (g:=W.heap.size) (.slice q'.sa q'.sn q'.sG) (.slice q'.a1 q'.n1 q'.c1) (.slice q'.a2 q'.n2 q'.c2) (.bool z'.up) (.slice q'.ra q'.rn q'.rc)
 have Cw:=i6 hz
 have aE:=s.lt
 have lf:=s.own
 refine⟨?_,fA s.bx _ _ _ _ _,I.boxW Cw s.bx gr,ab.boxW sp Cw s.bx gr,rd,?_,s.own,dP s.bel (Nat.le_refl _) _ _ _ _ _,s.lt⟩
 .rcases s.er with h| ⟨g,G,ys,h,B,r⟩
  .exact .inl h
  refine .inr ⟨g,G,ys,h,(gr.block g B.lt (fun e=>?_)).trans B,r⟩
  have h1:g=W.heap.size:=Option.some.inj e
  have h2:=lf g (by rw[h];rfl)
  omega
 exact⟨gr.os.trans s.g0.os,gr.tape.trans s.g0.tape,gr.output.trans s.g0.output,Nat.le_trans s.g0.size gr.size,fun k hk aF=>(gr.block k (Nat.lt_of_lt_of_le hk s.g0.size) aF).trans (s.g0.block k hk aF)⟩
theorem St.app {W w0 w8 w9:World}{o v9:Value}{q:Pw}{z:Wd}{O O':List Int}(s:St W w0 w8 o q z O)(hz:dw z=0)(K:aM 34 w9 v9 O')(gr:w8.grownBy w9 o.ownBlock)(went:∀g,v9.ownBlock=some g->o.ownBlock=some g\/w8.heap.size<=g):St W w0 w9 v9 q z O':=by
 have aE:=s.lt
 have lf:=s.own
 have gF:=s.g0.size
 have hT:=s.bel.size
 have no:∀k,k<w0.heap.size->some k≠o.ownBlock:=fun k hk e=>by have:=lf k e.symm;omega
 have r5:=(fi hz).2.2.2.2.1
 obtain⟨rb,ro,hJ,gw,_⟩:=s.iw.r.row.at (by intro e;rw[List.map_eq_nil_iff] at e;rw[e] at r5;simp at r5)
 have P8:jA (fun g=>aA o g\/aA v9 g) w8 q.sa q.sG z.c:=jA.more ⟨s.sp.ex⟩ (fun g h=>by
  rcases h with h|h
  .exact .inl h
  exact went g h)
 have step:dE w9 q z/\jA (fun g=>aA o g\/aA v9 g) w9 q.sa q.sG z.c:=by
  rcases s.er with⟨h,_⟩| ⟨g,G,ys,h,B,_⟩
  .have b:Below w8.heap.size w8 w9:=⟨gr.os,gr.tape,gr.output,gr.size,fun k hk=>gr.block k hk (by rw[h];intro e;cases e)⟩
   exact⟨s.iw.call b,P8.call b⟩
  have ho:o.ownBlock=some g:=by rw[h];rfl
  rw[ho] at gr
  have Q:=P8.readers (.inl ho) B gr
  have u8:∀n,Value.int .u8 n∉ys.map (Value.int .i64):=fun n=>mF (fun m e=>by cases e)
  exact⟨⟨s.iw.es,s.iw.e1,s.iw.e2,s.iw.er,Q.is,dA s.iw.s1 B u8 gr,dA s.iw.s2 B u8 gr,s.iw.r.off gr (fun ad e=>s.rd ad e g ho)⟩,Q⟩
 refine⟨K,(gr.block _ s.bx.lt (no _ aE)).trans s.bx,step.1,⟨(jA.more step.2 (fun g h=>.inl (.inr h))).ex⟩,?_,?_,?_,?_,s.lt⟩
 .intro ad e g hg eb
  rcases went g hg with h|h
  .exact s.rd ad e g h eb
  rw[hJ] at e
  cases e
  have FX:rb=g:=eb
  omega
 .exact⟨gr.os.trans s.g0.os,gr.tape.trans s.g0.tape,gr.output.trans s.g0.output,Nat.le_trans gF gr.size,fun k hk aF=>(gr.block k (by omega) (no k hk)).trans (s.g0.block k hk aF)⟩
 .intro g hg
  rcases went g hg with h|h
  .exact lf g h
  omega
 exact⟨gr.os.trans s.bel.os,gr.tape.trans s.bel.tape,gr.output.trans s.bel.output,Nat.le_trans hT gr.size,fun k hk=>(gr.block k (by omega) (no k (by omega))).trans (s.bel.block k hk)⟩
theorem St.want {W w0 wr:World}{o:Value}{q:Pw}{z:Wd}{O:List Int}(s:St W w0 wr o q z O):∃a' G',o=.slice a' O.length G'/\Row wr a' (O.map (Value.int .i64)):=by
 rcases s.er with⟨h,h2⟩| ⟨g,G,ys,h,B,_,f9,sJ,pT⟩
 .exact⟨none,0,by rw[h,h2];rfl,.inl (by rw[h2];rfl)⟩
 exact⟨some ⟨g,0,none⟩,G,h,(ru B sJ f9 pT).row⟩
theorem DT (x:Wd):oO x x=true:=by
 unfold oO
 simp[kc]
theorem xF {Y:Wd}{p q:Pw}{V:World}(few:Y.c.length<=4/\Y.rd.length<=3)(I:dE V p Y)(J:dE V q Y):
  Calls Tryz.prog 13 #[p.val Y.up,q.val Y.up] V fun e w'=>e=.returned (.bool true)/\Below V.heap.size V w':=by
 have c:=vV Y Y p q V I J (Nat.le_trans few.1 (by decide)) (Nat.le_trans few.2 (by decide)) (Nat.le_trans few.2 (by decide))
 rw[DT] at c
 exact c
theorem bl {x:Wd}(h:dw x=0):x.c.length<=4/\x.rd.length<=3:=
 ⟨by rw[bZ (i6 h)];exact Nat.le_refl _,by rw[(fi h).2.2.2.2.1];exact Nat.le_refl _⟩
theorem bO (x:Wd):∀l:List Hp,(ff x l).2.length=l.length:=by
 intro l
 induction l generalizing x with
 |nil=>rfl
 |cons y l ih=>
  rw[sS]
  split<;>simp[ih]
theorem bS (x:Wd)(p:Pw)(l:List dK)(la:Option Addr)(ln lc:Nat)(hl:ln=l.length)(few:p.n1+p.n2<=9223372036854775807)(kg:p.sn<=140737488355328):
  ∃(Y:Wd) (sd:List Int) (RE:Int),(∀V,Gl V->dE V p x->eK V la lc l->Calls Tryz.prog 23 #[p.val x.up,.slice la ln lc] V (xr V Y sd RE))/\(dw x≠0->Y=zD/\sd=[]/\RE=dw x)/\(dw x=0->100<ln->Y=zD/\sd=[]/\RE=2)/\
   (dw x=0->¬100<ln->Y=(ff x (l.map (fun r=>qE r.r))).1/\sd=(ff x (l.map (fun r=>qE r.r))).2/\RE=0):=by
 by_cases h:dw x=0
 .by_cases hm:100<ln
  .refine⟨zD,[],2,fun V g i s=>?_,fun e=>absurd h e,fun _ _=>⟨rfl,rfl,rfl⟩,fun _ e=>absurd hm e⟩
   have c:=JP x l p la ln lc V g i h s (aa hl)
   rw[if_pos (by rw[<-hl];exact hm)] at c
   exact c
  refine⟨_,_,0,fun V g i s=>?_,fun e=>absurd h e,fun _ e=>absurd e hm,fun _ _=>⟨rfl,rfl,rfl⟩⟩
  have c:=JP x l p la ln lc V g i h s (aa hl)
  rw[if_neg (by rw[<-hl];exact hm)] at c
  exact c
 exact⟨zD,[],dw x,fun V g i s=>cv x p la ln lc V g i few kg h,fun _=>⟨rfl,rfl,rfl⟩,fun e=>absurd e h,fun e=>absurd e h⟩
theorem bw (W:World)(hg:Gl W)(x:Wd)(p:Pw)(I:dE W p x)(few:p.n1+p.n2<=9223372036854775807)(kg:p.sn<=140737488355328)(_:p.rn<=140737488355328)(l:List dK)(la:Option Addr)(lc ln:Nat)(S:eK W la lc l)(hl:ln=l.length):
  Calls Tryz.prog 5 #[p.val x.up,.slice la ln lc] W fun e w'=>e=.returned (.bool true)/\Below W.heap.size W w':=by
 obtain⟨Y,sd,RE,cR,a1,a2,a3⟩:=bS x p l la ln lc hl few kg
 unfold xr at cR
 have cC:=fun V g i=>Dp x p V g i
 have VV:ln<=lc:=by rw[hl];exact S.row.le
 have lQ:lc<=9223372036854775807:=S.row.max
 have IX:=fun V (b:Below W.heap.size W V)=>I.keep b (Nat.le_refl _)
 have SX:=fun V (b:Below W.heap.size W V)=>S.keep b (Nat.le_refl _)
 have sX:cu W p.sa p.sG x.c:=I.s
 obtain⟨L,hL⟩:∃L,L=l.map (fun r=>qE r.r):=⟨_,rfl⟩
 rw[<-hL] at a3
 obtain⟨E,hE⟩:∃E,E=dw x:=⟨_,rfl⟩
 rw[<-hE] at cC a1 a2 a3
 obtain⟨U,hU⟩:∃U,U=x.up:=⟨_,rfl⟩
 obtain⟨Yu,PP⟩:∃u,u=Y.up:=⟨_,rfl⟩
 rw[<-hU] at cR cC⊢
 rw[<-PP] at cR
 replace hE:=aa hE
 replace hU:=aa hU
 replace PP:=aa PP
 replace hL:=aa hL
 replace hl:=aa hl
 obtain⟨sa,sn,sG,s1,p9,rB,s2,rI,rA,sr,rJ,src⟩:=p
 simp only[Pw.val] at*
 clear few kg
 have BX:=ag.laid W [.slice sa sn sG,.slice s1 p9 rB,.slice s2 rI rA,.bool U,.slice sr rJ src] 30 _ rfl
 have bel:=newB (Below.refl W.heap.size W) (.cells #[.slice sa sn sG,.slice s1 p9 rB,.slice s2 rI rA,.bool U,.slice sr rJ src] 30)
 go_enter Tryz.func5,Tryz.ntmps5
 go_upto_region 1 with fail
 generalize World.alloc W _=w1 at*
 obtain⟨x0,x1,x2,x3,x4,xl⟩:=BX.five
 go_wp2_with fail
 go_at_call 23
 refine(cR _ (hg.call bel) (IX _ bel) (SX _ bel)).mono ?_
 rintro e w2 ⟨⟨ya,yn,yG,y1,MG,Mt,y2,MW,MI,yr,Ow,MU⟩,ss,u9,vk,rfl,IY,Db,SS,b0⟩
 simp only
 have b:=newB b0 (.cells #[.slice ya yn yG,.slice y1 MG Mt,.slice y2 MW MI,.bool Yu,.slice yr Ow MU] 30)
 have BY:=ag.laid w2 [.slice ya yn yG,.slice y1 MG Mt,.slice y2 MW MI,.bool Yu,.slice yr Ow MU] 30 _ rfl
 replace IY:=IY.alloc (.cells #[.slice ya yn yG,.slice y1 MG Mt,.slice y2 MW MI,.bool Yu,.slice yr Ow MU] 30)
 replace SS:=SS.call (newB (Below.refl w2.heap.size w2) (.cells #[.slice ya yn yG,.slice y1 MG Mt,.slice y2 MW MI,.bool Yu,.slice yr Ow MU] 30))
 have Vk:W.heap.size<w2.heap.size:=Nat.lt_of_lt_of_le BX.lt b0.size
 clear b0 cR
 clear x0 x1 x2 x3 x4 xl
 replace BX:=BX.keep b BX.lt
 replace bel:=ac bel b
 clear b
 obtain⟨x0,x1,x2,x3,x4,xl⟩:=BX.five
 go_upto_region 2 with fail
 generalize w2.heap.size=gY at*
 generalize World.alloc w2 _=w3 at*
 go_wp2_with fail
 go_at_call 9
 refine(cC _ (hg.call bel) (IX _ bel)).mono ?_
 rintro e w4 ⟨rfl,b⟩
 clear cC
 clear x0 x1 x2 x3 x4 xl
 replace BX:=BX.keep b BX.lt
 replace BY:=BY.keep b BY.lt
 replace IY:=IY.call b
 replace SS:=SS.call b
 replace bel:=ac bel b
 clear b
 replace IY:=aa IY
 replace SS:=aa SS
 replace BX:=aa BX
 replace BY:=aa BY
 by_cases hz:E=0
 .by_cases hm:100<ln
  .obtain⟨eY,eS,eE⟩:=a2 hz hm
   subst eY
   subst eS
   subst eE
   subst hz
   have cA:u9=0:=Db.out
   subst cA
   have eh:Yu=false:=PP.out
   subst eh
   have h6:(100:Int)<(ln:Int):=by omega
   clear a1 a3
   go_wp2_with fail
   go_at_call 10
   refine(Cf _ (hg.call bel)).mono ?_
   rintro e w5 ⟨rfl,b⟩
   have bC:=BY.out.keep b BY.out.lt
   have cw:=IY.out.call b
   replace bel:=ac bel b
   clear b BY IY SS BX
   go_wp2_with fail
   go_at_call 10
   refine(Cf _ (hg.call bel)).mono ?_
   rintro e w6 ⟨rfl,b⟩
   have BY:=bC.keep b bC.lt
   have IY:=cw.call b
   replace bel:=ac bel b
   clear b bC cw
   obtain⟨v0,v1,v2,v3,v4,vl⟩:=BY.five
   replace BY:=aa BY
   have c9:=xF (q:=ti) (by decide) IY (dE.nil _)
   replace IY:=aa IY
   go_wp2_with fail
   go_at_call 13
   refine c9.mono ?_
   rintro e w7 ⟨rfl,b⟩
   go_wp2_with fail
   go_ret
   exact⟨rfl,ac bel b⟩
  obtain⟨eY,eS,eE⟩:=a3 hz hm
  subst eE
  subst hz
  have h6:¬(100:Int)<(ln:Int):=by omega
  have pS:=hE.out.symm
  clear a1 a2 a3
  go_wp2_with fail
  go_at_call 10
  refine(Cf _ (hg.call bel)).mono ?_
  rintro e w0 ⟨rfl,b⟩
  have cf:=BX.out.keep b BX.out.lt
  have cO:=BY.out.keep b BY.out.lt
  have ek:=IY.out.call b
  have el:=SS.out.call b
  replace bel:=ac bel b
  clear b BX BY IY SS
  obtain⟨ie,hi,bK,bm,bQ⟩:=info_parts OB
  have ZZ:=cf.lt
  have da:dw Y=0:=by rw[eY];exact ap L x pS
  have RN:L.length=ln:=by rw[hL.out,List.length_map,hl.out]
  have Yp:sd.length=ln:=by rw[eS,bO,RN]
  have id:¬gY=W.heap.size:=by omega
  have eL:ab (aA (.slice none 0 0)) w0 sa sG x.c:=by
   obtain⟨rs,e1,e2⟩:=(IX _ bel).s.ex
   exact⟨rs,e1,e2,fun r hr aF q hq=>by cases hq⟩
  have eW:St W w0 w0 (.slice none 0 0) ⟨sa,sn,sG,s1,p9,rB,s2,rI,rA,sr,rJ,src⟩ x []:=⟨.inl ⟨rfl,rfl⟩,by rw[<-hU.out];exact cf,IX _ bel,eL,(fun ad e g h=>by cases h),au w0 _,(fun g h=>by cases h),bel,ZZ⟩
  clear eL
  replace ek:=aa ek
  replace el:=aa el
  replace cO:=aa cO
  replace cf:=aa cf
  replace da:=aa da
  replace eY:=aa eY
  replace eS:=aa eS
  replace RN:=aa RN
  replace Yp:=aa Yp
  replace pS:=aa pS
  go_wp2_with fail
  go_loopw [9,54] (fun o i wr=>∃(j:Nat) (z:Wd) (O:List Int) (q:Pw),j<=ln/\i=.int .i64 j/\Hid (O.length=j)/\Hid (ff x (L.take j)=(z,O))/\St W w0 wr o q z O) (fun _ i _=>ln-(intOf i).toNat)
  case atStart=>exact⟨0,x,[],⟨sa,sn,sG,s1,p9,rB,s2,rI,rA,sr,rJ,src⟩,Nat.zero_le _,rfl,aa rfl,aa rfl,eW⟩
  case round=>
   clear eW
   rename World=>wr
   obtain⟨j,z,O,q,hj,rfl,cJ,j5,st⟩:=hrel
   have bel:=st.bel
   have dT:dw z=0:=by
    have:=ap (L.take j) x pS.out
    rw[j5.out] at this
    exact this
   obtain⟨zu,cl⟩:∃u,u=z.up:=⟨_,rfl⟩
   have BX:=st.bx
   rw[<-cl] at BX
   replace cl:=aa cl
   by_cases Yz:j<ln
   .obtain⟨xj,hx⟩:∃xj,l[j]? =some xj:=⟨_,List.getElem?_eq_getElem (by rw[<-hl.out];exact Yz)⟩
    have Sw:=SX _ bel
    obtain⟨lb,lo,rfl,NZ⟩:=S.row.where dK.four (by decide) (by intro h;subst h;simp at hx)
    have q0:=Sw.row.cell dK.four j 0 xj _ hx rfl
    have q1:=Sw.row.cell dK.four j 1 xj _ hx rfl
    have q2:=Sw.row.cell dK.four j 2 xj _ hx rfl
    have q3:=Sw.row.cell dK.four j 3 xj _ hx rfl
    simp only[Nat.add_zero] at q0
    have pL:=Sw.ent xj (List.mem_of_getElem? hx)
    have go:L[j]? =some (qE xj.r):=by rw[hL.out,List.getElem?_map,hx];rfl
    have aB:ff x (L.take (j+1))=(if bR z (qE xj.r)=0 then dz z (qE xj.r) else z,O++[bR z (qE xj.r)]):=by
     rw[List.take_add_one,go]
     simp only[Option.toList]
     rw[Gy,j5.out]
    obtain⟨⟨K,Sr,N,es⟩,xa,xc⟩:=xj
    simp only at q0 q1 q2 q3 pL
    obtain⟨en,MR⟩:∃en,en=es.length:=⟨_,rfl⟩
    rw[<-MR] at q3
    replace MR:=aa MR
    have hR:=sD (w:=z) (x:=qE ⟨K,Sr,N,es⟩) dT
    obtain⟨HE,dO⟩:∃h,h=bR z (qE ⟨K,Sr,N,es⟩):=⟨_,rfl⟩
    obtain⟨Z,hZ⟩:∃Z,Z=dz z (qE ⟨K,Sr,N,es⟩):=⟨_,rfl⟩
    rw[<-dO,<-hZ] at aB
    rw[<-dO,<-hZ] at hR
    obtain⟨Fu,cW⟩:∃u,u=Z.up:=⟨_,rfl⟩
    replace aB:=aa aB
    replace hR:=aa hR
    clear go hx
    obtain⟨qa,qn,qG,f8,gv,eR,fu,eq,gc,qr,fg,ga⟩:=q
    simp only at*
    have BH:=ag.laid wr [.int .i64 K,.int .i64 Sr,.int .i64 N,.slice xa en xc] 33 _ rfl
    have bh:=newB (Below.refl wr.heap.size wr) (.cells #[.int .i64 K,.int .i64 Sr,.int .i64 N,.slice xa en xc] 33)
    have gf:=aa (st.call bh)
    have dd:=aa (pL.keep bh (Nat.le_refl _))
    have eT:=aa (BX.keep bh BX.lt)
    clear st pL BX bh bel
    go_upto_region 11 with fail
    clear q0 q1 q2 q3 NZ
    have st:=gf.out
    have pL:=dd.out
    have BX:=eT.out
    clear gf dd eT
    generalize wr.heap.size=gH at*
    generalize World.alloc wr _=wh at*
    have bel:=st.bel
    have c1:=bg z (qE ⟨K,Sr,N,es⟩) ⟨qa,qn,qG,f8,gv,eR,fu,eq,gc,qr,fg,ga⟩ xa en xc wh st.ownlt (hg.call bel) st.iw st.sp dT pL MR
    rw[<-dO,<-hZ] at c1
    unfold cr at c1
    rw[<-cW,<-cl.out] at c1
    unfold qE at c1
    simp only[Pw.val] at c1
    replace dO:=aa dO
    replace hZ:=aa hZ
    replace cW:=aa cW
    obtain⟨x0,x1,x2,x3,x4,xl⟩:=BX.five
    obtain⟨h0,h1,h2,h3,ZP⟩:=BH.four
    replace st:=aa st
    replace BX:=aa BX
    clear pL BH
    go_wp2_with fail
    go_at_call 16
    refine c1.mono ?_
    rintro e wi ⟨⟨fa,fn,fG,f1,QR,Pz,f2,PV,PA,fr,Pu,Qf⟩,rfl,IF,ct,fd,b0⟩
    simp only
    have b:=newB b0 (.cells #[.slice fa fn fG,.slice f1 QR Pz,.slice f2 PV PA,.bool Fu,.slice fr Pu Qf] 30)
    have bq:=newB (Below.refl wi.heap.size wi) (.cells #[.slice fa fn fG,.slice f1 QR Pz,.slice f2 PV PA,.bool Fu,.slice fr Pu Qf] 30)
    have BN:=ag.laid wi [.slice fa fn fG,.slice f1 QR Pz,.slice f2 PV PA,.bool Fu,.slice fr Pu Qf] 30 _ rfl
    replace IF:=IF.call bq
    replace ct:=ct.call bq
    have d':=st.out.rdNew fd
    have st2:=aa (st.out.call b)
    have ib:=BX.out.keep b BX.out.lt
    have lX:W.heap.size<wi.heap.size:=Nat.lt_of_lt_of_le BX.out.lt b0.size
    clear c1 x0 x1 x2 x3 x4 xl h0 h1 h2 h3 ZP b b0 bq fd st BX bel
    go_upto_region 12 with fail
    have kl:¬wi.heap.size=W.heap.size:=by omega
    have lJ:¬W.heap.size=wi.heap.size:=by omega
    generalize wi.heap.size=gN at*
    generalize World.alloc wi _=wk at*
    obtain⟨x0,x1,x2,x3,x4,xl⟩:=ib.five
    obtain⟨u0,u1,u2,u3,u4⟩:=ib.frees
    obtain⟨n0,n1,n2,n3,n4,nl⟩:=BN.five
    replace ib:=aa ib
    replace BN:=aa BN
    by_cases l6:HE=0
    .subst l6
     have cZ:=hR.out rfl
     have sn:=aB.out
     rw[if_pos rfl] at sn
     have dc:=aa (st2.out.put (q':=⟨fa,fn,fG,f1,QR,Pz,f2,PV,PA,fr,Pu,Qf⟩) (z':=Z) cZ IF ct d')
     rw[<-cW.out] at dc
     simp only at dc
     replace sn:=aa sn
     replace cZ:=aa cZ
     clear st2 IF ct d' ib aB hR
     go_upto_region 14 with fail
     clear x0 x1 x2 x3 x4 xl u0 u1 u2 u3 u4 n0 n1 n2 n3 n4 nl BN
     generalize World.setCell (World.setCell (World.setCell (World.setCell (World.setCell wk _ _) _ _) _ _) _ _) _ _=w8 at*
     go_wp2_with (at_builtin;refine ah w8 rfl (.tmp 67) (.tmp 69) 60 rfl 34 ie Tryz.underlying60 hi bK bm bQ _ O (by rfl) dc.out.er 0 34 (by rfl) (by have:=cJ.out;omega) ?_)
     intro v9 w9 K9 Ui bM
     have d7:=dc.out.app cZ.out K9 Ui bM
     go_wp2_with fail
     go_roundw
     case rel=>exact⟨j+1,Z,O++[0],⟨fa,fn,fG,f1,QR,Pz,f2,PV,PA,fr,Pu,Qf⟩,by omega,by go_num,aa (by rw[List.length_append,cJ.out];rfl),sn,d7⟩
     case measure=>simp[intOf];omega
    have kW:(HE==0)=false:=by simpa using l6
    have sn:=aB.out
    rw[if_neg l6] at sn
    replace sn:=aa sn
    clear IF ct d' ib aB hR x0 x1 x2 x3 x4 xl u0 u1 u2 u3 u4 n0 n1 n2 n3 n4 nl BN
    go_upto_region 14 with fail
    go_wp2_with (at_builtin;refine ah wk rfl (.tmp 67) (.tmp 69) 60 rfl 34 ie Tryz.underlying60 hi bK bm bQ _ O (by rfl) st2.out.er HE 34 (by rfl) (by have:=cJ.out;omega) ?_)
    intro v9 w9 K9 Ui bM
    have d7:=st2.out.app dT K9 Ui bM
    go_wp2_with fail
    go_roundw
    case rel=>exact⟨j+1,z,O++[HE],⟨qa,qn,qG,f8,gv,eR,fu,eq,gc,qr,fg,ga⟩,by omega,by go_num,aa (by rw[List.length_append,cJ.out];rfl),sn,d7⟩
    case measure=>simp[intOf];omega
   obtain rfl:j=ln:=by omega
   have hw:=j5.out
   rw[List.take_of_length_le (by rw[RN.out];exact Nat.le_refl _)] at hw
   have eZ:Y=z:=by rw[eY.out,hw]
   have eO:sd=O:=by rw[eS.out,hw]
   subst eZ
   subst eO
   have cG:ag wr gY [.slice ya yn yG,.slice y1 MG Mt,.slice y2 MW MI,.bool Yu,.slice yr Ow MU] 30:=(st.g0.block gY cO.out.lt (fun e=>id (Option.some.inj e))).trans cO.out
   have cL:=ek.out.boxW (i6 da.out) cf.out st.g0
   have cT:=uy el.out cf.out (by simp) st.g0
   have hq:zu=Yu:=cl.out.trans PP.out.symm
   subst hq
   have db:sd.length<=4611686018427387904:=by rw[Yp.out];omega
   obtain⟨a',G',rfl,RW⟩:=st.want
   have gd:=Db.out
   subst gd
   have cE:=Fw ss a' vk G' sd sd wr cT.row RW db db
   rw[decide_eq_true rfl] at cE
   replace cG:=aa cG
   replace cL:=aa cL
   replace st:=aa st
   replace BX:=aa BX
   replace cT:=aa cT
   replace RW:=aa RW
   replace db:=aa db
   clear bel
   go_wp2_with fail
   go_at_call 24
   refine cE.mono ?_
   rintro e wz ⟨rfl,q9,rfl⟩
   have b:=bt (Below.refl wr.heap.size wr) q9
   have dv:=BX.out.keep b BX.out.lt
   have d9:=cG.out.keep b cG.out.lt
   have st2:=aa (st.out.call b)
   have c8:=xF (bl da.out) (cL.out.call b) st2.out.iw
   rw[<-PP.out] at c8
   simp only[Pw.val] at c8
   clear b BX cG st cL cT RW cE
   generalize wr.drewN q9=wz at*
   obtain⟨x0,x1,x2,x3,x4,xl⟩:=dv.five
   obtain⟨v0,v1,v2,v3,v4,vl⟩:=d9.five
   replace dv:=aa dv
   replace d9:=aa d9
   go_wp2_with fail
   go_at_call 13
   refine c8.mono ?_
   rintro e wy ⟨rfl,b⟩
   go_wp2_with fail
   go_ret
   exact⟨rfl,ac st2.out.bel b⟩
 obtain⟨eY,eS,eE⟩:=a1 hz
 subst eY
 subst eS
 subst eE
 have cA:u9=0:=Db.out
 subst cA
 have eh:Yu=false:=PP.out
 subst eh
 have hd:(RE != 0)=true:=by simpa using hz
 have tM:(RE==0)=false:=by simpa using hz
 clear a2 a3
 go_wp2_with fail
 go_at_call 10
 refine(Cf _ (hg.call bel)).mono ?_
 rintro e w5 ⟨rfl,b⟩
 have bC:=BY.out.keep b BY.out.lt
 have cw:=IY.out.call b
 replace bel:=ac bel b
 clear b BY IY SS BX
 go_wp2_with fail
 go_at_call 10
 refine(Cf _ (hg.call bel)).mono ?_
 rintro e w6 ⟨rfl,b⟩
 have BY:=bC.keep b bC.lt
 have IY:=cw.call b
 replace bel:=ac bel b
 clear b bC cw
 obtain⟨v0,v1,v2,v3,v4,vl⟩:=BY.five
 replace BY:=aa BY
 have c9:=xF (q:=ti) (by decide) IY (dE.nil _)
 replace IY:=aa IY
 go_wp2_with fail
 go_at_call 13
 refine c9.mono ?_
 rintro e w7 ⟨rfl,b⟩
 go_wp2_with fail
 go_ret
 exact⟨rfl,ac bel b⟩
end Go.Proofs.YtoonnbhoiocoeaaGreatDoor
namespace Go.Proofs.YtoonnbhoiocoeaaGreatDoor.worldRuns
open Go.ChangeShapes Go.WideShapes Go.ChangeAt Go.RowKit Go.ChangeMaps
def DX:List (String × DataW Unit):=Rows.worldRunsRow.laid
theorem lifted (os:Os)(started:os.Started)(H:Type)(enc:TypeId × Value->H):
  ReturnsInHanded {} Tryz.checked os 5 .any (fun w args=>(Rows.worldRunsSpec.pre enc Tryz.prog Tryz.f5 [] false w args/\laidMetH Tryz.prog DX w)/\sizedMet enc Tryz.prog Tryz.f5 (OpenSpec.ofChange Rows.worldRunsSpec) false w args)
   (Rows.worldRunsSpec.post enc Tryz.prog Tryz.f5 false true false false):=by
 refine zX (C:=Tryz.checked) (X:=fun w _=>laidMetH Tryz.prog DX w) (fun _ _ _ hh h=>h.of_heap hh) own started (by kernel_rfl) Tryz.func5
  (ChangeSpec.witness_shaped (enc:=enc) (C:=Tryz.checked) (os:=os) (X:=fun w _=>laidMetH Tryz.prog DX w) false (World.laidAll Tryz.prog os DX) #[.agg #[.slice none 0 0,.slice none 0 0,.slice none 0 0,.bool false,.slice none 0 0],.slice none 0 0] 8 (World.laidAll_os _ _ _)
   (World.shaped_of_ZipB (by kernel_rfl) (by kernel_rfl)) (by kernel_rfl) (by kernel_rfl) (by kernel_rfl)
   (by rw[MakeChecks.laidMetH_plain _ _ _ (by kernel_rfl)];exact laidMet_laidAll _ (by kernel_rfl) (by kernel_rfl))) ?_
 intro W base args ds gs before SG hW Xz hL Cw
 have dW:(DataW.weightsEach Tryz.prog (Tryz.f5.params.toList++Rows.worldRunsSpec.plain.varTypes Tryz.prog) (ds++gs)).all (·<=reachBytes)=true:=Xz
 have BI:∀(j:Nat) t v,Tryz.f5.params[j]? =some t->args[j]? =some v->Value.okWide Tryz.prog W .any base t v:=SG
 have ZD:=hW
 obtain⟨p,q,lu,hV,rfl,lP,kC⟩:=hW
 have hA:DataW.TrodAll enc Tryz.prog W 0 (fun _=>true) true Tryz.f5.params.toList args.toList ds p:=lu
 rw[Tryz.params5] at hA BI dW
 obtain⟨v0,iN,d0,ds0,p0,q0,hargs,rfl,rfl,h0,r0⟩:=trodAll_cons hA
 obtain⟨v1,lp,d1,kk,p1,q1,rfl,rfl,rfl,h1,r1⟩:=trodAll_cons r0
 obtain⟨rfl,rfl,rfl⟩:=trodAll_nil r1
 obtain rfl:args=#[v0,v1]:=by cases args;simp_all
 obtain⟨rfl,rfl⟩:=trodVars_none hV
 have k0:=h0
 have ZZ:∀x∈p0,x.block<W.heap.size:=by obtain⟨m,hm⟩:=k0;exact DataW.trod_lt m _ _ _ hm
 obtain⟨x0,q0,rfl,I0,Xg,Ug,St⟩:=vZ (BI 0 30 v0 rfl rfl) h0 (sU (j:=0) dW rfl rfl)
 have k1:=h1
 have Hc:∀x∈p1,x.block<W.heap.size:=by obtain⟨m,hm⟩:=k1;exact DataW.trod_lt m _ _ _ hm
 obtain⟨a1,eu,WM,rfl⟩:=okWide_slice Tryz.underlying59 (BI 1 59 v1 rfl rfl)
 obtain⟨l1,iC,s1,_⟩:=bD h1 (sU (j:=1) dW rfl rfl)
 rw[MakeChecks.laidMetH_plain _ _ _ (by kernel_rfl)] at hL
 have g:=NE hL Cw
 refine(bw W g x0 q0 I0 Xg Ug St l1 a1 WM eu s1 iC.symm).mono fun e W' ⟨he,bel⟩=>?_
 subst he
 exact⟨_,rfl,_,_,_,[],_,[],ZD,trodAll_mk1 (shut_bool Tryz.underlying4 _),(trodAll_cons_mk (Below.trod laidOut (by kernel_rfl) (of_decide_eq_true (by kernel_rfl)) k0 bel ZZ) (trodAll_cons_mk (Below.trod laidOut (by kernel_rfl) (of_decide_eq_true (by kernel_rfl)) k1 bel Hc) trodAll_mk0)),rfl,bel.frame _,fun h=>by cases h⟩
theorem row_holds:Rows.WorldRunsSaid:=
 OpenClaim.holds_of_wide 5 Tryz.f5 rfl rfl rfl rfl rfl rfl rfl ⟨rfl,rfl,rfl,rfl,rfl⟩ rfl rfl rfl rfl rfl (by kernel_rfl) Tryz.func5 (by kernel_rfl)
  (of_decide_eq_true (by kernel_rfl)) (by unfold Func.isWrapper;first| (rw[if_pos (by decide+kernel)];kernel_rfl)| (rw[if_neg (by decide+kernel)];exact⟨rfl,rfl⟩))
  (fun os started H enc _=>lifted os started H enc)
end Go.Proofs.YtoonnbhoiocoeaaGreatDoor.worldRuns
