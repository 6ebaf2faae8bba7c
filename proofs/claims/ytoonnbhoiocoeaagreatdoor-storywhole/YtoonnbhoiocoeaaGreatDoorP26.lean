/-
  world.replayed: the records of a world, and the shelf that they make, or what is wrong with it.
-/
import Derived.Lib.SliceRun
import Derived.Deep.RegionHeld3
import Derived.Test.YtoonnbhoiocoeaaGreatDoorP25
import Derived.Test.YtoonnbhoiocoeaaGreatDoorP02
import Derived.Test.YtoonnbhoiocoeaaGreatDoorP03
import Derived.Test.YtoonnbhoiocoeaaGreatDoorP07
import Derived.Test.YtoonnbhoiocoeaaGreatDoorP24
set_option maxHeartbeats 40000000
set_option maxRecDepth 100000
set_option linter.unusedVariables false
namespace Go.Proofs.YtoonnbhoiocoeaaGreatDoor
open Go.RowKit
open Go.Lib (byteCells)
def SH (W:World)(D:List Rw)(dn:Nat)(E:Int)(e:Ending)(w':World):Prop:=
 ∃a' G',e=.returned (.tuple #[.agg #[.slice a' dn G'],.int .i64 E])/\ac (w'.alloc (.cells #[.slice a' dn G'] 24)) w'.heap.size [.slice a' dn G'] 24/\fa W.heap.size (w'.alloc (.cells #[.slice a' dn G'] 24)) a' G' D/\Below W.heap.size W (w'.alloc (.cells #[.slice a' dn G'] 24))/\W.heap.size<=w'.heap.size
theorem xj {E:Int}{D:List Rw}{dn:Nat}{W:World}{e:Ending}{w':World}(h:O6 E D dn W e w'):SH W D dn E e w':=by
 obtain⟨a',G',he,I,b⟩:=h
 exact⟨a',G',he,ac.laid w' [.slice a' dn G'] _ _ rfl,I.alloc _,newB b _,b.size⟩
def Ap (W:World)(x:Wd)(e:Ending)(w':World):Prop:=
 ∃(a':Option Addr) (n' G':Nat) (la:Option Addr) (ln lG:Nat) (l:List bF),e=.returned (.tuple #[.agg #[.slice a' n' G'],.slice la ln lG,.int .i64 (cu x)])/\
  Hid (cu x=0->n'=4/\dC w' a' G' x.c/\dI w' la lG l/\ln=l.length/\l.map (·.r)=iv x)/\Below W.heap.size W w'
theorem im {W w':World}{x:Wd}{E:Int}(hE:cu x=E)(h0:E≠0)(b:Below W.heap.size W w'):Ap W x (.returned (.tuple #[.agg #[.slice none 0 0],.slice none 0 0,.int .i64 E])) w':=
 ⟨none,0,0,none,0,0,[],by rw[hE],hide (fun h=>absurd (hE.symm.trans h) h0),b⟩
theorem N1 (n:Nat)(l:List Int):l.all (fd true n)= !l.any (outs n):=by
 induction l with
 |nil=>rfl
 |cons v r ih=>
  rw[List.all_cons,List.any_cons,ih,Bool.not_or]
  congr 1
  unfold fd outs
  by_cases h1:v< -1
  .simp[h1]
   try omega
  .by_cases h2:(n:Int)<v
   .simp[h2]
    try omega
   .simp[h1,h2]
    try omega
theorem H7 (l:List Int):l.all (fd false 0)= !l.any (outs (-1)):=by
 induction l with
 |nil=>rfl
 |cons v r ih=>
  rw[List.all_cons,List.any_cons,ih,Bool.not_or]
  congr 1
  unfold fd outs
  by_cases h1:v< -1
  .simp[h1]
   try omega
  .by_cases h2:(-1:Int)<v
   .simp[h2]
    try omega
   .simp[h1,h2]
    try omega
theorem sQ (d:Dk):(ax d).length<=60:=by
 by_cases h:cT d=0
 .exact(kQ h).2.2.1
 .unfold ax
  rw[if_neg h]
  exact Nat.zero_le _
theorem dI.box1 {w:World}{a:Option Addr}{cap g:Nat}{l:List bF}{t:TypeId}{a1:Option Addr}{n1 c1:Nat}(h:dI w a cap l)(B:ac w g [.slice a1 n1 c1] t)(u:Value):dI (w.setCell ⟨g,0,none⟩ u) a cap l:=by
 have gr:=ak (au w (some g)) 0 u
 refine⟨⟨?_,h.row.le,h.row.max,h.row.nil⟩,fun x hx=>⟨?_,(h.ent x hx).le,(h.ent x hx).max,(h.ent x hx).nil⟩⟩
 .by_cases hl:l=[]
  .rw[hl];exact .inl rfl
  .obtain⟨y,q,hy⟩:=List.exists_cons_of_ne_nil hl
   exact h.row.row.off gr (h.row.row.offKind B (i:=0) (v:=.int .i64 y.r.k) (by rw[hy];rfl) (by simp))
 .by_cases hl:x.r.e=[]
  .rw[hl];exact .inl rfl
  .obtain⟨y,q,hy⟩:=List.exists_cons_of_ne_nil hl
   exact(h.ent x hx).row.off gr ((h.ent x hx).row.offKind B (i:=0) (v:=.int .i64 y.1) (by rw[hy];rfl) (by simp))
theorem FH (C:List Rw)(D:Dk)(rd:List Int)(p:Pw)(w:World)(hg:Gl w)(I:ej w p ⟨C,D,true,rd⟩)(few:p.n1+p.n2<=9223372036854775807)(gV:p.sn<=140737488355328):
  Calls Tryz.prog 39 #[p.val true] w (Ap w ⟨C,D,true,rd⟩):=by
 obtain⟨sa,sn,sG,a1,n1,c1,a2,n2,c2,ra,rn,rc⟩:=p
 simp only[Pw.val] at*
 obtain⟨es,e1,e2,er,IS,S1,S2,SR⟩:=I
 simp only at*
 have SN:rn<=rc:=by have:=SR.le;rw[List.length_map] at this;omega
 have cR:=fun W g s t=>i6 D a1 a2 c1 c2 n1 n2 W g s t e1 e2 few
 obtain⟨x,hx⟩:∃x:Wd,x=⟨C,D,true,rd⟩:=⟨_,rfl⟩
 rw[<-hx]
 have rS:cu x=if cT D≠0 then cT D else if D.wait≠[] then 4 else if bP (ax D)≠0 then bP (ax D) else if¬(bv C (aZ (ax D))=true/\rd.length=3) then 4 else if rd.all (fd true (ax D).length)=true then 0 else 3:=by
  rw[hx]
  unfold cu iv
  simp only[if_true,true_and,ne_eq]
 have GE:iv x=ax D:=by rw[hx];rfl
 have Hl:x.c=C:=by rw[hx]
 have cS:=fun W (y:dC W sa sG C) (D2:List Rw) b H (z:dC W b H D2)=>wE y z (by omega)
 rw[<-es] at cS
 have BX:=(ac.laid w [.slice sa sn sG,.slice a1 n1 c1,.slice a2 n2 c2,.bool true,.slice ra rn rc] 30 _ rfl).alc (.cells #[.slice none 0 0] 24)
 have BR:=ac.laid (w.alloc (.cells #[.slice sa sn sG,.slice a1 n1 c1,.slice a2 n2 c2,.bool true,.slice ra rn rc] 30)) [.slice none 0 0] 24 (w.heap.size+1) (by simp)
 have bel:=newB (newB (Below.refl w.heap.size w) (.cells #[.slice sa sn sG,.slice a1 n1 c1,.slice a2 n2 c2,.bool true,.slice ra rn rc] 30)) (.cells #[.slice none 0 0] 24)
 replace IS:=IS.keep bel (Nat.le_refl _)
 replace S1:=S1.keep bel (Nat.le_refl _)
 replace S2:=S2.keep bel (Nat.le_refl _)
 replace SR:=SR.keep bel (Nat.le_refl _)
 have gl:=hg.call bel
 obtain⟨gR,kG⟩:∃gR,gR=w.heap.size+1:=⟨_,rfl⟩
 rw[<-kG] at BR
 have mU:w.heap.size<=gR:=by omega
 have tK:=sQ D
 replace hx:=hide hx
 replace es:=hide es
 replace e1:=hide e1
 replace e2:=hide e2
 replace er:=hide er
 replace rS:=hide rS
 replace GE:=hide GE
 replace Hl:=hide Hl
 go_enter Tryz.func39,Tryz.ntmps39
 go_upto_region 1 with fail
 rw[<-kG]
 generalize World.alloc (World.alloc w _) _=w1 at*
 clear kG
 have x1:=BX.cell 1
 have x2:=BX.cell 2
 have xl:=BX.lt
 go_wp2_with fail
 go_at_call 31
 refine((cR _ gl S1 S2).mono fun _ _ h=>h.laid).mono ?_
 rintro e w2 ⟨r1,i1,k1,r2,i2,k2,a3,n3,G3,l3,rfl,DR,LR,fD,pS,b2⟩
 clear x1 x2 xl cR DR gl
 replace BX:=BX.keep b2 BX.lt
 replace BR:=BR.keep b2 BR.lt
 replace IS:=IS.call b2
 replace S2:=S2.call b2
 replace SR:=SR.call b2
 replace bel:=aa bel b2
 clear b2
 by_cases hd:cT D=0
 .rw[hd]
  rw[hd] at rS
  have iL:=rS.out
  rw[if_neg (by decide)] at iL
  replace iL:=hide iL
  clear rS hd
  go_upto_region 4 with fail
  generalize World.alloc w2 _=w3 at*
  have x3:=BX.cell 3
  have x2:=BX.cell 2
  have xl:=BX.lt
  by_cases hw:D.wait=[]
  .have QT:¬(0:Int)<n2:=by rw[e2.out,hw];decide
   have j9:=iL.out
   rw[if_neg (fun h=>h hw)] at j9
   replace j9:=hide j9
   clear iL
   go_upto_region 6 with fail
   have BL:=ac.laid w3 [.int .i64 n3] 3 _ rfl
   have bq:=newB (Below.refl w3.heap.size w3) (.cells #[.int .i64 n3] 3)
   replace BX:=BX.keep bq BX.lt
   replace BR:=BR.keep bq BR.lt
   replace IS:=IS.call bq
   replace SR:=SR.call bq
   replace LR:=LR.call bq
   replace bel:=aa bel bq
   clear bq x3 x2 xl S2
   go_upto_region 7 with fail
   generalize w3.heap.size=gL at*
   generalize World.alloc w3 _=w4 at*
   have x3:=BX.cell 3
   have xl:=BX.lt
   have RD:(n3:Int)=((ax D).length:Int):=by rw[fD.out,<-pS.out,List.length_map]
   obtain⟨last,pG⟩:∃last:Int,last=n3:=⟨_,rfl⟩
   have yi:Hid (rd.all (fd true (ax D).length)= !rd.any (outs last)):=hide (by rw[N1,pG,RD])
   rw[<-pG] at BL
   replace pG:=hide pG
   clear RD
   obtain⟨dn,dp⟩:∃d,Hid (d=(aZ (l3.map (·.r))).length):=⟨_,hide rfl⟩
   have cP:=fun W s=>kZ l3 a3 n3 G3 dn W s fD dp
   rw[pS.out] at cP dp
   go_upto_region 9 with fail
   clear x3 xl
   go_wp2_with fail
   go_at_call 54
   refine((cP _ LR).mono fun _ _ h=>xj h).mono ?_
   rintro e w5 ⟨aS,GS,rfl,BS,Be,b5,NM⟩
   clear cP
   replace BX:=BX.keep b5 BX.lt
   replace BR:=BR.keep b5 BR.lt
   replace BL:=BL.keep b5 BL.lt
   replace IS:=IS.call b5
   replace SR:=SR.call b5
   replace LR:=LR.call b5
   replace bel:=aa bel b5
   clear b5
   by_cases zw:bP (ax D)=0
   .have iB:=j9.out
    rw[if_neg (by simp[zw])] at iB
    replace iB:=hide iB
    clear j9
    have tm:=fp zw
    obtain rfl:dn=4:=by rw[dp.out];exact bL tm
    have h4:=hide (bL tm)
    rw[zw]
    go_upto_region 12 with fail
    generalize w5.heap.size=gS at*
    generalize World.alloc w5 _=w6 at*
    have cX:=cS _ IS (aZ (ax D)) aS GS Be.is
    rw[h4.out] at cX
    have x0:=BX.cell 0
    have x4:=BX.cell 4
    have xl:=BX.lt
    have s0:=BS.cell 0
    have sl:=BS.lt
    go_wp2_with fail
    go_at_call 40
    refine cX.mono ?_
    rintro e w7 ⟨rfl,b7⟩
    clear cX x0 x4 xl s0 sl cS
    replace BX:=BX.keep b7 BX.lt
    replace BR:=BR.keep b7 BR.lt
    replace BL:=BL.keep b7 BL.lt
    replace BS:=BS.keep b7 BS.lt
    replace IS:=IS.call b7
    replace Be:=Be.call b7
    replace SR:=SR.call b7
    replace LR:=LR.call b7
    replace bel:=aa bel b7
    clear b7
    have x4:=BX.cell 4
    have xl:=BX.lt
    by_cases rh:bv C (aZ (ax D))=true
    .rw[rh]
     by_cases qa:rn=3
     .have fi:=iB.out
      rw[if_neg (fun h=>h ⟨rh,er.out.symm.trans qa⟩)] at fi
      subst qa
      have cO:=fun W s b=>xK rd ra rc 3 last gL W s b er.out.symm (by decide)
      rw[yi.out] at fi
      replace fi:=hide fi
      clear iB yi
      go_upto_region 15 with fail
      clear x4 xl
      have x4:=BX.cell 4
      have xl:=BX.lt
      go_wp2_with fail
      go_at_call 83
      refine(cO _ SR BL).mono ?_
      rintro e w8 ⟨rfl,rfl⟩
      clear cO
      cases ha:rd.any (outs last) with
      |true=>
       have kO:=fi.out
       rw[ha,if_neg (by decide)] at kO
       replace kO:=hide kO
       clear fi ha
       go_upto_region 16 with fail
       clear x4 xl
       have y0:=BR.cell 0
       have yf:=BR.free 0
       have yl:=BR.lt
       go_wp2_with fail
       have B9:=BR.set 0 (.slice none 0 0)
       have aq:=bel.setCell (p:=⟨gR,0,none⟩) mU (.slice none 0 0)
       have i0:=B9.cell 0
       exact bodyPost_ret (v:=.tuple #[.agg #[.slice none 0 0],.slice none 0 0,.int .i64 3]) (by simp[results,Tryz.results39,go_sem,i0]) rfl (im kO.out (by decide) aq)
      |false=>
       have kO:=fi.out
       rw[ha,if_pos (by decide)] at kO
       have St:Hid (aZ (ax D)=x.c):=hide (by rw[Hl.out];exact(kf rh).symm)
       have Df:=hide kO
       clear fi ha rh kO
       go_upto_region 17 with fail
       clear x4 xl
       have s0:=BS.cell 0
       have sl:=BS.lt
       have y0:=BR.cell 0
       have yf:=BR.free 0
       have yl:=BR.lt
       have B9:=BR.set 0 (.slice aS 4 GS)
       have aq:=bel.setCell (p:=⟨gR,0,none⟩) mU (.slice aS 4 GS)
       have I9:=(Be.boxed BR (.slice aS 4 GS)).is
       have L9:=LR.box1 BR (.slice aS 4 GS)
       have i0:=B9.cell 0
       go_wp2_with fail
       exact bodyPost_ret (v:=.tuple #[.agg #[.slice aS 4 GS],.slice a3 n3 G3,.int .i64 0]) (by simp[results,Tryz.results39,go_sem,i0]) rfl
        ⟨aS,4,GS,a3,n3,G3,l3,by rw[Df.out],hide (fun _=>⟨rfl,by rw[<-St.out];exact I9,L9,fD.out,by rw[pS.out,GE.out]⟩),aq⟩
     .have fi:=iB.out
      rw[if_pos (fun h=>qa (er.out.trans h.2))] at fi
      have Uh:¬(rn:Int)=3:=by omega
      replace fi:=hide fi
      clear iB
      go_upto_region 13 with fail
      clear x4 xl
      have y0:=BR.cell 0
      have yf:=BR.free 0
      have yl:=BR.lt
      go_wp2_with fail
      have B9:=BR.set 0 (.slice none 0 0)
      have aq:=bel.setCell (p:=⟨gR,0,none⟩) mU (.slice none 0 0)
      have i0:=B9.cell 0
      exact bodyPost_ret (v:=.tuple #[.agg #[.slice none 0 0],.slice none 0 0,.int .i64 4]) (by simp[results,Tryz.results39,go_sem,i0]) rfl (im fi.out (by decide) aq)
    .have fi:=iB.out
     rw[if_pos (fun h=>rh h.1)] at fi
     have LC:bv C (aZ (ax D))=false:=by simpa using rh
     rw[LC]
     replace fi:=hide fi
     clear iB
     go_upto_region 13 with fail
     clear x4 xl
     have y0:=BR.cell 0
     have yf:=BR.free 0
     have yl:=BR.lt
     go_wp2_with fail
     have B9:=BR.set 0 (.slice none 0 0)
     have aq:=bel.setCell (p:=⟨gR,0,none⟩) mU (.slice none 0 0)
     have i0:=B9.cell 0
     exact bodyPost_ret (v:=.tuple #[.agg #[.slice none 0 0],.slice none 0 0,.int .i64 4]) (by simp[results,Tryz.results39,go_sem,i0]) rfl (im fi.out (by decide) aq)
   .have iB:=j9.out
    rw[if_pos zw] at iB
    have oZ:decide (bP (ax D)=0)=false:=decide_eq_false zw
    generalize bP (ax D)=E at*
    replace iB:=hide iB
    clear j9
    go_upto_region 11 with fail
    generalize World.alloc w5 _=w6 at*
    have y0:=BR.cell 0
    have yf:=BR.free 0
    have yl:=BR.lt
    go_wp2_with fail
    have B9:=BR.set 0 (.slice none 0 0)
    have aq:=bel.setCell (p:=⟨gR,0,none⟩) mU (.slice none 0 0)
    have i0:=B9.cell 0
    exact bodyPost_ret (v:=.tuple #[.agg #[.slice none 0 0],.slice none 0 0,.int .i64 E]) (by simp[results,Tryz.results39,go_sem,i0]) rfl (im iB.out zw aq)
  .have QT:(0:Int)<n2:=by
    rw[e2.out]
    have:=List.length_pos_iff.2 hw
    omega
   have j9:=iL.out
   rw[if_pos hw] at j9
   replace j9:=hide j9
   clear iL
   go_upto_region 5 with fail
   clear x3 x2 xl
   have y0:=BR.cell 0
   have yf:=BR.free 0
   have yl:=BR.lt
   go_wp2_with fail
   have B9:=BR.set 0 (.slice none 0 0)
   have aq:=bel.setCell (p:=⟨gR,0,none⟩) mU (.slice none 0 0)
   have i0:=B9.cell 0
   exact bodyPost_ret (v:=.tuple #[.agg #[.slice none 0 0],.slice none 0 0,.int .i64 4]) (by simp[results,Tryz.results39,go_sem,i0]) rfl (im j9.out (by decide) aq)
 .have iL:=rS.out
  rw[if_pos hd] at iL
  have hdd:decide (cT D=0)=false:=decide_eq_false hd
  generalize cT D=E at*
  replace iL:=hide iL
  clear rS
  go_upto_region 3 with fail
  generalize World.alloc w2 _=w3 at*
  have y0:=BR.cell 0
  have yf:=BR.free 0
  have yl:=BR.lt
  go_wp2_with fail
  have B9:=BR.set 0 (.slice none 0 0)
  have aq:=bel.setCell (p:=⟨gR,0,none⟩) mU (.slice none 0 0)
  have i0:=B9.cell 0
  exact bodyPost_ret (v:=.tuple #[.agg #[.slice none 0 0],.slice none 0 0,.int .i64 E]) (by simp[results,Tryz.results39,go_sem,i0]) rfl (im iL.out hd aq)
theorem Fh (C:List Rw)(D:Dk)(rd:List Int)(p:Pw)(w:World)(hg:Gl w)(I:ej w p ⟨C,D,false,rd⟩)(few:p.n1+p.n2<=9223372036854775807)(gV:p.sn<=140737488355328):
  Calls Tryz.prog 39 #[p.val false] w (Ap w ⟨C,D,false,rd⟩):=by
 obtain⟨sa,sn,sG,a1,n1,c1,a2,n2,c2,ra,rn,rc⟩:=p
 simp only[Pw.val] at*
 obtain⟨es,e1,e2,er,IS,S1,S2,SR⟩:=I
 simp only at*
 have SN:rn<=rc:=by have:=SR.le;rw[List.length_map] at this;omega
 have cR:=fun W g s t=>i6 D a1 a2 c1 c2 n1 n2 W g s t e1 e2 few
 obtain⟨x,hx⟩:∃x:Wd,x=⟨C,D,false,rd⟩:=⟨_,rfl⟩
 rw[<-hx]
 have rS:cu x=if cT D≠0 then cT D else if False then 4 else if bP (([]:List Rc))≠0 then bP (([]:List Rc)) else if¬(bv C (aZ (([]:List Rc)))=true/\rd.length=3) then 4 else if rd.all (fd false (([]:List Rc)).length)=true then 0 else 3:=by
  rw[hx]
  unfold cu iv
  simp only[Bool.false_eq_true,false_and,if_false,ne_eq]
 have GE:iv x=[]:=by rw[hx];rfl
 have Hl:x.c=C:=by rw[hx]
 have cS:=fun W (y:dC W sa sG C) (D2:List Rw) b H (z:dC W b H D2)=>wE y z (by omega)
 rw[<-es] at cS
 have BX:=(ac.laid w [.slice sa sn sG,.slice a1 n1 c1,.slice a2 n2 c2,.bool false,.slice ra rn rc] 30 _ rfl).alc (.cells #[.slice none 0 0] 24)
 have BR:=ac.laid (w.alloc (.cells #[.slice sa sn sG,.slice a1 n1 c1,.slice a2 n2 c2,.bool false,.slice ra rn rc] 30)) [.slice none 0 0] 24 (w.heap.size+1) (by simp)
 have bel:=newB (newB (Below.refl w.heap.size w) (.cells #[.slice sa sn sG,.slice a1 n1 c1,.slice a2 n2 c2,.bool false,.slice ra rn rc] 30)) (.cells #[.slice none 0 0] 24)
 replace IS:=IS.keep bel (Nat.le_refl _)
 replace S1:=S1.keep bel (Nat.le_refl _)
 replace S2:=S2.keep bel (Nat.le_refl _)
 replace SR:=SR.keep bel (Nat.le_refl _)
 have gl:=hg.call bel
 obtain⟨gR,kG⟩:∃gR,gR=w.heap.size+1:=⟨_,rfl⟩
 rw[<-kG] at BR
 have mU:w.heap.size<=gR:=by omega
 have tK:=sQ D
 replace hx:=hide hx
 replace es:=hide es
 replace e1:=hide e1
 replace e2:=hide e2
 replace er:=hide er
 replace rS:=hide rS
 replace GE:=hide GE
 replace Hl:=hide Hl
 go_enter Tryz.func39,Tryz.ntmps39
 go_upto_region 1 with fail
 rw[<-kG]
 generalize World.alloc (World.alloc w _) _=w1 at*
 clear kG
 have x1:=BX.cell 1
 have x2:=BX.cell 2
 have xl:=BX.lt
 go_wp2_with fail
 go_at_call 31
 refine((cR _ gl S1 S2).mono fun _ _ h=>h.laid).mono ?_
 rintro e w2 ⟨r1,i1,k1,r2,i2,k2,a3,n3,G3,l3,rfl,DR,LR,fD,pS,b2⟩
 clear x1 x2 xl cR DR gl
 replace BX:=BX.keep b2 BX.lt
 replace BR:=BR.keep b2 BR.lt
 replace IS:=IS.call b2
 replace S2:=S2.call b2
 replace SR:=SR.call b2
 replace bel:=aa bel b2
 clear b2
 by_cases hd:cT D=0
 .rw[hd]
  rw[hd] at rS
  have iL:=rS.out
  rw[if_neg (by decide)] at iL
  replace iL:=hide iL
  clear rS hd
  go_upto_region 4 with fail
  generalize World.alloc w2 _=w3 at*
  have x3:=BX.cell 3
  have xl:=BX.lt
  have j9:=iL.out
  rw[if_neg (fun h=>h)] at j9
  replace j9:=hide j9
  clear iL
  go_upto_region 6 with fail
  have K8:=ac.laid w3 [.int .i64 n3] 3 _ rfl
  have bq:=newB (Below.refl w3.heap.size w3) (.cells #[.int .i64 n3] 3)
  have Xd:w.heap.size≠w3.heap.size:=Nat.ne_of_lt BX.lt
  have WN:gR≠w3.heap.size:=Nat.ne_of_lt BR.lt
  replace BX:=BX.keep bq BX.lt
  replace BR:=BR.keep bq BR.lt
  have VJ:=IS
  have vD:=SR
  have Uc:w.heap.size<=w3.heap.size:=bel.size
  replace bel:=aa bel bq
  clear x3 xl LR S2
  go_upto_region 7 with fail
  have BL:=K8.set 0 (.int .i64 (-1))
  have bs:=bq.setCell (p:=⟨w3.heap.size,0,none⟩) (Nat.le_refl _) (.int .i64 (-1))
  replace IS:=VJ.call bs
  replace SR:=vD.call bs
  have al:=bel.setCell (p:=⟨w3.heap.size,0,none⟩) Uc (.int .i64 (-1))
  clear bq bs VJ vD
  generalize w3.heap.size=gL at*
  generalize World.alloc w3 _=w4 at*
  have x3:=BX.cell 3
  have xl:=BX.lt
  have z0:=K8.cell 0
  have zf:=K8.free 0
  have zl:=K8.lt
  have vF:=BX.other 0 (.int .i64 (-1)) Xd.symm
  have Id:=BR.other 0 (.int .i64 (-1)) WN.symm
  go_upto_region 9 with fail
  clear x3 xl z0 zf zl BX BR K8 bel Xd WN
  have BX:=vF
  have BR:=Id
  have bel:=al
  clear vF Id al
  generalize World.setCell w4 _ _=w4b at*
  obtain⟨last,pG⟩:∃last:Int,last=-1:=⟨_,rfl⟩
  have yi:Hid (rd.all (fd false ([]:List Rc).length)= !rd.any (outs last)):=hide (by rw[pG];exact H7 rd)
  rw[<-pG] at BL
  replace pG:=hide pG
  obtain⟨dn,dp⟩:∃d,Hid (d=(aZ []).length):=⟨_,hide rfl⟩
  have cP:=fun W=>kZ [] none 0 0 dn W ⟨aY.ofNil _ _,fun _ h=>(by cases h)⟩ (hide rfl) dp
  simp only[List.map_nil] at cP
  go_wp2_with fail
  go_at_call 54
  refine((cP _).mono fun _ _ h=>xj h).mono ?_
  rintro e w5 ⟨aS,GS,rfl,BS,Be,b5,NM⟩
  clear cP
  replace BX:=BX.keep b5 BX.lt
  replace BR:=BR.keep b5 BR.lt
  replace BL:=BL.keep b5 BL.lt
  replace IS:=IS.call b5
  replace SR:=SR.call b5
  replace bel:=aa bel b5
  clear b5
  have zw:bP []=0:=rfl
  have iB:=j9.out
  rw[if_neg (by simp[zw])] at iB
  replace iB:=hide iB
  clear j9
  have tm:=fp zw
  obtain rfl:dn=4:=by rw[dp.out];exact bL tm
  have h4:=hide (bL tm)
  rw[zw]
  go_upto_region 12 with fail
  generalize w5.heap.size=gS at*
  generalize World.alloc w5 _=w6 at*
  have cX:=cS _ IS (aZ ([])) aS GS Be.is
  rw[h4.out] at cX
  have x0:=BX.cell 0
  have x4:=BX.cell 4
  have xl:=BX.lt
  have s0:=BS.cell 0
  have sl:=BS.lt
  go_wp2_with fail
  go_at_call 40
  refine cX.mono ?_
  rintro e w7 ⟨rfl,b7⟩
  clear cX x0 x4 xl s0 sl cS
  replace BX:=BX.keep b7 BX.lt
  replace BR:=BR.keep b7 BR.lt
  replace BL:=BL.keep b7 BL.lt
  replace BS:=BS.keep b7 BS.lt
  replace IS:=IS.call b7
  replace Be:=Be.call b7
  replace SR:=SR.call b7
  replace bel:=aa bel b7
  clear b7
  have x4:=BX.cell 4
  have xl:=BX.lt
  by_cases rh:bv C (aZ ([]))=true
  .rw[rh]
   by_cases qa:rn=3
   .have fi:=iB.out
    rw[if_neg (fun h=>h ⟨rh,er.out.symm.trans qa⟩)] at fi
    subst qa
    have cO:=fun W s b=>xK rd ra rc 3 last gL W s b er.out.symm (by decide)
    rw[yi.out] at fi
    replace fi:=hide fi
    clear iB yi
    go_upto_region 15 with fail
    clear x4 xl
    have x4:=BX.cell 4
    have xl:=BX.lt
    go_wp2_with fail
    go_at_call 83
    refine(cO _ SR BL).mono ?_
    rintro e w8 ⟨rfl,rfl⟩
    clear cO
    cases ha:rd.any (outs last) with
    |true=>
     have kO:=fi.out
     rw[ha,if_neg (by decide)] at kO
     replace kO:=hide kO
     clear fi ha
     go_upto_region 16 with fail
     clear x4 xl
     have y0:=BR.cell 0
     have yf:=BR.free 0
     have yl:=BR.lt
     go_wp2_with fail
     have B9:=BR.set 0 (.slice none 0 0)
     have aq:=bel.setCell (p:=⟨gR,0,none⟩) mU (.slice none 0 0)
     have i0:=B9.cell 0
     exact bodyPost_ret (v:=.tuple #[.agg #[.slice none 0 0],.slice none 0 0,.int .i64 3]) (by simp[results,Tryz.results39,go_sem,i0]) rfl (im kO.out (by decide) aq)
    |false=>
     have kO:=fi.out
     rw[ha,if_pos (by decide)] at kO
     have St:Hid (aZ ([])=x.c):=hide (by rw[Hl.out];exact(kf rh).symm)
     have Df:=hide kO
     clear fi ha rh kO
     go_upto_region 17 with fail
     clear x4 xl
     have s0:=BS.cell 0
     have sl:=BS.lt
     have y0:=BR.cell 0
     have yf:=BR.free 0
     have yl:=BR.lt
     have B9:=BR.set 0 (.slice aS 4 GS)
     have aq:=bel.setCell (p:=⟨gR,0,none⟩) mU (.slice aS 4 GS)
     have I9:=(Be.boxed BR (.slice aS 4 GS)).is
     have i0:=B9.cell 0
     go_wp2_with fail
     exact bodyPost_ret (v:=.tuple #[.agg #[.slice aS 4 GS],.slice none 0 0,.int .i64 0]) (by simp[results,Tryz.results39,go_sem,i0]) rfl
      ⟨aS,4,GS,none,0,0,[],by rw[Df.out],hide (fun _=>⟨rfl,by rw[<-St.out];exact I9,⟨aY.ofNil _ _,fun _ h=>(by cases h)⟩,rfl,by rw[GE.out];rfl⟩),aq⟩
   .have fi:=iB.out
    rw[if_pos (fun h=>qa (er.out.trans h.2))] at fi
    have Uh:¬(rn:Int)=3:=by omega
    replace fi:=hide fi
    clear iB
    go_upto_region 13 with fail
    clear x4 xl
    have y0:=BR.cell 0
    have yf:=BR.free 0
    have yl:=BR.lt
    go_wp2_with fail
    have B9:=BR.set 0 (.slice none 0 0)
    have aq:=bel.setCell (p:=⟨gR,0,none⟩) mU (.slice none 0 0)
    have i0:=B9.cell 0
    exact bodyPost_ret (v:=.tuple #[.agg #[.slice none 0 0],.slice none 0 0,.int .i64 4]) (by simp[results,Tryz.results39,go_sem,i0]) rfl (im fi.out (by decide) aq)
  .have fi:=iB.out
   rw[if_pos (fun h=>rh h.1)] at fi
   have LC:bv C (aZ ([]))=false:=by simpa using rh
   rw[LC]
   replace fi:=hide fi
   clear iB
   go_upto_region 13 with fail
   clear x4 xl
   have y0:=BR.cell 0
   have yf:=BR.free 0
   have yl:=BR.lt
   go_wp2_with fail
   have B9:=BR.set 0 (.slice none 0 0)
   have aq:=bel.setCell (p:=⟨gR,0,none⟩) mU (.slice none 0 0)
   have i0:=B9.cell 0
   exact bodyPost_ret (v:=.tuple #[.agg #[.slice none 0 0],.slice none 0 0,.int .i64 4]) (by simp[results,Tryz.results39,go_sem,i0]) rfl (im fi.out (by decide) aq)
 .have iL:=rS.out
  rw[if_pos hd] at iL
  have hdd:decide (cT D=0)=false:=decide_eq_false hd
  generalize cT D=E at*
  replace iL:=hide iL
  clear rS
  go_upto_region 3 with fail
  generalize World.alloc w2 _=w3 at*
  have y0:=BR.cell 0
  have yf:=BR.free 0
  have yl:=BR.lt
  go_wp2_with fail
  have B9:=BR.set 0 (.slice none 0 0)
  have aq:=bel.setCell (p:=⟨gR,0,none⟩) mU (.slice none 0 0)
  have i0:=B9.cell 0
  exact bodyPost_ret (v:=.tuple #[.agg #[.slice none 0 0],.slice none 0 0,.int .i64 E]) (by simp[results,Tryz.results39,go_sem,i0]) rfl (im iL.out hd aq)
theorem nN (x:Wd)(p:Pw)(w:World)(hg:Gl w)(I:ej w p x)(few:p.n1+p.n2<=9223372036854775807)(gV:p.sn<=140737488355328):
  Calls Tryz.prog 39 #[p.val x.up] w (Ap w x):=by
 obtain⟨C,D,up,rd⟩:=x
 cases up
 .exact Fh C D rd p w hg I few gV
 .exact FH C D rd p w hg I few gV
end Go.Proofs.YtoonnbhoiocoeaaGreatDoor
namespace Go.Proofs.YtoonnbhoiocoeaaGreatDoor
open Go.RowKit
theorem FT (ao:Option Addr)(cap:Nat)(l:List Bool)(w:World)(hr:Sl w ao cap (l.map Value.bool))(hl:l.length<=140737488355328):
  Calls Tryz.prog 226 #[.slice ao l.length cap] w fun e w'=>
   ∃v',e=.returned v'/\w'.ownsRow w.heap.size 4 1 v' l.length (l.map Value.bool)/\Below w.heap.size w w':=by
 obtain⟨i0,hi,bU,bi,bk⟩:=info_parts oz
 have q:∀(w:World) (a:Option Addr) (n c n' c':Nat),(binOp .eql 105 (.slice a n c) (.slice none n' c')).run Tryz.prog w=.ok (.bool a.isNone) w:=fun w a n c n' c'=>Lib.run_eql_slice_nil w _ _ a n c n' c' Tryz.underlying105
 cases ao with
 |none=>
  obtain⟨h1,rfl⟩:=hr.src0 rfl
  obtain rfl:l=[]:=by simpa using h1
  clear h1
  go_enter Tryz.func226,Tryz.ntmps226
  go_wp2_with fail
  go_ret
  exact⟨_,rfl,⟨rfl,.inl ⟨rfl,rfl⟩⟩,Below.refl _ _⟩
 |some ad=>
  have fj:(w.alloc (.cells #[] 4)).ownsRow w.heap.size 4 1 (.slice (some ⟨w.heap.size,0,none⟩) 0 0) 0 []:=by
   have hB:=ac.laid w [] 4 _ rfl
   exact ui hB w.heap.size (Nat.le_refl _) 0 (Nat.le_refl _) (by decide)
  have fZ:=(Below.refl w.heap.size w).alloc (Nat.le_refl _) (Obj.cells #[] 4)
  by_cases h0:l=[]
  .subst h0
   have hs:=hr.alloc (.cells #[] 4)
   have hx:=hs.src
   have hy:=hs.src0
   have bA:w.heap.size<=(w.alloc (.cells #[] 4)).heap.size:=by simp
   clear hr hs
   go_enter Tryz.func226,Tryz.ntmps226
   go_wp2_with (at_builtin;refine wpList_append_fits_any _ rfl (.tmp 5) (.tmp 6) 105 rfl w.heap.size 4 i0 1 Tryz.underlying105 hi bi w.heap.size 0 0 [] rfl fj (some ad) 0 cap [] rfl rfl hy hx (by simp) (Nat.le_refl _) ?_)
   intro w1 eB cY
   have aU:=aH fZ fj cY (Nat.le_refl _) bA
   go_wp2_with fail
   go_ret
   exact⟨_,rfl,eB,aU⟩
  .have rx:0<l.length:=List.length_pos_iff.2 h0
   have hs:=hr.alloc (.cells #[] 4)
   have fc:=hs.src ad rfl
   have one:=Gt l
   have bA:w.heap.size<=(w.alloc (.cells #[] 4)).heap.size:=by simp
   clear hr hs h0
   go_enter Tryz.func226,Tryz.ntmps226
   go_wp2_with (at_builtin;refine dX _ rfl (.tmp 5) (.tmp 6) 105 rfl w.heap.size 4 i0 (.bool false) 1 1 Tryz.underlying105 hi bU bi bk rfl (by decide) _ 0 _ rfl fj ad l.length cap (l.map Value.bool) rfl (by simp) fc one rx (by unfold maxLen;omega) (by omega) bA ?_)
   intro v' w1 eB cY Ch
   have aU:=aH fZ fj cY (Nat.le_refl _) bA
   obtain⟨a1,c1,rfl,t1,n1⟩:=pH eB
   go_wp2_with fail
   go_ret
   exact⟨_,rfl,eB,aU⟩
end Go.Proofs.YtoonnbhoiocoeaaGreatDoor
namespace Go.Proofs.YtoonnbhoiocoeaaGreatDoor
open Go.RowKit
open Go.Lib (byteCells)
theorem KK (l:List UInt8):∀v∈byteCells l,v.oneCell'=true:=by
 intro v hv
 obtain⟨b,_,rfl⟩:=List.mem_map.1 hv
 rfl
theorem vz (ao:Option Addr)(cap:Nat)(l:List UInt8)(w:World)(hr:Sl w ao cap (byteCells l))(hl:l.length<=140737488355328):
  Calls Tryz.prog 67 #[.slice ao l.length cap] w fun e w'=>
   ∃v',e=.returned v'/\w'.ownsRow w.heap.size 5 1 v' l.length (byteCells l)/\Below w.heap.size w w':=by
 obtain⟨i0,hi,bU,bi,bk⟩:=info_parts yd
 have q:∀(w:World) (a:Option Addr) (n c n' c':Nat),(binOp .eql 25 (.slice a n c) (.slice none n' c')).run Tryz.prog w=.ok (.bool a.isNone) w:=fun w a n c n' c'=>Lib.run_eql_slice_nil w _ _ a n c n' c' Tryz.underlying25
 cases ao with
 |none=>
  obtain⟨h1,rfl⟩:=hr.src0 rfl
  obtain rfl:l=[]:=by cases l with|nil=>rfl|cons b r=>simp[byteCells] at h1
  clear h1
  go_enter Tryz.func67,Tryz.ntmps67
  go_wp2_with fail
  go_ret
  exact⟨_,rfl,⟨rfl,.inl ⟨rfl,rfl⟩⟩,Below.refl _ _⟩
 |some ad=>
  have fj:(w.alloc (.cells #[] 5)).ownsRow w.heap.size 5 1 (.slice (some ⟨w.heap.size,0,none⟩) 0 0) 0 []:=by
   have hB:=ac.laid w [] 5 _ rfl
   exact ui hB w.heap.size (Nat.le_refl _) 0 (Nat.le_refl _) (by decide)
  have fZ:=(Below.refl w.heap.size w).alloc (Nat.le_refl _) (Obj.cells #[] 5)
  by_cases h0:l=[]
  .subst h0
   have hs:=hr.alloc (.cells #[] 5)
   have hx:=hs.src
   have hy:=hs.src0
   have bA:w.heap.size<=(w.alloc (.cells #[] 5)).heap.size:=by simp
   clear hr hs
   go_enter Tryz.func67,Tryz.ntmps67
   go_wp2_with (at_builtin;refine wpList_append_fits_any _ rfl (.tmp 5) (.tmp 6) 25 rfl w.heap.size 5 i0 1 Tryz.underlying25 hi bi w.heap.size 0 0 [] rfl fj (some ad) 0 cap [] rfl rfl hy hx (by simp) (Nat.le_refl _) ?_)
   intro w1 eB cY
   have aU:=aH fZ fj cY (Nat.le_refl _) bA
   go_wp2_with fail
   go_ret
   exact⟨_,rfl,eB,aU⟩
  .have rx:0<l.length:=List.length_pos_iff.2 h0
   have hs:=hr.alloc (.cells #[] 5)
   have fc:=hs.src ad rfl
   have one:=KK l
   have bA:w.heap.size<=(w.alloc (.cells #[] 5)).heap.size:=by simp
   clear hr hs h0
   go_enter Tryz.func67,Tryz.ntmps67
   go_wp2_with (at_builtin;refine dX _ rfl (.tmp 5) (.tmp 6) 25 rfl w.heap.size 5 i0 (.int .u8 0) 1 1 Tryz.underlying25 hi bU bi bk rfl (by decide) _ 0 _ rfl fj ad l.length cap (byteCells l) rfl (by rw[Lib.byteCells_length,Nat.mul_one]) fc one rx (by unfold maxLen;omega) (by omega) bA ?_)
   intro v' w1 eB cY Ch
   have aU:=aH fZ fj cY (Nat.le_refl _) bA
   obtain⟨a1,c1,rfl,t1,n1⟩:=pH eB
   go_wp2_with fail
   go_ret
   exact⟨_,rfl,eB,aU⟩
theorem Oq (ad:Addr)(cap:Nat)(l:List Int)(n:Nat)(w:World)(dA:Row w (some ad) (l.map (Value.int .i64)))(aw:l.length=n)(hn:0<n)(hl:n<=1000000000000):
  Calls Tryz.prog 49 #[.slice (some ad) n cap] w fun e w'=>
   ∃(g G:Nat) (ys:List Int),e=.returned (.slice (some ⟨g,0,none⟩) n G)/\ac w' g (ys.map (Value.int .i64)) 3/\ys.take n=l/\n<=G/\G<=9223372036854775807/\w.heap.size<=g/\Below w.heap.size w w':=by
 obtain⟨i0,hi,bU,bi,bk⟩:=info_parts IW
 have q:∀(w:World) (a:Option Addr) (n c n' c':Nat),(binOp .eql 28 (.slice a n c) (.slice none n' c')).run Tryz.prog w=.ok (.bool a.isNone) w:=fun w a n c n' c'=>Lib.run_eql_slice_nil w _ _ a n c n' c' Tryz.underlying28
 have fZ:=(Below.refl w.heap.size w).alloc (Nat.le_refl _) (Obj.cells #[] 3)
 have hs:=dA.alloc (.cells #[] 3)
 have fc:∀j u,(l.map (Value.int .i64))[j]? =some u->(w.alloc (.cells #[] 3)).cell? (ad.add j)=some u:=by
  intro j u hu
  obtain⟨b',k8,e,_,hc⟩:=hs.at (by intro e;rw[e] at hu;simp at hu)
  obtain rfl:=Option.some.inj e
  rw[Addr.add_lit]
  exact hc j u hu
 have e1:(l.map (Value.int .i64)).length=n*i0.size:=by rw[bi,List.length_map,Nat.mul_one];exact aw
 have e2:(Value.int .i64 0).cells.size=i0.size:=by rw[bi];rfl
 have e3:n*i0.bytes<=140737488355328:=by rw[bk];omega
 obtain⟨C,hC⟩:∃C,C=l.map (Value.int .i64):=⟨_,rfl⟩
 rw[<-hC] at fc e1
 replace aw:=hide aw
 replace hC:=hide hC
 replace e1:=hide e1
 replace e2:=hide e2
 clear dA hs
 go_enter Tryz.func49,Tryz.ntmps49
 go_wp2_with (at_builtin;refine k' _ rfl (.tmp 5) (.tmp 6) 28 rfl 3 i0 (.int .i64 0) Tryz.underlying28 hi bU e2.out (by rw[bi];decide) ⟨w.heap.size,0,none⟩ rfl ad n cap C rfl e1.out fc hn (by unfold maxLen;omega) e3 ?_)
 intro G L w1 B1 hL RD hG r7 cY
 have aU:Below w.heap.size w w1:=fZ.grown cY (by simp) (fun k h=>by cases h)
 obtain⟨z,hz⟩:∃z:List Int,L=z.map (Value.int .i64):=by
  refine⟨List.replicate L.length 0,?_⟩
  rw[List.map_replicate]
  exact List.eq_replicate_iff.2 ⟨rfl,fun v hv=>by have:=hL v hv;simpa[Value.cells] using this⟩
 replace hz:=hide hz
 go_wp2_with fail
 go_ret
 refine⟨_,G,l++z,rfl,?_,?_,hG,by unfold maxLen at r7;exact r7,by simp,aU⟩
 .rw[List.map_append,<-hz.out,<-hC.out];exact B1
 .rw[<-aw.out,List.take_left]
end Go.Proofs.YtoonnbhoiocoeaaGreatDoor
namespace Go.Proofs.YtoonnbhoiocoeaaGreatDoor
open Go.RowKit
open Go.Lib (byteCells)
theorem Ej (x:Wd)(p:Pw)(w:World)(hg:Gl w)(I:ej w p x)(few:p.n1+p.n2<=9223372036854775807)(gV:p.sn<=140737488355328):
  Calls Tryz.prog 11 #[p.val x.up] w fun e w'=>e=.returned (.int .i64 (cu x))/\Below w.heap.size w w':=by
 have c:=fun W g i=>nN x p W g i few gV
 obtain⟨C,D,up,rd⟩:=x
 obtain⟨sa,sn,sG,a1,n1,c1,a2,n2,c2,ra,rn,rc⟩:=p
 simp only[Pw.val] at*
 have BX:=ac.laid w [.slice sa sn sG,.slice a1 n1 c1,.slice a2 n2 c2,.bool up,.slice ra rn rc] 30 _ rfl
 have bel:=newB (Below.refl w.heap.size w) (.cells #[.slice sa sn sG,.slice a1 n1 c1,.slice a2 n2 c2,.bool up,.slice ra rn rc] 30)
 replace I:=hide (I.alloc (.cells #[.slice sa sn sG,.slice a1 n1 c1,.slice a2 n2 c2,.bool up,.slice ra rn rc] 30))
 have gl:=hg.call bel
 go_enter Tryz.func11,Tryz.ntmps11
 go_upto_region 1 with fail
 generalize World.alloc w _=w1 at*
 have x0:=BX.cell 0
 have x1:=BX.cell 1
 have x2:=BX.cell 2
 have x3:=BX.cell 3
 have x4:=BX.cell 4
 have xl:=BX.lt
 go_wp2_with fail
 go_at_call 39
 refine(c _ gl I.out).mono ?_
 rintro e w2 ⟨a',n',G',la,ln,lG,l,rfl,_,b2⟩
 have al:=newB (aa bel b2) (.cells #[.slice a' n' G'] 24)
 go_wp2_with fail
 go_ret
 exact⟨rfl,al⟩
structure Ou (W:World)(h:Nat)(p:Pw)(ys:List Int)(x:Wd):Prop where
 is:ej W p x
 so:jn (fun q=>q=h\/False) W p.sa p.sG x.c
 right:cu x=0
 ra:p.ra=some ⟨h,0,none⟩
 rb:ac W h (ys.map (Value.int .i64)) 3
 ry:ys.take 3=x.rd
 rm:3<=p.rc
theorem iG.v {W:World}{g h:Nat}{p:Pw}{ys:List Int}{x:Wd}(k:iG (fun _=>False) W g h p ys x):Ou W h p ys x:=⟨k.is,k.so,k.right,k.ra,k.rb,k.ry,k.rm⟩
theorem Ou.box {W:World}{h:Nat}{p:Pw}{ys:List Int}{x:Wd}(k:Ou W h p ys x):iG (fun _=>False) (W.alloc (.cells (p.cells x.up).toArray 30)) W.heap.size h p ys x:=
 have b:=(Below.refl W.heap.size W).alloc (Nat.le_refl _) (.cells (p.cells x.up).toArray 30)
 ⟨ac.laid W (p.cells x.up) 30 _ rfl,k.is.call b,k.so.call b,k.right,k.ra,k.rb.keep b k.rb.lt,k.ry,k.rm⟩
theorem mI {x:Wd}{p:Pw}{w:World}(I:ej w p x)(h:cu x=0):p.n1+p.n2<=60000/\p.sn=4/\p.rn=3:=by
 obtain⟨h1,_,_,_,h5,_⟩:=dQ h
 refine⟨?_,by rw[I.es];exact bL (jV h),by rw[I.er];exact h5⟩
 rw[I.e1,I.e2]
 exact wh h1
def Lk (W:World)(x:Wd)(e:Ending)(w':World):Prop:=
 ∃(h:Nat) (p:Pw) (ys:List Int),e=.returned (.tuple #[p.val x.up,.int .i64 0])/\Ou w' h p ys x/\W.heap.size<=h/\Below W.heap.size W w'
theorem xu (x:Wd)(p:Pw)(w:World)(hg:Gl w)(I:ej w p x)(h:cu x=0):
  Calls Tryz.prog 32 #[p.val x.up] w (Lk w x):=by
 obtain⟨k1,k2,k3⟩:=mI I h
 have c:=fun W g i=>nN x p W g i (by omega) (by omega)
 unfold Ap at c
 rw[h] at c
 obtain⟨C,D,up,rd⟩:=x
 obtain⟨sa,sn,sG,a1,n1,c1,a2,n2,c2,ra,rn,rc⟩:=p
 simp only[Pw.val] at*
 have BX:=(ac.laid w [.slice sa sn sG,.slice a1 n1 c1,.slice a2 n2 c2,.bool up,.slice ra rn rc] 30 _ rfl).alc (.cells #[.slice none 0 0,.slice none 0 0,.slice none 0 0,.bool false,.slice none 0 0] 30)
 have BR:=ac.laid (w.alloc (.cells #[.slice sa sn sG,.slice a1 n1 c1,.slice a2 n2 c2,.bool up,.slice ra rn rc] 30)) [.slice none 0 0,.slice none 0 0,.slice none 0 0,.bool false,.slice none 0 0] 30 (w.heap.size+1) (by simp)
 have bel:=newB (newB (Below.refl w.heap.size w) (.cells #[.slice sa sn sG,.slice a1 n1 c1,.slice a2 n2 c2,.bool up,.slice ra rn rc] 30)) (.cells #[.slice none 0 0,.slice none 0 0,.slice none 0 0,.bool false,.slice none 0 0] 30)
 replace I:=hide (I.keep bel (Nat.le_refl _))
 have gl:=hg.call bel
 subst k2
 replace k3:=hide k3
 replace h:=hide h
 go_enter Tryz.func32,Tryz.ntmps32
 go_upto_region 1 with fail
 generalize World.alloc (World.alloc w _) _=w1 at*
 have x0:=BX.cell 0
 have x1:=BX.cell 1
 have x2:=BX.cell 2
 have x3:=BX.cell 3
 have x4:=BX.cell 4
 have xl:=BX.lt
 go_wp2_with fail
 go_at_call 39
 refine(c _ gl I.out).mono ?_
 rintro e w2 ⟨a',n',G',la,ln,lG,l,rfl,hP,b2⟩
 clear c
 obtain⟨rfl,IS,_,_,_⟩:=hP.out (by trivial)
 have Ph:w.heap.size+1<w2.heap.size:=Nat.lt_of_lt_of_le BR.lt b2.size
 have bq:=newB b2 (.cells #[.slice a' 4 G'] 24)
 have BS:=ac.laid w2 [.slice a' 4 G'] 24 _ rfl
 replace IS:=IS.alloc (.cells #[.slice a' 4 G'] 24)
 replace BX:=BX.keep bq BX.lt
 replace BR:=BR.keep bq BR.lt
 replace I:=hide (I.out.call bq)
 replace bel:=aa bel bq
 clear x0 x1 x2 x3 x4 xl bq b2 hP
 go_upto_region 4 with fail
 generalize w2.heap.size=gS at*
 generalize World.alloc w2 _=w6 at*
 have PA:¬gS=w.heap.size+1:=by omega
 have ON:¬w.heap.size+1=gS:=by omega
 clear Ph
 obtain⟨es,e1,e2,er,_,S1,S2,SR⟩:=I.out
 clear es
 simp only at e1 e2 er S1 S2 SR
 have SN:3<=rc:=by have:=SR.le;rw[List.length_map] at this;have:=k3.out;omega
 have f1:D.safe.length<=140737488355328:=by omega
 have f2:D.wait.length<=140737488355328:=by omega
 have gX:=BX.lt
 have Zw:=BS.lt
 have Yz:=BR.lt
 have x1:w6.cell? ⟨w.heap.size,1,none⟩=some (.slice a1 n1 c1):=BX.cell 1
 have x2:w6.cell? ⟨w.heap.size,2,none⟩=some (.slice a2 n2 c2):=BX.cell 2
 have x3:w6.cell? ⟨w.heap.size,3,none⟩=some (.bool up):=BX.cell 3
 have x4:w6.cell? ⟨w.heap.size,4,none⟩=some (.slice ra rn rc):=BX.cell 4
 have s0:w6.cell? ⟨gS,0,none⟩=some (.slice a' 4 G'):=BS.cell 0
 have cells:∀W,Below w6.heap.size w6 W->W.cell? ⟨w.heap.size,1,none⟩=some (.slice a1 n1 c1)/\W.cell? ⟨w.heap.size,2,none⟩=some (.slice a2 n2 c2)/\W.cell? ⟨w.heap.size,3,none⟩=some (.bool up)/\W.cell? ⟨w.heap.size,4,none⟩=some (.slice ra rn rc)/\W.cell? ⟨gS,0,none⟩=some (.slice a' 4 G'):=fun W hW=>
  ⟨(BX.keep hW BX.lt).cell 1,(BX.keep hW BX.lt).cell 2,(BX.keep hW BX.lt).cell 3,(BX.keep hW BX.lt).cell 4,(BS.keep hW BS.lt).cell 0⟩
 have kU:∀W,Below w6.heap.size w6 W->Calls Tryz.prog 67 #[.slice a1 n1 c1] W fun e w'=>∃b1 G1,e=.returned (.slice b1 n1 G1)/\w'.cell? ⟨w.heap.size,1,none⟩=some (.slice a1 n1 c1)/\w'.cell? ⟨w.heap.size,2,none⟩=some (.slice a2 n2 c2)/\w'.cell? ⟨w.heap.size,3,none⟩=some (.bool up)/\w'.cell? ⟨w.heap.size,4,none⟩=some (.slice ra rn rc)/\w'.cell? ⟨gS,0,none⟩=some (.slice a' 4 G')/\Hid (Sl w' b1 G1 (byteCells D.safe))/\Below w6.heap.size w6 w':=by
  intro W hW
  rw[e1]
  refine(vz a1 c1 D.safe W (S1.call hW) f1).mono ?_
  rintro e w' ⟨v',rfl,o,b⟩
  obtain⟨b1,G1,rfl,s,_⟩:=pH o
  obtain⟨q1,q2,q3,q4,q5⟩:=cells w' (aa hW b)
  rw[e1] at q1
  exact⟨b1,G1,rfl,q1,q2,q3,q4,q5,hide s,aa hW b⟩
 have kV:∀W,Below w6.heap.size w6 W->Calls Tryz.prog 67 #[.slice a2 n2 c2] W fun e w'=>∃b1 G1,e=.returned (.slice b1 n2 G1)/\w'.cell? ⟨w.heap.size,1,none⟩=some (.slice a1 n1 c1)/\w'.cell? ⟨w.heap.size,2,none⟩=some (.slice a2 n2 c2)/\w'.cell? ⟨w.heap.size,3,none⟩=some (.bool up)/\w'.cell? ⟨w.heap.size,4,none⟩=some (.slice ra rn rc)/\w'.cell? ⟨gS,0,none⟩=some (.slice a' 4 G')/\Hid (Sl w' b1 G1 (byteCells D.wait))/\Below W.heap.size W w'/\Below w6.heap.size w6 w':=by
  intro W hW
  rw[e2]
  refine(vz a2 c2 D.wait W (S2.call hW) f2).mono ?_
  rintro e w' ⟨v',rfl,o,b⟩
  obtain⟨b1,G1,rfl,s,_⟩:=pH o
  obtain⟨q1,q2,q3,q4,q5⟩:=cells w' (aa hW b)
  rw[e2] at q2
  exact⟨b1,G1,rfl,q1,q2,q3,q4,q5,hide s,b,aa hW b⟩
 have my:rn=3:=k3.out
 have oZ:rd.length=3:=by rw[<-er];exact my
 have kI:∀W,Below w6.heap.size w6 W->Calls Tryz.prog 49 #[.slice ra rn rc] W fun e w'=>∃(g3:Nat) (G3:Nat),e=.returned (.slice (some ⟨g3,0,none⟩) rn G3)/\w'.cell? ⟨w.heap.size,1,none⟩=some (.slice a1 n1 c1)/\w'.cell? ⟨w.heap.size,2,none⟩=some (.slice a2 n2 c2)/\w'.cell? ⟨w.heap.size,3,none⟩=some (.bool up)/\w'.cell? ⟨w.heap.size,4,none⟩=some (.slice ra rn rc)/\w'.cell? ⟨gS,0,none⟩=some (.slice a' 4 G')/\
   Hid (∃ys:List Int,ac w' g3 (ys.map (Value.int .i64)) 3/\ys.take 3=rd/\3<=G3/\G3<=9223372036854775807/\W.heap.size<=g3)/\Below W.heap.size W w'/\Hid (ac w' (w.heap.size+1) [.slice none 0 0,.slice none 0 0,.slice none 0 0,.bool false,.slice none 0 0] 30)/\Below w6.heap.size w6 w'/\
   w'.cell? ⟨w.heap.size+1,0,none⟩=some (.slice none 0 0)/\w'.cell? ⟨w.heap.size+1,1,none⟩=some (.slice none 0 0)/\w'.cell? ⟨w.heap.size+1,2,none⟩=some (.slice none 0 0)/\w'.cell? ⟨w.heap.size+1,3,none⟩=some (.bool false)/\w'.cell? ⟨w.heap.size+1,4,none⟩=some (.slice none 0 0)/\
   w'.frozen? ⟨w.heap.size+1,0,none⟩=false/\w'.frozen? ⟨w.heap.size+1,1,none⟩=false/\w'.frozen? ⟨w.heap.size+1,2,none⟩=false/\w'.frozen? ⟨w.heap.size+1,3,none⟩=false/\w'.frozen? ⟨w.heap.size+1,4,none⟩=false/\w.heap.size+1<w'.heap.size:=by
  intro W hW
  have Wv:=SR.call hW
  obtain⟨b,off,rfl,_,_⟩:=Wv.row.at (by intro e;rw[List.map_eq_nil_iff] at e;rw[e] at oZ;simp at oZ)
  refine(Oq ⟨b,off,none⟩ rc rd rn W Wv.row (by rw[oZ,my]) (by omega) (by omega)).mono ?_
  rintro e w' ⟨g3,G3,ys,rfl,B3,t3,h3,m3,l3,b3⟩
  obtain⟨q1,q2,q3,q4,q5⟩:=cells w' (aa hW b3)
  have vV:=BR.keep (aa hW b3) BR.lt
  exact⟨g3,G3,rfl,q1,q2,q3,q4,q5,hide ⟨ys,B3,by rw[<-my];exact t3,by omega,m3,l3⟩,b3,hide vV,aa hW b3,vV.cell 0,vV.cell 1,vV.cell 2,vV.cell 3,vV.cell 4,vV.free 0,vV.free 1,vV.free 2,vV.free 3,vV.free 4,vV.lt⟩
 have k0:Below w6.heap.size w6 w6.drew:=ai (Below.refl _ _)
 replace e1:=hide e1
 replace e2:=hide e2
 replace er:=hide er
 replace oZ:=hide oZ
 replace my:=hide my
 replace IS:=hide IS
 replace bel:=hide bel
 clear cells BX BS BR S1 S2 SR I gl f1 f2 gX Zw Yz
 go_region_held3 (fun w'=>w'.cell? ⟨w.heap.size,1,none⟩=some (.slice a1 n1 c1)/\w'.cell? ⟨w.heap.size,2,none⟩=some (.slice a2 n2 c2)/\w'.cell? ⟨w.heap.size,3,none⟩=some (.bool up)/\w'.cell? ⟨w.heap.size,4,none⟩=some (.slice ra rn rc)/\w'.cell? ⟨gS,0,none⟩=some (.slice a' 4 G')) (go_keep)
  (first
   | (go_at_call 49;refine(kI _ zB).mono ?_;rintro e wC ⟨g3,G3,rfl,t1,t2,t3,t4,t5,TC,bC,DM,zC,y0,y1,y2,y3,y4,f0,f1,f2,f3,f4,yl⟩)
   | (go_at_call 67;refine(kV _ zA).mono ?_;rintro e wB ⟨b2,G2,rfl,r1,r2,r3,r4,r5,TB,bB,zB⟩)
   | (go_at_call 67;refine(kU _ k0).mono ?_;rintro e wA ⟨b1,G1,rfl,q1,q2,q3,q4,q5,TA,zA⟩))
 all_goals(
  have U':=IS.out.call zC
  have VY:=(TA.out.call bB).call bC
  have US:=TB.out.call bC
  obtain⟨ys,B3,t3,h3,m3,l3⟩:=TC.out
  have B0:=DM.out
  have lz:=zB.size
  have B9:=qq B0 (.slice a' 4 G') (.slice b1 n1 G1) (.slice b2 n2 G2) (.bool up) (.slice (some ⟨g3,0,none⟩) rn G3)
  have aq:=jW (aa bel.out zC) (Nat.le_succ _) (.slice a' 4 G') (.slice b1 n1 G1) (.slice b2 n2 G2) (.bool up) (.slice (some ⟨g3,0,none⟩) rn G3)
  have gr:=ak (ak (ak (ak (ak (au wC (some (w.heap.size+1))) 0 (.slice a' 4 G')) 1 (.slice b1 n1 G1)) 2 (.slice b2 n2 G2)) 3 (.bool up)) 4 (.slice (some ⟨g3,0,none⟩) rn G3)
  have UE:Sl wC (some ⟨g3,0,none⟩) G3 (rd.map (Value.int .i64)):=by
   refine⟨B3.row 0 _ (fun j u hu=>?_),by rw[List.length_map,oZ.out];exact h3,m3,fun e=>by cases e⟩
   rw[Nat.zero_add]
   rw[<-t3,List.map_take,List.getElem?_take] at hu
   split at hu
   .exact hu
   .cases hu
  have WB:=hide (iG.wrote (Q:=fun _=>False) (h:=g3) (p:=⟨a',4,G',b1,n1,G1,b2,n2,G2,some ⟨g3,0,none⟩,rn,G3⟩) (ys:=ys) (x:=⟨C,D,up,rd⟩) B0 gr B9
   ⟨(bL (jV h.out)).symm,e1.out,e2.out,er.out,U',VY,US,UE⟩ ((dC.old IS.out (P:=fun q=>q=g3\/False) (fun q hq=>by rcases hq with rfl|h;omega;exact h.elim)).call zC) h.out rfl B3 t3 h3)
  have UF:Hid (w.heap.size<=g3):=hide (by have:=bel.out.size;omega)
  have i0:=B9.cell 0
  have i1:=B9.cell 1
  have i2:=B9.cell 2
  have i3:=B9.cell 3
  have i4:=B9.cell 4
  clear U' VY US UE gr B9 B3 t3 h3 m3 l3 DM B0
  go_wp2_with fail
  exact bodyPost_ret (v:=.tuple #[.agg #[.slice a' 4 G',.slice b1 n1 G1,.slice b2 n2 G2,.bool up,.slice (some ⟨g3,0,none⟩) rn G3],.int .i64 0]) (by simp[results,Tryz.results32,go_sem,i0,i1,i2,i3,i4]) rfl ⟨g3,_,ys,rfl,WB.out.v,UF.out,aq⟩)
end Go.Proofs.YtoonnbhoiocoeaaGreatDoor
namespace Go.Proofs.YtoonnbhoiocoeaaGreatDoor
open Go.RowKit
open Go.Lib (byteCells)
def iA (x:Wd)(r:Rc):Int:=if cd x.c r≠0 then cd x.c r else fq x.d r
def Qp (W:World)(x:Wd)(r:Rc)(e:Ending)(w':World):Prop:=
 ∃(a':Option Addr) (n' G':Nat) (b1:Option Addr) (m1 k1:Nat) (b2:Option Addr) (m2 k2:Nat),e=.returned (.tuple #[.agg #[.slice a' n' G'],.agg #[.slice b1 m1 k1,.slice b2 m2 k2],.int .i64 (iA x r)])/\
  Hid (iA x r=0->n'=4/\fa W.heap.size w' a' G' (dW x.c r)/\m1=(dj x.d r).safe.length/\m2=(dj x.d r).wait.length/\Sl w' b1 k1 (byteCells (dj x.d r).safe)/\Sl w' b2 k2 (byteCells (dj x.d r).wait))/\Below W.heap.size W w'
theorem AC {W w':World}{x:Wd}{r:Rc}{E:Int}(hE:iA x r=E)(h0:E≠0)(b:Below W.heap.size W w'):Qp W x r (.returned (.tuple #[.agg #[.slice none 0 0],.agg #[.slice none 0 0,.slice none 0 0],.int .i64 E])) w':=
 ⟨none,0,0,none,0,0,none,0,0,by rw[hE],hide (fun h=>absurd (hE.symm.trans h) h0),b⟩
theorem fa.setD {base:Nat}{w:World}{a:Option Addr}{G g i:Nat}{C:List Rw}{a1 a2:Option Addr}{n1 n2 c1 c2:Nat}{u:Value}(h:fa base w a G C)(h4:C.length=4)(B:ac w g [.slice a1 n1 c1,.slice a2 n2 c2] 27):fa base (w.setCell ⟨g,i,none⟩ u) a G C:=by
 obtain⟨rs,rfl,s,l⟩:=h.ex
 rw[List.length_map] at h4
 have gr:=ak (au w (some g)) i u
 have hl:=ar Lr.two rs
 refine⟨rs,rfl,⟨⟨s.sl.row.off gr (s.sl.row.offLong B (by rw[hl,h4];simp)),s.sl.le,s.sl.max,s.sl.nil⟩,fun r hr=>(s.good r hr).offSl gr B ?_⟩,l⟩
 intro v hv
 simp only[List.mem_cons,List.not_mem_nil,or_false] at hv
 rcases hv with rfl|rfl<;>exact⟨_,_,_,rfl⟩
theorem xV (x:Wd)(r:Rc)(p:Pw)(ea:Option Addr)(en eC:Nat)(w:World)(hg:Gl w)(I:ej w p x)(h:cu x=0)(s3:aY ec w ea eC r.e)(h3:Hid (en=r.e.length)):
  Calls Tryz.prog 107 #[p.val x.up,.agg #[.int .i64 r.k,.int .i64 r.s,.int .i64 r.n,.slice ea en eC]] w (Qp w x r):=by
 obtain⟨k1,k2,k3⟩:=mI I h
 clear k3
 obtain⟨es,e1,e2,er,IS,S1,S2,SR⟩:=I
 have BT:Hid (iA x r=if cd x.c r≠0 then cd x.c r else fq x.d r):=hide rfl
 obtain⟨dn,dp⟩:∃d,Hid (d=(dW x.c r).length):=⟨_,hide rfl⟩
 have cN:=fun W y t=>zY x.c r p.sa ea p.sG eC en p.sn dn W y t h3 (hide es) dp
 have cP:=fun W g s t u=>J7 x.d r p.a1 p.a2 ea p.c1 p.c2 eC p.n1 p.n2 en W g s t u e1 e2 h3.out (by omega)
 obtain⟨sa,sn,sG,a1,n1,c1,a2,n2,c2,ra,rn,rc⟩:=p
 obtain⟨C,D,up,rd⟩:=x
 simp only[Pw.val] at*
 clear es e1 e2 er SR h
 subst k2
 have BX:=(((ac.laid w [.slice sa 4 sG,.slice a1 n1 c1,.slice a2 n2 c2,.bool up,.slice ra rn rc] 30 _ rfl).alc (.cells #[.int .i64 r.k,.int .i64 r.s,.int .i64 r.n,.slice ea en eC] 73)).alc (.cells #[.slice none 0 0] 24)).alc (.cells #[.slice none 0 0,.slice none 0 0] 27)
 have BQ:=((ac.laid (w.alloc (.cells #[.slice sa 4 sG,.slice a1 n1 c1,.slice a2 n2 c2,.bool up,.slice ra rn rc] 30)) [.int .i64 r.k,.int .i64 r.s,.int .i64 r.n,.slice ea en eC] 73 (w.heap.size+1) (by simp)).alc (.cells #[.slice none 0 0] 24)).alc (.cells #[.slice none 0 0,.slice none 0 0] 27)
 have BS:=(ac.laid ((w.alloc (.cells #[.slice sa 4 sG,.slice a1 n1 c1,.slice a2 n2 c2,.bool up,.slice ra rn rc] 30)).alloc (.cells #[.int .i64 r.k,.int .i64 r.s,.int .i64 r.n,.slice ea en eC] 73)) [.slice none 0 0] 24 (w.heap.size+1+1) (by simp)).alc (.cells #[.slice none 0 0,.slice none 0 0] 27)
 have BD:=ac.laid (((w.alloc (.cells #[.slice sa 4 sG,.slice a1 n1 c1,.slice a2 n2 c2,.bool up,.slice ra rn rc] 30)).alloc (.cells #[.int .i64 r.k,.int .i64 r.s,.int .i64 r.n,.slice ea en eC] 73)).alloc (.cells #[.slice none 0 0] 24)) [.slice none 0 0,.slice none 0 0] 27 (w.heap.size+1+1+1) (by simp)
 have bel:=newB (newB (newB (newB (Below.refl w.heap.size w) (.cells #[.slice sa 4 sG,.slice a1 n1 c1,.slice a2 n2 c2,.bool up,.slice ra rn rc] 30)) (.cells #[.int .i64 r.k,.int .i64 r.s,.int .i64 r.n,.slice ea en eC] 73)) (.cells #[.slice none 0 0] 24)) (.cells #[.slice none 0 0,.slice none 0 0] 27)
 replace IS:=IS.keep bel (Nat.le_refl _)
 replace S1:=S1.keep bel (Nat.le_refl _)
 replace S2:=S2.keep bel (Nat.le_refl _)
 replace s3:=s3.keep bel (Nat.le_refl _)
 have gl:=hg.call bel
 obtain⟨gS,KY⟩:∃g,g=w.heap.size+1+1:=⟨_,rfl⟩
 obtain⟨gD,Lj⟩:∃g,g=w.heap.size+1+1+1:=⟨_,rfl⟩
 rw[<-KY] at BS
 rw[<-Lj] at BD
 have zF:w.heap.size<=gS:=by omega
 have Ro:w.heap.size<=gD:=by omega
 have Ta:gS≠gD:=by omega
 have KM:gD≠gS:=by omega
 obtain⟨K,S,N,L⟩:=r
 simp only at*
 go_enter Tryz.func107,Tryz.ntmps107
 go_upto_region 1 with fail
 rw[<-Lj,<-KY]
 generalize World.alloc (World.alloc (World.alloc (World.alloc w _) _) _) _=w1 at*
 clear KY Lj
 have x0:=BX.cell 0
 have xl:=BX.lt
 have z0:=BQ.cell 0
 have z1:=BQ.cell 1
 have z2:=BQ.cell 2
 have z3:=BQ.cell 3
 have zl:=BQ.lt
 go_wp2_with fail
 go_at_call 90
 refine((cN _ IS s3).mono fun _ _ h=>xj h).mono ?_
 rintro e w2 ⟨aN,GN,rfl,BN,IN,b2,Ix⟩
 clear cN x0 xl z0 z1 z2 z3 zl IS
 have lS2:gS<w2.heap.size:=Nat.lt_of_lt_of_le BS.lt Ix
 have lD2:gD<w2.heap.size:=Nat.lt_of_lt_of_le BD.lt Ix
 replace IN:=IN.down bel.size
 replace BX:=BX.keep b2 BX.lt
 replace BQ:=BQ.keep b2 BQ.lt
 replace BS:=BS.keep b2 BS.lt
 replace BD:=BD.keep b2 BD.lt
 replace S1:=S1.call b2
 replace S2:=S2.call b2
 replace s3:=s3.call b2
 replace gl:=gl.call b2
 replace bel:=aa bel b2
 clear b2
 by_cases hN:cd C ⟨K,S,N,L⟩=0
 .have j6:=BT.out
  rw[if_neg (by simp[hN])] at j6
  replace j6:=hide j6
  obtain rfl:dn=4:=by rw[dp.out];exact bL (jH hN)
  have h4:=hide (bL (jH hN))
  rw[hN]
  clear BT hN
  go_upto_region 4 with fail
  generalize w2.heap.size=gN at*
  generalize World.alloc w2 _=w3 at*
  have x1:=BX.cell 1
  have x2:=BX.cell 2
  have xl:=BX.lt
  have z0:=BQ.cell 0
  have z1:=BQ.cell 1
  have z2:=BQ.cell 2
  have z3:=BQ.cell 3
  have zl:=BQ.lt
  go_wp2_with fail
  go_at_call 138
  refine(cP _ gl S1 S2 s3).mono ?_
  rintro e w4 ⟨p1,p2,q1,q2,u1,u2,rfl,kY,kW,t1,t2,b5⟩
  have lS4:gS<w4.heap.size:=Nat.lt_of_lt_of_le BS.lt b5.size
  have lD4:gD<w4.heap.size:=Nat.lt_of_lt_of_le BD.lt b5.size
  have b4:=newB b5 (.cells #[.slice p1 q1 u1,.slice p2 q2 u2] 27)
  have DP:Lp (w4.alloc (.cells #[.slice p1 q1 u1,.slice p2 q2 u2] 27)) w4.heap.size p1 q1 u1 p2 q2 u2 (dj D ⟨K,S,N,L⟩):=⟨ac.laid w4 [.slice p1 q1 u1,.slice p2 q2 u2] _ _ rfl,kY,kW,t1.alloc _,t2.alloc _⟩
  clear kY kW t1 t2 b5
  clear x1 x2 xl z0 z1 z2 z3 zl cP gl S1 S2 s3 BX BQ
  replace BN:=BN.keep b4 BN.lt
  replace BS:=BS.keep b4 BS.lt
  replace BD:=BD.keep b4 BD.lt
  replace IN:=IN.call b4
  replace bel:=aa bel b4
  clear b4
  by_cases hP:fq D ⟨K,S,N,L⟩=0
  .have Qd:=j6.out
   rw[hP] at Qd
   replace Qd:=hide Qd
   rw[hP]
   clear j6 hP
   go_upto_region 7 with fail
   generalize w4.heap.size=gP at*
   generalize World.alloc w4 _=w5 at*
   obtain⟨PB,kY,kW,T1,T2⟩:=DP
   have a1:¬gP=gS:=by omega
   have a2:¬gS=gP:=by omega
   have a3:¬gP=gD:=by omega
   have a4:¬gD=gP:=by omega
   have a5:¬gN=gS:=by omega
   have a6:¬gS=gN:=by omega
   have a7:¬gN=gD:=by omega
   have a8:¬gD=gN:=by omega
   replace kY:=hide kY
   replace kW:=hide kW
   have n0:w5.cell? ⟨gN,0,none⟩=some (.slice aN 4 GN):=BN.cell 0
   have nl:=BN.lt
   have d0:w5.cell? ⟨gP,0,none⟩=some (.slice p1 q1 u1):=PB.cell 0
   have d1:w5.cell? ⟨gP,1,none⟩=some (.slice p2 q2 u2):=PB.cell 1
   have dl:=PB.lt
   have y0:=BS.cell 0
   have yf:=BS.free 0
   have yl:=BS.lt
   have v0:=BD.cell 0
   have v1:=BD.cell 1
   have VW:=BD.free 0
   have UG:=BD.free 1
   have vl:=BD.lt
   have B7:=BS.set 0 (.slice aN 4 GN)
   have I7:=IN.boxed BS (.slice aN 4 GN)
   have D7:ac (w5.setCell ⟨gS,0,none⟩ (.slice aN 4 GN)) gD [.slice none 0 0,.slice none 0 0] 27:=BD.other 0 _ Ta
   have Vf:=dU T1 BS (by simp) (ak (au w5 (some gS)) 0 (.slice aN 4 GN))
   have U0:=dU T2 BS (by simp) (ak (au w5 (some gS)) 0 (.slice aN 4 GN))
   have B9:=(B7.other (g':=gD) 0 (.slice p1 q1 u1) KM).other (g':=gD) 1 (.slice p2 q2 u2) KM
   have D9:=jl D7 (.slice p1 q1 u1) (.slice p2 q2 u2)
   have xG:=ak (ak (au (w5.setCell ⟨gS,0,none⟩ (.slice aN 4 GN)) (some gD)) 0 (.slice p1 q1 u1)) 1 (.slice p2 q2 u2)
   have I8:=I7.setD h4.out D7 (i:=0) (u:=.slice p1 q1 u1)
   have I9:=I8.setD h4.out (D7.set 0 (.slice p1 q1 u1)) (i:=1) (u:=.slice p2 q2 u2)
   have TE:=dU Vf D7 (by simp) xG
   have SI:=dU U0 D7 (by simp) xG
   have aq:=d8 (bel.setCell (p:=⟨gS,0,none⟩) zF (.slice aN 4 GN)) Ro (.slice p1 q1 u1) (.slice p2 q2 u2)
   have i0:=B9.cell 0
   have j0:=D9.cell 0
   have j1:=D9.cell 1
   replace I9:=hide I9
   replace TE:=hide TE
   replace SI:=hide SI
   clear I7 I8 Vf U0 B7 D7 xG IN T1 T2 BN PB B9 D9 bel
   go_region
   all_goals(
    go_wp2_with fail
    exact bodyPost_ret (v:=.tuple #[.agg #[.slice aN 4 GN],.agg #[.slice p1 q1 u1,.slice p2 q2 u2],.int .i64 0]) (by simp[results,Tryz.results107,go_sem,i0,j0,j1]) rfl ⟨aN,4,GN,p1,q1,u1,p2,q2,u2,by rw[Qd.out],hide (fun _=>⟨rfl,I9.out.call (ai (Below.refl _ _)),kY.out,kW.out,TE.out.call (ai (Below.refl _ _)),SI.out.call (ai (Below.refl _ _))⟩),ai aq⟩)
  .have hP':decide (fq D ⟨K,S,N,L⟩=0)=false:=decide_eq_false hP
   generalize fq D ⟨K,S,N,L⟩=E at*
   go_upto_region 6 with fail
   generalize World.alloc w4 _=w5 at*
   have y0:=BS.cell 0
   have yf:=BS.free 0
   have yl:=BS.lt
   have v0:=BD.cell 0
   have v1:=BD.cell 1
   have VW:=BD.free 0
   have UG:=BD.free 1
   have vl:=BD.lt
   have B9:=((BS.set 0 (.slice none 0 0)).other (g':=gD) 0 (.slice none 0 0) KM).other (g':=gD) 1 (.slice none 0 0) KM
   have D9:=jl (BD.other (g':=gS) 0 (.slice none 0 0) Ta) (.slice none 0 0) (.slice none 0 0)
   have aq:=d8 (bel.setCell (p:=⟨gS,0,none⟩) zF (.slice none 0 0)) Ro (.slice none 0 0) (.slice none 0 0)
   have i0:=B9.cell 0
   have j0:=D9.cell 0
   have j1:=D9.cell 1
   clear B9 D9
   go_wp2_with fail
   exact bodyPost_ret (v:=.tuple #[.agg #[.slice none 0 0],.agg #[.slice none 0 0,.slice none 0 0],.int .i64 E]) (by simp[results,Tryz.results107,go_sem,i0,j0,j1]) rfl (AC j6.out hP aq)
 .have j6:=BT.out
  rw[if_pos hN] at j6
  have MU:decide (cd C ⟨K,S,N,L⟩=0)=false:=decide_eq_false hN
  generalize cd C ⟨K,S,N,L⟩=E at*
  replace j6:=hide j6
  go_upto_region 3 with fail
  generalize World.alloc w2 _=w3 at*
  have y0:=BS.cell 0
  have yf:=BS.free 0
  have yl:=BS.lt
  have v0:=BD.cell 0
  have v1:=BD.cell 1
  have VW:=BD.free 0
  have UG:=BD.free 1
  have vl:=BD.lt
  have B9:=((BS.set 0 (.slice none 0 0)).other (g':=gD) 0 (.slice none 0 0) KM).other (g':=gD) 1 (.slice none 0 0) KM
  have D9:=jl (BD.other (g':=gS) 0 (.slice none 0 0) Ta) (.slice none 0 0) (.slice none 0 0)
  have aq:=d8 (bel.setCell (p:=⟨gS,0,none⟩) zF (.slice none 0 0)) Ro (.slice none 0 0) (.slice none 0 0)
  have i0:=B9.cell 0
  have j0:=D9.cell 0
  have j1:=D9.cell 1
  clear B9 D9
  go_wp2_with fail
  exact bodyPost_ret (v:=.tuple #[.agg #[.slice none 0 0],.agg #[.slice none 0 0,.slice none 0 0],.int .i64 E]) (by simp[results,Tryz.results107,go_sem,i0,j0,j1]) rfl (AC j6.out hN aq)
end Go.Proofs.YtoonnbhoiocoeaaGreatDoor
