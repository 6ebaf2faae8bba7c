/-
  Is one of a world's readers outside?
-/
import Derived.Test.YtoonnbhoiocoeaaGreatDoorQ25
set_option maxHeartbeats 40000000
set_option maxRecDepth 100000
set_option linter.unusedVariables false
namespace Go.Proofs.YtoonnbhoiocoeaaGreatDoor
open Go.RowKit
def outs (last v:Int):Bool:=decide (v< -1)||decide (last<v)
theorem LH (last v:Int)(bl:Nat)(w:World)(B:ag w bl [.int .i64 last] 3):
  Calls Tryz.prog 82 #[.int .i64 v,.pointer (some ⟨bl,0,none⟩)] w fun e w'=>e=.returned (.bool (outs last v))/\w'=w:=by
 have d0:w.cell? ⟨bl,0,none⟩=some (.int .i64 last):=B.cell 0
 have l0:=B.lt
 unfold outs
 by_cases h1:v< -1
 .rw[decide_eq_true h1,Bool.true_or]
  go_enter Tryz.func82,Tryz.ntmps82
  go_wp2_with fail
  go_ret
  exact⟨rfl,rfl⟩
 rw[decide_eq_false h1,Bool.false_or]
 generalize hb:decide (last<v)=b at*
 go_enter Tryz.func82,Tryz.ntmps82
 go_wp2_with fail
 go_ret
 exact⟨rfl,rfl⟩
theorem P8 (l:List Int)(ao:Option Addr)(cap n:Nat)(last:Int)(bl:Nat)(w:World)(S:Sl w ao cap (l.map (Value.int .i64)))(B:ag w bl [.int .i64 last] 3)(hn:l.length=n)(few:n<=40):
  Calls Tryz.prog 113 #[.slice ao n cap,.func (.func 82) #[] #[.pointer (some ⟨bl,0,none⟩)]] w fun e w'=>
   ∃k:Int,e=.returned (.int .i64 k)/\Hid ((l.any (outs last)=true->0<=k)/\(l.any (outs last)=false->k<0))/\w'=w:=by
 replace hn:=aa hn
 go_enter Tryz.func113,Tryz.ntmps113
 go_wp2_with fail
 go_loopw [8] (fun i wr=>∃(k:Nat),k<=n/\i=.int .i64 k/\Hid (∀y∈l.take k,outs last y=false)/\wr=w) (fun i _=>n-(intOf i).toNat)
 case atStart=>exact⟨0,by omega,rfl,aa (fun y hy=>by simp at hy),rfl⟩
 case round=>
  obtain⟨k,hk,rfl,H,rfl⟩:=hrel
  by_cases aE:k<n
  .have dy:k<l.length:=by rw[hn.out];exact aE
   obtain⟨b,off,rfl,ld,_⟩:=S.row.at (by intro e;rw[List.map_eq_nil_iff] at e;rw[e] at dy;simp at dy)
   have e0:=S.int k dy
   have c:=fun W h=>LH last (l.getD k 0) bl W h
   have Xa:k<40:=by omega
   have hm:l.getD k 0∈l:=by rw[List.getD_eq_getElem?_getD,List.getElem?_eq_getElem dy];exact List.getElem_mem dy
   have ht:l.take (k+1)=l.take k++[l.getD k 0]:=by rw[List.take_add_one,List.getD_eq_getElem?_getD,List.getElem?_eq_getElem dy];rfl
   replace ht:=aa ht
   generalize l.getD k 0=x at*
   clear dy
   cases hp:outs last x with
   |true=>
    rw[hp] at c
    have ha:Hid (l.any (outs last)=true):=aa (List.any_eq_true.2 ⟨x,hm,hp⟩)
    clear hp hm ht
    go_wp2_with fail
    go_at_call 82
    refine(c _ B).mono ?_
    rintro e w2 ⟨rfl,rfl⟩
    go_wp2_with fail
    go_ret
    exact⟨k,rfl,aa ⟨fun _=>by omega,fun h=>by rw[ha.out] at h;cases h⟩,rfl⟩
   |false=>
    rw[hp] at c
    have H2:∀z∈l.take (k+1),outs last z=false:=by
     intro z hz
     rw[ht.out] at hz
     rcases List.mem_append.1 hz with hz|hz
     .exact H.out z hz
     rw[List.mem_singleton.1 hz]
     exact hp
    replace H2:=aa H2
    clear hp hm ht
    go_wp2_with fail
    go_at_call 82
    refine(c _ B).mono ?_
    rintro e w2 ⟨rfl,rfl⟩
    go_wp2_with fail
    go_roundw
    case rel=>exact⟨k+1,by omega,by go_num,H2,by trivial⟩
    case measure=>simp[intOf];omega
  obtain rfl:k=n:=by omega
  have H':=H.out
  rw[List.take_of_length_le (by rw[hn.out];exact Nat.le_refl _)] at H'
  have ha:Hid (l.any (outs last)=false):=aa (List.any_eq_false.2 (fun y hy=>by rw[H' y hy];decide))
  clear H' H
  go_wp2_with fail
  go_ret
  exact⟨-1,rfl,aa ⟨fun h=>(by rw[ha.out] at h;cases h),fun _=>by decide⟩,rfl⟩
theorem yM (l:List Int)(ao:Option Addr)(cap n:Nat)(last:Int)(bl:Nat)(w:World)(S:Sl w ao cap (l.map (Value.int .i64)))(B:ag w bl [.int .i64 last] 3)(hn:l.length=n)(few:n<=40):
  Calls Tryz.prog 83 #[.slice ao n cap,.func (.func 82) #[] #[.pointer (some ⟨bl,0,none⟩)]] w fun e w'=>e=.returned (.bool (l.any (outs last)))/\w'=w:=by
 have c:=fun W S B=>P8 l ao cap n last bl W S B hn few
 replace hn:=aa hn
 generalize l.any (outs last)=b at*
 go_enter Tryz.func83,Tryz.ntmps83
 go_wp2_with fail
 go_at_call 113
 refine(c _ S B).mono ?_
 rintro e w2 ⟨k,rfl,jL,rfl⟩
 obtain⟨h1,h2⟩:=jL.out
 clear jL
 cases b with
 |true=>
  have hk:=h1 rfl
  clear h1 h2
  go_wp2_with fail
  go_ret
  exact⟨rfl,rfl⟩
 |false=>
  have hk:¬(0:Int)<=k:=by have:=h2 rfl;omega
  have fC:decide ((0:Int)<=k)=false:=decide_eq_false hk
  clear h1 h2
  go_wp2_with fail
  go_ret
  exact⟨rfl,rfl⟩
open Go.Lib (byteCells)
def RF (W:World)(D:List Rw)(dn:Nat)(E:Int)(e:Ending)(w':World):Prop:=
 ∃a' G',e=.returned (.tuple #[.agg #[.slice a' dn G'],.int .i64 E])/\ag (w'.alloc (.cells #[.slice a' dn G'] 24)) w'.heap.size [.slice a' dn G'] 24/\eP W.heap.size (w'.alloc (.cells #[.slice a' dn G'] 24)) a' G' D/\Below W.heap.size W (w'.alloc (.cells #[.slice a' dn G'] 24))/\W.heap.size<=w'.heap.size
theorem xG {E:Int}{D:List Rw}{dn:Nat}{W:World}{e:Ending}{w':World}(h:QN E D dn W e w'):RF W D dn E e w':=by
 obtain⟨a',G',he,I,b⟩:=h
 exact⟨a',G',he,ag.laid w' [.slice a' dn G'] _ _ rfl,I.alloc _,newB b _,b.size⟩
def zm (W:World)(x:Wd)(e:Ending)(w':World):Prop:=
 ∃(a':Option Addr) (n' G':Nat) (la:Option Addr) (ln lG:Nat) (l:List dK),e=.returned (.tuple #[.agg #[.slice a' n' G'],.slice la ln lG,.int .i64 (dw x)])/\
  Hid (dw x=0->n'=4/\cu w' a' G' x.c/\eK w' la lG l/\ln=l.length/\l.map (·.r)=iW x)/\Below W.heap.size W w'
theorem iu {W w':World}{x:Wd}{E:Int}(hE:dw x=E)(h0:E≠0)(b:Below W.heap.size W w'):zm W x (.returned (.tuple #[.agg #[.slice none 0 0],.slice none 0 0,.int .i64 E])) w':=
 ⟨none,0,0,none,0,0,[],by rw[hE],aa (fun h=>absurd (hE.symm.trans h) h0),b⟩
theorem Nf (n:Nat)(l:List Int):l.all (fl true n)= !l.any (outs n):=by
 induction l with
 |nil=>rfl
 |cons v r ih=>
  rw[List.all_cons,List.any_cons,ih,Bool.not_or]
  congr 1
  unfold fl outs
  by_cases h1:v< -1
  .simp[h1]
   try omega
  by_cases h2:(n:Int)<v
  .simp[h2]
   try omega
  simp[h1,h2]
  try omega
theorem Hd (l:List Int):l.all (fl false 0)= !l.any (outs (-1)):=by
 induction l with
 |nil=>rfl
 |cons v r ih=>
  rw[List.all_cons,List.any_cons,ih,Bool.not_or]
  congr 1
  unfold fl outs
  by_cases h1:v< -1
  .simp[h1]
   try omega
  by_cases h2:(-1:Int)<v
  .simp[h2]
   try omega
  simp[h1,h2]
  try omega
theorem za (d:Dk):(aO d).length<=60:=by
 by_cases h:cy d=0
 .exact(qv h).2.2.1
 unfold aO
 rw[if_neg h]
 exact Nat.zero_le _
theorem eK.box1 {w:World}{a:Option Addr}{cap g:Nat}{l:List dK}{t:TypeId}{a1:Option Addr}{n1 c1:Nat}(h:eK w a cap l)(B:ag w g [.slice a1 n1 c1] t)(u:Value):eK (w.setCell ⟨g,0,none⟩ u) a cap l:=by
 have gr:=al (au w (some g)) 0 u
 refine⟨⟨?_,h.row.le,h.row.max,h.row.nil⟩,fun x hx=>⟨?_,(h.ent x hx).le,(h.ent x hx).max,(h.ent x hx).nil⟩⟩
 .by_cases hl:l=[]
  .rw[hl];exact .inl rfl
  obtain⟨y,q,hy⟩:=List.exists_cons_of_ne_nil hl
  exact h.row.row.off gr (h.row.row.offKind B (i:=0) (v:=.int .i64 y.r.k) (by rw[hy];rfl) (by simp))
 by_cases hl:x.r.e=[]
 .rw[hl];exact .inl rfl
 obtain⟨y,q,hy⟩:=List.exists_cons_of_ne_nil hl
 exact(h.ent x hx).row.off gr ((h.ent x hx).row.offKind B (i:=0) (v:=.int .i64 y.1) (by rw[hy];rfl) (by simp))
theorem Ha (C:List Rw)(D:Dk)(rd:List Int)(p:Pw)(w:World)(hg:Gl w)(I:dE w p ⟨C,D,true,rd⟩)(few:p.n1+p.n2<=9223372036854775807)(kg:p.sn<=140737488355328):
  Calls Tryz.prog 39 #[p.val true] w (zm w ⟨C,D,true,rd⟩):=by
 obtain⟨sa,sn,sG,a1,n1,c1,a2,n2,c2,ra,rn,rc⟩:=p
 simp only[Pw.val] at*
 obtain⟨es,e1,e2,er,IS,S1,S2,SR⟩:=I
 simp only at*
 have SS:rn<=rc:=by have:=SR.le;rw[List.length_map] at this;omega
 have cR:=fun W g s t=>ms D a1 a2 c1 c2 n1 n2 W g s t e1 e2 few
 obtain⟨x,hx⟩:∃x:Wd,x=⟨C,D,true,rd⟩:=⟨_,rfl⟩
 rw[<-hx]
 have tb:dw x=if cy D≠0 then cy D else if D.wait≠[] then 4 else if du (aO D)≠0 then du (aO D) else if¬(bp C (cd (aO D))=true/\rd.length=3) then 4 else if rd.all (fl true (aO D).length)=true then 0 else 3:=by
  rw[hx]
  unfold dw iW
  simp only[if_true,true_and,ne_eq]
 have HI:iW x=aO D:=by rw[hx];rfl
 have GC:x.c=C:=by rw[hx]
 have cS:=fun W (y:cu W sa sG C) (D2:List Rw) b H (z:cu W b H D2)=>tq y z (by omega)
 rw[<-es] at cS
 have BX:=(ag.laid w [.slice sa sn sG,.slice a1 n1 c1,.slice a2 n2 c2,.bool true,.slice ra rn rc] 30 _ rfl).alc (.cells #[.slice none 0 0] 24)
 have BR:=ag.laid (w.alloc (.cells #[.slice sa sn sG,.slice a1 n1 c1,.slice a2 n2 c2,.bool true,.slice ra rn rc] 30)) [.slice none 0 0] 24 (w.heap.size+1) (by simp)
 have bel:=newB (newB (Below.refl w.heap.size w) (.cells #[.slice sa sn sG,.slice a1 n1 c1,.slice a2 n2 c2,.bool true,.slice ra rn rc] 30)) (.cells #[.slice none 0 0] 24)
 replace IS:=IS.keep bel (Nat.le_refl _)
 replace S1:=S1.keep bel (Nat.le_refl _)
 replace S2:=S2.keep bel (Nat.le_refl _)
 replace SR:=SR.keep bel (Nat.le_refl _)
 have gl:=hg.call bel
 obtain⟨gR,jv⟩:∃gR,gR=w.heap.size+1:=⟨_,rfl⟩
 rw[<-jv] at BR
 have ip:w.heap.size<=gR:=by omega
 have tX:=za D
 replace hx:=aa hx
 replace es:=aa es
 replace e1:=aa e1
 replace e2:=aa e2
 replace er:=aa er
 replace tb:=aa tb
 replace HI:=aa HI
 replace GC:=aa GC
 go_enter Tryz.func39,Tryz.ntmps39
 go_upto_region 1 with fail
 rw[<-jv]
 generalize World.alloc (World.alloc w _) _=w1 at*
 clear jv
 have x1:=BX.cell 1
 have x2:=BX.cell 2
 have xl:=BX.lt
 go_wp2_with fail
 go_at_call 31
 refine((cR _ gl S1 S2).mono fun _ _ h=>h.laid).mono ?_
 rintro e w2 ⟨r1,i1,k1,r2,i2,k2,a3,n3,G3,l3,rfl,DR,LR,ni,qP,b2⟩
 clear x1 x2 xl cR DR gl
 replace BX:=BX.keep b2 BX.lt
 replace BR:=BR.keep b2 BR.lt
 replace IS:=IS.call b2
 replace S2:=S2.call b2
 replace SR:=SR.call b2
 replace bel:=ac bel b2
 clear b2
 by_cases hd:cy D=0
 .rw[hd]
  rw[hd] at tb
  have iL:=tb.out
  rw[if_neg (by decide)] at iL
  replace iL:=aa iL
  clear tb hd
  go_upto_region 4 with fail
  generalize World.alloc w2 _=w3 at*
  have x3:=BX.cell 3
  have x2:=BX.cell 2
  have xl:=BX.lt
  by_cases hw:D.wait=[]
  .have TY:¬(0:Int)<n2:=by rw[e2.out,hw];decide
   have kq:=iL.out
   rw[if_neg (fun h=>h hw)] at kq
   replace kq:=aa kq
   clear iL
   go_upto_region 6 with fail
   have BL:=ag.laid w3 [.int .i64 n3] 3 _ rfl
   have bq:=newB (Below.refl w3.heap.size w3) (.cells #[.int .i64 n3] 3)
   replace BX:=BX.keep bq BX.lt
   replace BR:=BR.keep bq BR.lt
   replace IS:=IS.call bq
   replace SR:=SR.call bq
   replace LR:=LR.call bq
   replace bel:=ac bel bq
   clear bq x3 x2 xl S2
   go_upto_region 7 with fail
   generalize w3.heap.size=gL at*
   generalize World.alloc w3 _=w4 at*
   have x3:=BX.cell 3
   have xl:=BX.lt
   have RN:(n3:Int)=((aO D).length:Int):=by rw[ni.out,<-qP.out,List.length_map]
   obtain⟨last,pK⟩:∃last:Int,last=n3:=⟨_,rfl⟩
   have y9:Hid (rd.all (fl true (aO D).length)= !rd.any (outs last)):=aa (by rw[Nf,pK,RN])
   rw[<-pK] at BL
   replace pK:=aa pK
   clear RN
   obtain⟨dn,ck⟩:∃d,Hid (d=(cd (l3.map (·.r))).length):=⟨_,aa rfl⟩
   have cP:=fun W s=>nz l3 a3 n3 G3 dn W s ni ck
   rw[qP.out] at cP ck
   go_upto_region 9 with fail
   clear x3 xl
   go_wp2_with fail
   go_at_call 54
   refine((cP _ LR).mono fun _ _ h=>xG h).mono ?_
   rintro e w5 ⟨aS,GS,rfl,BS,CV,b5,Nr⟩
   clear cP
   replace BX:=BX.keep b5 BX.lt
   replace BR:=BR.keep b5 BR.lt
   replace BL:=BL.keep b5 BL.lt
   replace IS:=IS.call b5
   replace SR:=SR.call b5
   replace LR:=LR.call b5
   replace bel:=ac bel b5
   clear b5
   by_cases Aa:du (aO D)=0
   .have iE:=kq.out
    rw[if_neg (by simp[Aa])] at iE
    replace iE:=aa iE
    clear kq
    have tV:=fV Aa
    obtain rfl:dn=4:=by rw[ck.out];exact bZ tV
    have h4:=aa (bZ tV)
    rw[Aa]
    go_upto_region 12 with fail
    generalize w5.heap.size=gS at*
    generalize World.alloc w5 _=w6 at*
    have cX:=cS _ IS (cd (aO D)) aS GS CV.is
    rw[h4.out] at cX
    have x0:=BX.cell 0
    have x4:=BX.cell 4
    have xl:=BX.lt
    have s0:=BS.cell 0
    have sl:=BS.lt
    go_wp2_with fail
    go_at_call 40
    refine cX.mono ?_
    rintro e w7 ⟨rfl,b7⟩
    clear cX x0 x4 xl s0 sl cS
    replace BX:=BX.keep b7 BX.lt
    replace BR:=BR.keep b7 BR.lt
    replace BL:=BL.keep b7 BL.lt
    replace BS:=BS.keep b7 BS.lt
    replace IS:=IS.call b7
    replace CV:=CV.call b7
    replace SR:=SR.call b7
    replace LR:=LR.call b7
    replace bel:=ac bel b7
    clear b7
    have x4:=BX.cell 4
    have xl:=BX.lt
    by_cases rF:bp C (cd (aO D))=true
    .rw[rF]
     by_cases qy:rn=3
     .have fe:=iE.out
      rw[if_neg (fun h=>h ⟨rF,er.out.symm.trans qy⟩)] at fe
      subst qy
      have cO:=fun W s b=>yM rd ra rc 3 last gL W s b er.out.symm (by decide)
      rw[y9.out] at fe
      replace fe:=aa fe
      clear iE y9
      go_upto_region 15 with fail
      clear x4 xl
      have x4:=BX.cell 4
      have xl:=BX.lt
      go_wp2_with fail
      go_at_call 83
      refine(cO _ SR BL).mono ?_
      rintro e w8 ⟨rfl,rfl⟩
      clear cO
      cases ha:rd.any (outs last) with
      |true=>
       have lj:=fe.out
       rw[ha,if_neg (by decide)] at lj
       replace lj:=aa lj
       clear fe ha
       go_upto_region 16 with fail
       clear x4 xl
       have y0:=BR.cell 0
       have yf:=BR.free 0
       have yl:=BR.lt
       go_wp2_with fail
       have B9:=BR.set 0 (.slice none 0 0)
       have aq:=bel.setCell (p:=⟨gR,0,none⟩) ip (.slice none 0 0)
       have i0:=B9.cell 0
       exact bodyPost_ret (v:=.tuple #[.agg #[.slice none 0 0],.slice none 0 0,.int .i64 3]) (by simp[results,Tryz.results39,go_sem,i0]) rfl (iu lj.out (by decide) aq)
      |false=>
       have lj:=fe.out
       rw[ha,if_pos (by decide)] at lj
       have TM:Hid (cd (aO D)=x.c):=aa (by rw[GC.out];exact(kx rF).symm)
       have l6:=aa lj
       clear fe ha rF lj
       go_upto_region 17 with fail
       clear x4 xl
       have s0:=BS.cell 0
       have sl:=BS.lt
       have y0:=BR.cell 0
       have yf:=BR.free 0
       have yl:=BR.lt
       have B9:=BR.set 0 (.slice aS 4 GS)
       have aq:=bel.setCell (p:=⟨gR,0,none⟩) ip (.slice aS 4 GS)
       have I9:=(CV.boxed BR (.slice aS 4 GS)).is
       have L9:=LR.box1 BR (.slice aS 4 GS)
       have i0:=B9.cell 0
       go_wp2_with fail
       exact bodyPost_ret (v:=.tuple #[.agg #[.slice aS 4 GS],.slice a3 n3 G3,.int .i64 0]) (by simp[results,Tryz.results39,go_sem,i0]) rfl
        ⟨aS,4,GS,a3,n3,G3,l3,by rw[l6.out],aa (fun _=>⟨rfl,by rw[<-TM.out];exact I9,L9,ni.out,by rw[qP.out,HI.out]⟩),aq⟩
     have fe:=iE.out
     rw[if_pos (fun h=>qy (er.out.trans h.2))] at fe
     have Xo:¬(rn:Int)=3:=by omega
     replace fe:=aa fe
     clear iE
     go_upto_region 13 with fail
     clear x4 xl
     have y0:=BR.cell 0
     have yf:=BR.free 0
     have yl:=BR.lt
     go_wp2_with fail
     have B9:=BR.set 0 (.slice none 0 0)
     have aq:=bel.setCell (p:=⟨gR,0,none⟩) ip (.slice none 0 0)
     have i0:=B9.cell 0
     exact bodyPost_ret (v:=.tuple #[.agg #[.slice none 0 0],.slice none 0 0,.int .i64 4]) (by simp[results,Tryz.results39,go_sem,i0]) rfl (iu fe.out (by decide) aq)
    have fe:=iE.out
    rw[if_pos (fun h=>rF h.1)] at fe
    have Nq:bp C (cd (aO D))=false:=by simpa using rF
    rw[Nq]
    replace fe:=aa fe
    clear iE
    go_upto_region 13 with fail
    clear x4 xl
    have y0:=BR.cell 0
    have yf:=BR.free 0
    have yl:=BR.lt
    go_wp2_with fail
    have B9:=BR.set 0 (.slice none 0 0)
    have aq:=bel.setCell (p:=⟨gR,0,none⟩) ip (.slice none 0 0)
    have i0:=B9.cell 0
    exact bodyPost_ret (v:=.tuple #[.agg #[.slice none 0 0],.slice none 0 0,.int .i64 4]) (by simp[results,Tryz.results39,go_sem,i0]) rfl (iu fe.out (by decide) aq)
   have iE:=kq.out
   rw[if_pos Aa] at iE
   have pr:decide (du (aO D)=0)=false:=decide_eq_false Aa
   generalize du (aO D)=E at*
   replace iE:=aa iE
   clear kq
   go_upto_region 11 with fail
   generalize World.alloc w5 _=w6 at*
   have y0:=BR.cell 0
   have yf:=BR.free 0
   have yl:=BR.lt
   go_wp2_with fail
   have B9:=BR.set 0 (.slice none 0 0)
   have aq:=bel.setCell (p:=⟨gR,0,none⟩) ip (.slice none 0 0)
   have i0:=B9.cell 0
   exact bodyPost_ret (v:=.tuple #[.agg #[.slice none 0 0],.slice none 0 0,.int .i64 E]) (by simp[results,Tryz.results39,go_sem,i0]) rfl (iu iE.out Aa aq)
  have TY:(0:Int)<n2:=by
   rw[e2.out]
   have:=List.length_pos_iff.2 hw
   omega
  have kq:=iL.out
  rw[if_pos hw] at kq
  replace kq:=aa kq
  clear iL
  go_upto_region 5 with fail
  clear x3 x2 xl
  have y0:=BR.cell 0
  have yf:=BR.free 0
  have yl:=BR.lt
  go_wp2_with fail
  have B9:=BR.set 0 (.slice none 0 0)
  have aq:=bel.setCell (p:=⟨gR,0,none⟩) ip (.slice none 0 0)
  have i0:=B9.cell 0
  exact bodyPost_ret (v:=.tuple #[.agg #[.slice none 0 0],.slice none 0 0,.int .i64 4]) (by simp[results,Tryz.results39,go_sem,i0]) rfl (iu kq.out (by decide) aq)
 have iL:=tb.out
 rw[if_pos hd] at iL
 have hdd:decide (cy D=0)=false:=decide_eq_false hd
 generalize cy D=E at*
 replace iL:=aa iL
 clear tb
 go_upto_region 3 with fail
 generalize World.alloc w2 _=w3 at*
 have y0:=BR.cell 0
 have yf:=BR.free 0
 have yl:=BR.lt
 go_wp2_with fail
 have B9:=BR.set 0 (.slice none 0 0)
 have aq:=bel.setCell (p:=⟨gR,0,none⟩) ip (.slice none 0 0)
 have i0:=B9.cell 0
 exact bodyPost_ret (v:=.tuple #[.agg #[.slice none 0 0],.slice none 0 0,.int .i64 E]) (by simp[results,Tryz.results39,go_sem,i0]) rfl (iu iL.out hd aq)
theorem FU (C:List Rw)(D:Dk)(rd:List Int)(p:Pw)(w:World)(hg:Gl w)(I:dE w p ⟨C,D,false,rd⟩)(few:p.n1+p.n2<=9223372036854775807)(kg:p.sn<=140737488355328):
  Calls Tryz.prog 39 #[p.val false] w (zm w ⟨C,D,false,rd⟩):=by
 obtain⟨sa,sn,sG,a1,n1,c1,a2,n2,c2,ra,rn,rc⟩:=p
 simp only[Pw.val] at*
 obtain⟨es,e1,e2,er,IS,S1,S2,SR⟩:=I
 simp only at*
 have SS:rn<=rc:=by have:=SR.le;rw[List.length_map] at this;omega
 have cR:=fun W g s t=>ms D a1 a2 c1 c2 n1 n2 W g s t e1 e2 few
 obtain⟨x,hx⟩:∃x:Wd,x=⟨C,D,false,rd⟩:=⟨_,rfl⟩
 rw[<-hx]
 have tb:dw x=if cy D≠0 then cy D else if False then 4 else if du (([]:List Rc))≠0 then du (([]:List Rc)) else if¬(bp C (cd (([]:List Rc)))=true/\rd.length=3) then 4 else if rd.all (fl false (([]:List Rc)).length)=true then 0 else 3:=by
  rw[hx]
  unfold dw iW
  simp only[Bool.false_eq_true,false_and,if_false,ne_eq]
 have HI:iW x=[]:=by rw[hx];rfl
 have GC:x.c=C:=by rw[hx]
 have cS:=fun W (y:cu W sa sG C) (D2:List Rw) b H (z:cu W b H D2)=>tq y z (by omega)
 rw[<-es] at cS
 have BX:=(ag.laid w [.slice sa sn sG,.slice a1 n1 c1,.slice a2 n2 c2,.bool false,.slice ra rn rc] 30 _ rfl).alc (.cells #[.slice none 0 0] 24)
 have BR:=ag.laid (w.alloc (.cells #[.slice sa sn sG,.slice a1 n1 c1,.slice a2 n2 c2,.bool false,.slice ra rn rc] 30)) [.slice none 0 0] 24 (w.heap.size+1) (by simp)
 have bel:=newB (newB (Below.refl w.heap.size w) (.cells #[.slice sa sn sG,.slice a1 n1 c1,.slice a2 n2 c2,.bool false,.slice ra rn rc] 30)) (.cells #[.slice none 0 0] 24)
 replace IS:=IS.keep bel (Nat.le_refl _)
 replace S1:=S1.keep bel (Nat.le_refl _)
 replace S2:=S2.keep bel (Nat.le_refl _)
 replace SR:=SR.keep bel (Nat.le_refl _)
 have gl:=hg.call bel
 obtain⟨gR,jv⟩:∃gR,gR=w.heap.size+1:=⟨_,rfl⟩
 rw[<-jv] at BR
 have ip:w.heap.size<=gR:=by omega
 have tX:=za D
 replace hx:=aa hx
 replace es:=aa es
 replace e1:=aa e1
 replace e2:=aa e2
 replace er:=aa er
 replace tb:=aa tb
 replace HI:=aa HI
 replace GC:=aa GC
 go_enter Tryz.func39,Tryz.ntmps39
 go_upto_region 1 with fail
 rw[<-jv]
 generalize World.alloc (World.alloc w _) _=w1 at*
 clear jv
 have x1:=BX.cell 1
 have x2:=BX.cell 2
 have xl:=BX.lt
 go_wp2_with fail
 go_at_call 31
 refine((cR _ gl S1 S2).mono fun _ _ h=>h.laid).mono ?_
 rintro e w2 ⟨r1,i1,k1,r2,i2,k2,a3,n3,G3,l3,rfl,DR,LR,ni,qP,b2⟩
 clear x1 x2 xl cR DR gl
 replace BX:=BX.keep b2 BX.lt
 replace BR:=BR.keep b2 BR.lt
 replace IS:=IS.call b2
 replace S2:=S2.call b2
 replace SR:=SR.call b2
 replace bel:=ac bel b2
 clear b2
 by_cases hd:cy D=0
 .rw[hd]
  rw[hd] at tb
  have iL:=tb.out
  rw[if_neg (by decide)] at iL
  replace iL:=aa iL
  clear tb hd
  go_upto_region 4 with fail
  generalize World.alloc w2 _=w3 at*
  have x3:=BX.cell 3
  have xl:=BX.lt
  have kq:=iL.out
  rw[if_neg (fun h=>h)] at kq
  replace kq:=aa kq
  clear iL
  go_upto_region 6 with fail
  have NY:=ag.laid w3 [.int .i64 n3] 3 _ rfl
  have bq:=newB (Below.refl w3.heap.size w3) (.cells #[.int .i64 n3] 3)
  have VF:w.heap.size≠w3.heap.size:=Nat.ne_of_lt BX.lt
  have XW:gR≠w3.heap.size:=Nat.ne_of_lt BR.lt
  replace BX:=BX.keep bq BX.lt
  replace BR:=BR.keep bq BR.lt
  have XI:=IS
  have Wf:=SR
  have XA:w.heap.size<=w3.heap.size:=bel.size
  replace bel:=ac bel bq
  clear x3 xl LR S2
  go_upto_region 7 with fail
  have BL:=NY.set 0 (.int .i64 (-1))
  have bs:=bq.setCell (p:=⟨w3.heap.size,0,none⟩) (Nat.le_refl _) (.int .i64 (-1))
  replace IS:=XI.call bs
  replace SR:=Wf.call bs
  have am:=bel.setCell (p:=⟨w3.heap.size,0,none⟩) XA (.int .i64 (-1))
  clear bq bs XI Wf
  generalize w3.heap.size=gL at*
  generalize World.alloc w3 _=w4 at*
  have x3:=BX.cell 3
  have xl:=BX.lt
  have z0:=NY.cell 0
  have zf:=NY.free 0
  have zl:=NY.lt
  have ib:=BX.other 0 (.int .i64 (-1)) VF.symm
  have ma:=BR.other 0 (.int .i64 (-1)) XW.symm
  go_upto_region 9 with fail
  clear x3 xl z0 zf zl BX BR NY bel VF XW
  have BX:=ib
  have BR:=ma
  have bel:=am
  clear ib ma am
  generalize World.setCell w4 _ _=w4b at*
  obtain⟨last,pK⟩:∃last:Int,last=-1:=⟨_,rfl⟩
  have y9:Hid (rd.all (fl false ([]:List Rc).length)= !rd.any (outs last)):=aa (by rw[pK];exact Hd rd)
  rw[<-pK] at BL
  replace pK:=aa pK
  obtain⟨dn,ck⟩:∃d,Hid (d=(cd []).length):=⟨_,aa rfl⟩
  have cP:=fun W=>nz [] none 0 0 dn W ⟨be.ofNil _ _,fun _ h=>(by cases h)⟩ (aa rfl) ck
  simp only[List.map_nil] at cP
  go_wp2_with fail
  go_at_call 54
  refine((cP _).mono fun _ _ h=>xG h).mono ?_
  rintro e w5 ⟨aS,GS,rfl,BS,CV,b5,Nr⟩
  clear cP
  replace BX:=BX.keep b5 BX.lt
  replace BR:=BR.keep b5 BR.lt
  replace BL:=BL.keep b5 BL.lt
  replace IS:=IS.call b5
  replace SR:=SR.call b5
  replace bel:=ac bel b5
  clear b5
  have Aa:du []=0:=rfl
  have iE:=kq.out
  rw[if_neg (by simp[Aa])] at iE
  replace iE:=aa iE
  clear kq
  have tV:=fV Aa
  obtain rfl:dn=4:=by rw[ck.out];exact bZ tV
  have h4:=aa (bZ tV)
  rw[Aa]
  go_upto_region 12 with fail
  generalize w5.heap.size=gS at*
  generalize World.alloc w5 _=w6 at*
  have cX:=cS _ IS (cd ([])) aS GS CV.is
  rw[h4.out] at cX
  have x0:=BX.cell 0
  have x4:=BX.cell 4
  have xl:=BX.lt
  have s0:=BS.cell 0
  have sl:=BS.lt
  go_wp2_with fail
  go_at_call 40
  refine cX.mono ?_
  rintro e w7 ⟨rfl,b7⟩
  clear cX x0 x4 xl s0 sl cS
  replace BX:=BX.keep b7 BX.lt
  replace BR:=BR.keep b7 BR.lt
  replace BL:=BL.keep b7 BL.lt
  replace BS:=BS.keep b7 BS.lt
  replace IS:=IS.call b7
  replace CV:=CV.call b7
  replace SR:=SR.call b7
  replace bel:=ac bel b7
  clear b7
  have x4:=BX.cell 4
  have xl:=BX.lt
  by_cases rF:bp C (cd ([]))=true
  .rw[rF]
   by_cases qy:rn=3
   .have fe:=iE.out
    rw[if_neg (fun h=>h ⟨rF,er.out.symm.trans qy⟩)] at fe
    subst qy
    have cO:=fun W s b=>yM rd ra rc 3 last gL W s b er.out.symm (by decide)
    rw[y9.out] at fe
    replace fe:=aa fe
    clear iE y9
    go_upto_region 15 with fail
    clear x4 xl
    have x4:=BX.cell 4
    have xl:=BX.lt
    go_wp2_with fail
    go_at_call 83
    refine(cO _ SR BL).mono ?_
    rintro e w8 ⟨rfl,rfl⟩
    clear cO
    cases ha:rd.any (outs last) with
    |true=>
     have lj:=fe.out
     rw[ha,if_neg (by decide)] at lj
     replace lj:=aa lj
     clear fe ha
     go_upto_region 16 with fail
     clear x4 xl
     have y0:=BR.cell 0
     have yf:=BR.free 0
     have yl:=BR.lt
     go_wp2_with fail
     have B9:=BR.set 0 (.slice none 0 0)
     have aq:=bel.setCell (p:=⟨gR,0,none⟩) ip (.slice none 0 0)
     have i0:=B9.cell 0
     exact bodyPost_ret (v:=.tuple #[.agg #[.slice none 0 0],.slice none 0 0,.int .i64 3]) (by simp[results,Tryz.results39,go_sem,i0]) rfl (iu lj.out (by decide) aq)
    |false=>
     have lj:=fe.out
     rw[ha,if_pos (by decide)] at lj
     have TM:Hid (cd ([])=x.c):=aa (by rw[GC.out];exact(kx rF).symm)
     have l6:=aa lj
     clear fe ha rF lj
     go_upto_region 17 with fail
     clear x4 xl
     have s0:=BS.cell 0
     have sl:=BS.lt
     have y0:=BR.cell 0
     have yf:=BR.free 0
     have yl:=BR.lt
     have B9:=BR.set 0 (.slice aS 4 GS)
     have aq:=bel.setCell (p:=⟨gR,0,none⟩) ip (.slice aS 4 GS)
     have I9:=(CV.boxed BR (.slice aS 4 GS)).is
     have i0:=B9.cell 0
     go_wp2_with fail
     exact bodyPost_ret (v:=.tuple #[.agg #[.slice aS 4 GS],.slice none 0 0,.int .i64 0]) (by simp[results,Tryz.results39,go_sem,i0]) rfl
      ⟨aS,4,GS,none,0,0,[],by rw[l6.out],aa (fun _=>⟨rfl,by rw[<-TM.out];exact I9,⟨be.ofNil _ _,fun _ h=>(by cases h)⟩,rfl,by rw[HI.out];rfl⟩),aq⟩
   have fe:=iE.out
   rw[if_pos (fun h=>qy (er.out.trans h.2))] at fe
   have Xo:¬(rn:Int)=3:=by omega
   replace fe:=aa fe
   clear iE
   go_upto_region 13 with fail
   clear x4 xl
   have y0:=BR.cell 0
   have yf:=BR.free 0
   have yl:=BR.lt
   go_wp2_with fail
   have B9:=BR.set 0 (.slice none 0 0)
   have aq:=bel.setCell (p:=⟨gR,0,none⟩) ip (.slice none 0 0)
   have i0:=B9.cell 0
   exact bodyPost_ret (v:=.tuple #[.agg #[.slice none 0 0],.slice none 0 0,.int .i64 4]) (by simp[results,Tryz.results39,go_sem,i0]) rfl (iu fe.out (by decide) aq)
  have fe:=iE.out
  rw[if_pos (fun h=>rF h.1)] at fe
  have Nq:bp C (cd ([]))=false:=by simpa using rF
  rw[Nq]
  replace fe:=aa fe
  clear iE
  go_upto_region 13 with fail
  clear x4 xl
  have y0:=BR.cell 0
  have yf:=BR.free 0
  have yl:=BR.lt
  go_wp2_with fail
  have B9:=BR.set 0 (.slice none 0 0)
  have aq:=bel.setCell (p:=⟨gR,0,none⟩) ip (.slice none 0 0)
  have i0:=B9.cell 0
  exact bodyPost_ret (v:=.tuple #[.agg #[.slice none 0 0],.slice none 0 0,.int .i64 4]) (by simp[results,Tryz.results39,go_sem,i0]) rfl (iu fe.out (by decide) aq)
 have iL:=tb.out
 rw[if_pos hd] at iL
 have hdd:decide (cy D=0)=false:=decide_eq_false hd
 generalize cy D=E at*
 replace iL:=aa iL
 clear tb
 go_upto_region 3 with fail
 generalize World.alloc w2 _=w3 at*
 have y0:=BR.cell 0
 have yf:=BR.free 0
 have yl:=BR.lt
 go_wp2_with fail
 have B9:=BR.set 0 (.slice none 0 0)
 have aq:=bel.setCell (p:=⟨gR,0,none⟩) ip (.slice none 0 0)
 have i0:=B9.cell 0
 exact bodyPost_ret (v:=.tuple #[.agg #[.slice none 0 0],.slice none 0 0,.int .i64 E]) (by simp[results,Tryz.results39,go_sem,i0]) rfl (iu iL.out hd aq)
theorem k7 (x:Wd)(p:Pw)(w:World)(hg:Gl w)(I:dE w p x)(few:p.n1+p.n2<=9223372036854775807)(kg:p.sn<=140737488355328):
  Calls Tryz.prog 39 #[p.val x.up] w (zm w x):=by
 obtain⟨C,D,up,rd⟩:=x
 cases up
 .exact FU C D rd p w hg I few kg
 exact Ha C D rd p w hg I few kg
theorem Ja (ao:Option Addr)(cap:Nat)(l:List Bool)(w:World)(hr:Sl w ao cap (l.map Value.bool))(hl:l.length<=140737488355328):
  Calls Tryz.prog 226 #[.slice ao l.length cap] w fun e w'=>
   ∃v',e=.returned v'/\w'.ownsRow w.heap.size 4 1 v' l.length (l.map Value.bool)/\Below w.heap.size w w':=by
 obtain⟨i0,hi,bK,bm,bQ⟩:=info_parts oo
 have q:∀(w:World) (a:Option Addr) (n c n' c':Nat),(binOp .eql 105 (.slice a n c) (.slice none n' c')).run Tryz.prog w=.ok (.bool a.isNone) w:=fun w a n c n' c'=>Lib.run_eql_slice_nil w _ _ a n c n' c' Tryz.underlying105
 cases ao with
 |none=>
  obtain⟨h1,rfl⟩:=hr.src0 rfl
  obtain rfl:l=[]:=by simpa using h1
  clear h1
  go_enter Tryz.func226,Tryz.ntmps226
  go_wp2_with fail
  go_ret
  exact⟨_,rfl,⟨rfl,.inl ⟨rfl,rfl⟩⟩,Below.refl _ _⟩
 |some ad=>
  have fh:(w.alloc (.cells #[] 4)).ownsRow w.heap.size 4 1 (.slice (some ⟨w.heap.size,0,none⟩) 0 0) 0 []:=by
   have hB:=ag.laid w [] 4 _ rfl
   exact vm hB w.heap.size (Nat.le_refl _) 0 (Nat.le_refl _) (by decide)
  have fO:=(Below.refl w.heap.size w).alloc (Nat.le_refl _) (Obj.cells #[] 4)
  by_cases h0:l=[]
  .subst h0
   have hs:=hr.alloc (.cells #[] 4)
   have hx:=hs.src
   have hy:=hs.src0
   have bA:w.heap.size<=(w.alloc (.cells #[] 4)).heap.size:=by simp
   clear hr hs
   go_enter Tryz.func226,Tryz.ntmps226
   go_wp2_with (at_builtin;refine wpList_append_fits_any _ rfl (.tmp 5) (.tmp 6) 105 rfl w.heap.size 4 i0 1 Tryz.underlying105 hi bm w.heap.size 0 0 [] rfl fh (some ad) 0 cap [] rfl rfl hy hx (by simp) (Nat.le_refl _) ?_)
   intro w1 ez cz
   have aY:=aG fO fh cz (Nat.le_refl _) bA
   go_wp2_with fail
   go_ret
   exact⟨_,rfl,ez,aY⟩
  have sg:0<l.length:=List.length_pos_iff.2 h0
  have hs:=hr.alloc (.cells #[] 4)
  have eS:=hs.src ad rfl
  have one:=Jf l
  have bA:w.heap.size<=(w.alloc (.cells #[] 4)).heap.size:=by simp
  clear hr hs h0
  go_enter Tryz.func226,Tryz.ntmps226
  go_wp2_with (at_builtin;refine ed _ rfl (.tmp 5) (.tmp 6) 105 rfl w.heap.size 4 i0 (.bool false) 1 1 Tryz.underlying105 hi bK bm bQ rfl (by decide) _ 0 _ rfl fh ad l.length cap (l.map Value.bool) rfl (by simp) eS one sg (by unfold maxLen;omega) (by omega) bA ?_)
  intro v' w1 ez cz DO
  have aY:=aG fO fh cz (Nat.le_refl _) bA
  obtain⟨a1,c1,rfl,t1,n1⟩:=pd ez
  go_wp2_with fail
  go_ret
  exact⟨_,rfl,ez,aY⟩
theorem Kq (l:List UInt8):∀v∈byteCells l,v.oneCell'=true:=by
 intro v hv
 obtain⟨b,_,rfl⟩:=List.mem_map.1 hv
 rfl
theorem vM (ao:Option Addr)(cap:Nat)(l:List UInt8)(w:World)(hr:Sl w ao cap (byteCells l))(hl:l.length<=140737488355328):
  Calls Tryz.prog 67 #[.slice ao l.length cap] w fun e w'=>
   ∃v',e=.returned v'/\w'.ownsRow w.heap.size 5 1 v' l.length (byteCells l)/\Below w.heap.size w w':=by
 obtain⟨i0,hi,bK,bm,bQ⟩:=info_parts zb
 have q:∀(w:World) (a:Option Addr) (n c n' c':Nat),(binOp .eql 25 (.slice a n c) (.slice none n' c')).run Tryz.prog w=.ok (.bool a.isNone) w:=fun w a n c n' c'=>Lib.run_eql_slice_nil w _ _ a n c n' c' Tryz.underlying25
 cases ao with
 |none=>
  obtain⟨h1,rfl⟩:=hr.src0 rfl
  obtain rfl:l=[]:=by cases l with|nil=>rfl|cons b r=>simp[byteCells] at h1
  clear h1
  go_enter Tryz.func67,Tryz.ntmps67
  go_wp2_with fail
  go_ret
  exact⟨_,rfl,⟨rfl,.inl ⟨rfl,rfl⟩⟩,Below.refl _ _⟩
 |some ad=>
  have fh:(w.alloc (.cells #[] 5)).ownsRow w.heap.size 5 1 (.slice (some ⟨w.heap.size,0,none⟩) 0 0) 0 []:=by
   have hB:=ag.laid w [] 5 _ rfl
   exact vm hB w.heap.size (Nat.le_refl _) 0 (Nat.le_refl _) (by decide)
  have fO:=(Below.refl w.heap.size w).alloc (Nat.le_refl _) (Obj.cells #[] 5)
  by_cases h0:l=[]
  .subst h0
   have hs:=hr.alloc (.cells #[] 5)
   have hx:=hs.src
   have hy:=hs.src0
   have bA:w.heap.size<=(w.alloc (.cells #[] 5)).heap.size:=by simp
   clear hr hs
   go_enter Tryz.func67,Tryz.ntmps67
   go_wp2_with (at_builtin;refine wpList_append_fits_any _ rfl (.tmp 5) (.tmp 6) 25 rfl w.heap.size 5 i0 1 Tryz.underlying25 hi bm w.heap.size 0 0 [] rfl fh (some ad) 0 cap [] rfl rfl hy hx (by simp) (Nat.le_refl _) ?_)
   intro w1 ez cz
   have aY:=aG fO fh cz (Nat.le_refl _) bA
   go_wp2_with fail
   go_ret
   exact⟨_,rfl,ez,aY⟩
  have sg:0<l.length:=List.length_pos_iff.2 h0
  have hs:=hr.alloc (.cells #[] 5)
  have eS:=hs.src ad rfl
  have one:=Kq l
  have bA:w.heap.size<=(w.alloc (.cells #[] 5)).heap.size:=by simp
  clear hr hs h0
  go_enter Tryz.func67,Tryz.ntmps67
  go_wp2_with (at_builtin;refine ed _ rfl (.tmp 5) (.tmp 6) 25 rfl w.heap.size 5 i0 (.int .u8 0) 1 1 Tryz.underlying25 hi bK bm bQ rfl (by decide) _ 0 _ rfl fh ad l.length cap (byteCells l) rfl (by rw[Lib.byteCells_length,Nat.mul_one]) eS one sg (by unfold maxLen;omega) (by omega) bA ?_)
  intro v' w1 ez cz DO
  have aY:=aG fO fh cz (Nat.le_refl _) bA
  obtain⟨a1,c1,rfl,t1,n1⟩:=pd ez
  go_wp2_with fail
  go_ret
  exact⟨_,rfl,ez,aY⟩
theorem Jn (ad:Addr)(cap:Nat)(l:List Int)(n:Nat)(w:World)(ew:Row w (some ad) (l.map (Value.int .i64)))(hlen:l.length=n)(hn:0<n)(hl:n<=1000000000000):
  Calls Tryz.prog 49 #[.slice (some ad) n cap] w fun e w'=>
   ∃(g G:Nat) (ys:List Int),e=.returned (.slice (some ⟨g,0,none⟩) n G)/\ag w' g (ys.map (Value.int .i64)) 3/\ys.take n=l/\n<=G/\G<=9223372036854775807/\w.heap.size<=g/\Below w.heap.size w w':=by
 obtain⟨i0,hi,bK,bm,bQ⟩:=info_parts Js
 have q:∀(w:World) (a:Option Addr) (n c n' c':Nat),(binOp .eql 28 (.slice a n c) (.slice none n' c')).run Tryz.prog w=.ok (.bool a.isNone) w:=fun w a n c n' c'=>Lib.run_eql_slice_nil w _ _ a n c n' c' Tryz.underlying28
 have fO:=(Below.refl w.heap.size w).alloc (Nat.le_refl _) (Obj.cells #[] 3)
 have hs:=ew.alloc (.cells #[] 3)
 have eS:∀j u,(l.map (Value.int .i64))[j]? =some u->(w.alloc (.cells #[] 3)).cell? (ad.add j)=some u:=by
  intro j u hu
  obtain⟨b',lB,e,_,hc⟩:=hs.at (by intro e;rw[e] at hu;simp at hu)
  obtain rfl:=Option.some.inj e
  rw[Addr.add_lit]
  exact hc j u hu
 have e1:(l.map (Value.int .i64)).length=n*i0.size:=by rw[bm,List.length_map,Nat.mul_one];exact hlen
 have e2:(Value.int .i64 0).cells.size=i0.size:=by rw[bm];rfl
 have e3:n*i0.bytes<=140737488355328:=by rw[bQ];omega
 obtain⟨C,hC⟩:∃C,C=l.map (Value.int .i64):=⟨_,rfl⟩
 rw[<-hC] at eS e1
 replace hlen:=aa hlen
 replace hC:=aa hC
 replace e1:=aa e1
 replace e2:=aa e2
 clear ew hs
 go_enter Tryz.func49,Tryz.ntmps49
 go_wp2_with (at_builtin;refine lk _ rfl (.tmp 5) (.tmp 6) 28 rfl 3 i0 (.int .i64 0) Tryz.underlying28 hi bK e2.out (by rw[bm];decide) ⟨w.heap.size,0,none⟩ rfl ad n cap C rfl e1.out eS hn (by unfold maxLen;omega) e3 ?_)
 intro G L w1 B1 hL RN hG pT cz
 have aY:Below w.heap.size w w1:=fO.grown cz (by simp) (fun k h=>by cases h)
 obtain⟨z,hz⟩:∃z:List Int,L=z.map (Value.int .i64):=by
  refine⟨List.replicate L.length 0,?_⟩
  rw[List.map_replicate]
  exact List.eq_replicate_iff.2 ⟨rfl,fun v hv=>by have:=hL v hv;simpa[Value.cells] using this⟩
 replace hz:=aa hz
 go_wp2_with fail
 go_ret
 refine⟨_,G,l++z,rfl,?_,?_,hG,by unfold maxLen at pT;exact pT,by simp,aY⟩
 .rw[List.map_append,<-hz.out,<-hC.out];exact B1
 rw[<-hlen.out,List.take_left]
theorem Fu (x:Wd)(p:Pw)(w:World)(hg:Gl w)(I:dE w p x)(few:p.n1+p.n2<=9223372036854775807)(kg:p.sn<=140737488355328):
  Calls Tryz.prog 11 #[p.val x.up] w fun e w'=>e=.returned (.int .i64 (dw x))/\Below w.heap.size w w':=by
 have c:=fun W g i=>k7 x p W g i few kg
 obtain⟨C,D,up,rd⟩:=x
 obtain⟨sa,sn,sG,a1,n1,c1,a2,n2,c2,ra,rn,rc⟩:=p
 simp only[Pw.val] at*
 have BX:=ag.laid w [.slice sa sn sG,.slice a1 n1 c1,.slice a2 n2 c2,.bool up,.slice ra rn rc] 30 _ rfl
 have bel:=newB (Below.refl w.heap.size w) (.cells #[.slice sa sn sG,.slice a1 n1 c1,.slice a2 n2 c2,.bool up,.slice ra rn rc] 30)
 replace I:=aa (I.alloc (.cells #[.slice sa sn sG,.slice a1 n1 c1,.slice a2 n2 c2,.bool up,.slice ra rn rc] 30))
 have gl:=hg.call bel
 go_enter Tryz.func11,Tryz.ntmps11
 go_upto_region 1 with fail
 generalize World.alloc w _=w1 at*
 obtain⟨x0,x1,x2,x3,x4,xl⟩:=BX.c5
 go_wp2_with fail
 go_at_call 39
 refine(c _ gl I.out).mono ?_
 rintro e w2 ⟨a',n',G',la,ln,lG,l,rfl,_,b2⟩
 have am:=newB (ac bel b2) (.cells #[.slice a' n' G'] 24)
 go_wp2_with fail
 go_ret
 exact⟨rfl,am⟩
structure QJ (W:World)(h:Nat)(p:Pw)(ys:List Int)(x:Wd):Prop where
 is:dE W p x
 so:jA (fun q=>q=h\/False) W p.sa p.sG x.c
 right:dw x=0
 ra:p.ra=some ⟨h,0,none⟩
 rb:ag W h (ys.map (Value.int .i64)) 3
 ry:ys.take 3=x.rd
 rm:3<=p.rc
theorem ix.v {W:World}{g h:Nat}{p:Pw}{ys:List Int}{x:Wd}(k:ix (fun _=>False) W g h p ys x):QJ W h p ys x:=⟨k.is,k.so,k.right,k.ra,k.rb,k.ry,k.rm⟩
theorem QJ.box {W:World}{h:Nat}{p:Pw}{ys:List Int}{x:Wd}(k:QJ W h p ys x):ix (fun _=>False) (W.alloc (.cells (p.cells x.up).toArray 30)) W.heap.size h p ys x:=
 have b:=(Below.refl W.heap.size W).alloc (Nat.le_refl _) (.cells (p.cells x.up).toArray 30)
 ⟨ag.laid W (p.cells x.up) 30 _ rfl,k.is.call b,k.so.call b,k.right,k.ra,k.rb.keep b k.rb.lt,k.ry,k.rm⟩
theorem ph {x:Wd}{p:Pw}{w:World}(I:dE w p x)(h:dw x=0):p.n1+p.n2<=60000/\p.sn=4/\p.rn=3:=by
 obtain⟨h1,_,_,_,h5,_⟩:=fi h
 refine⟨?_,by rw[I.es];exact bZ (i6 h),by rw[I.er];exact h5⟩
 rw[I.e1,I.e2]
 exact rq h1
theorem FQ (x:Wd)(p:Pw)(w:World)(hg:Gl w)(I:dE w p x)(few:p.n1+p.n2<=9223372036854775807)(kg:p.sn<=140737488355328)(h:dw x≠0):
  Calls Tryz.prog 32 #[p.val x.up] w fun e w'=>e=.returned (.tuple #[ti.val false,.int .i64 (dw x)])/\Below w.heap.size w w':=by
 have c:=fun W g i=>k7 x p W g i few kg
 unfold zm at c
 obtain⟨C,D,up,rd⟩:=x
 obtain⟨sa,sn,sG,a1,n1,c1,a2,n2,c2,ra,rn,rc⟩:=p
 simp only[Pw.val,ti] at*
 have hd:decide (dw ⟨C,D,up,rd⟩=0)=false:=decide_eq_false h
 have BX:=(ag.laid w [.slice sa sn sG,.slice a1 n1 c1,.slice a2 n2 c2,.bool up,.slice ra rn rc] 30 _ rfl).alc (.cells #[.slice none 0 0,.slice none 0 0,.slice none 0 0,.bool false,.slice none 0 0] 30)
 have BR:=ag.laid (w.alloc (.cells #[.slice sa sn sG,.slice a1 n1 c1,.slice a2 n2 c2,.bool up,.slice ra rn rc] 30)) [.slice none 0 0,.slice none 0 0,.slice none 0 0,.bool false,.slice none 0 0] 30 (w.heap.size+1) (by simp)
 have bel:=newB (newB (Below.refl w.heap.size w) (.cells #[.slice sa sn sG,.slice a1 n1 c1,.slice a2 n2 c2,.bool up,.slice ra rn rc] 30)) (.cells #[.slice none 0 0,.slice none 0 0,.slice none 0 0,.bool false,.slice none 0 0] 30)
 replace I:=aa (I.keep bel (Nat.le_refl _))
 have gl:=hg.call bel
 generalize dw ⟨C,D,up,rd⟩=E at*
 go_enter Tryz.func32,Tryz.ntmps32
 go_upto_region 1 with fail
 generalize World.alloc (World.alloc w _) _=w1 at*
 obtain⟨x0,x1,x2,x3,x4,xl⟩:=BX.c5
 go_wp2_with fail
 go_at_call 39
 refine(c _ gl I.out).mono ?_
 rintro e w2 ⟨a',n',G',la,ln,lG,l,rfl,_,b2⟩
 clear c
 have bq:=newB b2 (.cells #[.slice a' n' G'] 24)
 replace BR:=BR.keep bq BR.lt
 replace bel:=ac bel bq
 clear x0 x1 x2 x3 x4 xl BX bq b2
 go_upto_region 3 with fail
 generalize World.alloc w2 _=w3 at*
 obtain⟨y0,y1,y2,y3,y4,-⟩:=BR.c5
 obtain⟨f0,f1,f2,f3,f4⟩:=BR.f5
 have yl:=BR.lt
 go_wp2_with fail
 have B9:=fA BR (.slice none 0 0) (.slice none 0 0) (.slice none 0 0) (.bool false) (.slice none 0 0)
 have aq:=dP bel (Nat.le_succ _) (.slice none 0 0) (.slice none 0 0) (.slice none 0 0) (.bool false) (.slice none 0 0)
 obtain⟨i0,i1,i2,i3,i4,-⟩:=B9.c5
 exact bodyPost_ret (v:=.tuple #[.agg #[.slice none 0 0,.slice none 0 0,.slice none 0 0,.bool false,.slice none 0 0],.int .i64 E]) (by simp[results,Tryz.results32,go_sem,i0,i1,i2,i3,i4]) rfl ⟨rfl,aq⟩
def M9 (W:World)(x:Wd)(e:Ending)(w':World):Prop:=
 ∃(h:Nat) (p:Pw) (ys:List Int),e=.returned (.tuple #[p.val x.up,.int .i64 0])/\QJ w' h p ys x/\W.heap.size<=h/\Below W.heap.size W w'
theorem yu (x:Wd)(p:Pw)(w:World)(hg:Gl w)(I:dE w p x)(h:dw x=0):
  Calls Tryz.prog 32 #[p.val x.up] w (M9 w x):=by
 obtain⟨k1,k2,k3⟩:=ph I h
 have c:=fun W g i=>k7 x p W g i (by omega) (by omega)
 unfold zm at c
 rw[h] at c
 obtain⟨C,D,up,rd⟩:=x
 obtain⟨sa,sn,sG,a1,n1,c1,a2,n2,c2,ra,rn,rc⟩:=p
 simp only[Pw.val] at*
 have BX:=(ag.laid w [.slice sa sn sG,.slice a1 n1 c1,.slice a2 n2 c2,.bool up,.slice ra rn rc] 30 _ rfl).alc (.cells #[.slice none 0 0,.slice none 0 0,.slice none 0 0,.bool false,.slice none 0 0] 30)
 have BR:=ag.laid (w.alloc (.cells #[.slice sa sn sG,.slice a1 n1 c1,.slice a2 n2 c2,.bool up,.slice ra rn rc] 30)) [.slice none 0 0,.slice none 0 0,.slice none 0 0,.bool false,.slice none 0 0] 30 (w.heap.size+1) (by simp)
 have bel:=newB (newB (Below.refl w.heap.size w) (.cells #[.slice sa sn sG,.slice a1 n1 c1,.slice a2 n2 c2,.bool up,.slice ra rn rc] 30)) (.cells #[.slice none 0 0,.slice none 0 0,.slice none 0 0,.bool false,.slice none 0 0] 30)
 replace I:=aa (I.keep bel (Nat.le_refl _))
 have gl:=hg.call bel
 subst k2
 replace k3:=aa k3
 replace h:=aa h
 go_enter Tryz.func32,Tryz.ntmps32
 go_upto_region 1 with fail
 generalize World.alloc (World.alloc w _) _=w1 at*
 obtain⟨x0,x1,x2,x3,x4,xl⟩:=BX.c5
 go_wp2_with fail
 go_at_call 39
 refine(c _ gl I.out).mono ?_
 rintro e w2 ⟨a',n',G',la,ln,lG,l,rfl,hP,b2⟩
 clear c
 obtain⟨rfl,IS,_,_,_⟩:=hP.out (by trivial)
 have QL:w.heap.size+1<w2.heap.size:=Nat.lt_of_lt_of_le BR.lt b2.size
 have bq:=newB b2 (.cells #[.slice a' 4 G'] 24)
 have BS:=ag.laid w2 [.slice a' 4 G'] 24 _ rfl
 replace IS:=IS.alloc (.cells #[.slice a' 4 G'] 24)
 replace BX:=BX.keep bq BX.lt
 replace BR:=BR.keep bq BR.lt
 replace I:=aa (I.out.call bq)
 replace bel:=ac bel bq
 clear x0 x1 x2 x3 x4 xl bq b2 hP
 go_upto_region 4 with fail
 generalize w2.heap.size=gS at*
 generalize World.alloc w2 _=w6 at*
 have PF:¬gS=w.heap.size+1:=by omega
 have Pi:¬w.heap.size+1=gS:=by omega
 clear QL
 obtain⟨es,e1,e2,er,_,S1,S2,SR⟩:=I.out
 clear es
 simp only at e1 e2 er S1 S2 SR
 have SS:3<=rc:=by have:=SR.le;rw[List.length_map] at this;have:=k3.out;omega
 have f1:D.safe.length<=140737488355328:=by omega
 have f2:D.wait.length<=140737488355328:=by omega
 have gX:=BX.lt
 have gSl:=BS.lt
 have Yv:=BR.lt
 have x1:w6.cell? ⟨w.heap.size,1,none⟩=some (.slice a1 n1 c1):=BX.cell 1
 have x2:w6.cell? ⟨w.heap.size,2,none⟩=some (.slice a2 n2 c2):=BX.cell 2
 have x3:w6.cell? ⟨w.heap.size,3,none⟩=some (.bool up):=BX.cell 3
 have x4:w6.cell? ⟨w.heap.size,4,none⟩=some (.slice ra rn rc):=BX.cell 4
 have s0:w6.cell? ⟨gS,0,none⟩=some (.slice a' 4 G'):=BS.cell 0
 have cells:∀W,Below w6.heap.size w6 W->W.cell? ⟨w.heap.size,1,none⟩=some (.slice a1 n1 c1)/\W.cell? ⟨w.heap.size,2,none⟩=some (.slice a2 n2 c2)/\W.cell? ⟨w.heap.size,3,none⟩=some (.bool up)/\W.cell? ⟨w.heap.size,4,none⟩=some (.slice ra rn rc)/\W.cell? ⟨gS,0,none⟩=some (.slice a' 4 G'):=fun W hW=>
  ⟨(BX.keep hW BX.lt).cell 1,(BX.keep hW BX.lt).cell 2,(BX.keep hW BX.lt).cell 3,(BX.keep hW BX.lt).cell 4,(BS.keep hW BS.lt).cell 0⟩
 have kU:∀W,Below w6.heap.size w6 W->Calls Tryz.prog 67 #[.slice a1 n1 c1] W fun e w'=>∃b1 G1,e=.returned (.slice b1 n1 G1)/\w'.cell? ⟨w.heap.size,1,none⟩=some (.slice a1 n1 c1)/\w'.cell? ⟨w.heap.size,2,none⟩=some (.slice a2 n2 c2)/\w'.cell? ⟨w.heap.size,3,none⟩=some (.bool up)/\w'.cell? ⟨w.heap.size,4,none⟩=some (.slice ra rn rc)/\w'.cell? ⟨gS,0,none⟩=some (.slice a' 4 G')/\Hid (Sl w' b1 G1 (byteCells D.safe))/\Below w6.heap.size w6 w':=by
  intro W hW
  rw[e1]
  refine(vM a1 c1 D.safe W (S1.call hW) f1).mono ?_
  rintro e w' ⟨v',rfl,o,b⟩
  obtain⟨b1,G1,rfl,s,_⟩:=pd o
  obtain⟨q1,q2,q3,q4,q5⟩:=cells w' (ac hW b)
  rw[e1] at q1
  exact⟨b1,G1,rfl,q1,q2,q3,q4,q5,aa s,ac hW b⟩
 have kV:∀W,Below w6.heap.size w6 W->Calls Tryz.prog 67 #[.slice a2 n2 c2] W fun e w'=>∃b1 G1,e=.returned (.slice b1 n2 G1)/\w'.cell? ⟨w.heap.size,1,none⟩=some (.slice a1 n1 c1)/\w'.cell? ⟨w.heap.size,2,none⟩=some (.slice a2 n2 c2)/\w'.cell? ⟨w.heap.size,3,none⟩=some (.bool up)/\w'.cell? ⟨w.heap.size,4,none⟩=some (.slice ra rn rc)/\w'.cell? ⟨gS,0,none⟩=some (.slice a' 4 G')/\Hid (Sl w' b1 G1 (byteCells D.wait))/\Below W.heap.size W w'/\Below w6.heap.size w6 w':=by
  intro W hW
  rw[e2]
  refine(vM a2 c2 D.wait W (S2.call hW) f2).mono ?_
  rintro e w' ⟨v',rfl,o,b⟩
  obtain⟨b1,G1,rfl,s,_⟩:=pd o
  obtain⟨q1,q2,q3,q4,q5⟩:=cells w' (ac hW b)
  rw[e2] at q2
  exact⟨b1,G1,rfl,q1,q2,q3,q4,q5,aa s,b,ac hW b⟩
 have m6:rn=3:=k3.out
 have pr:rd.length=3:=by rw[<-er];exact m6
 have kI:∀W,Below w6.heap.size w6 W->Calls Tryz.prog 49 #[.slice ra rn rc] W fun e w'=>∃(g3:Nat) (G3:Nat),e=.returned (.slice (some ⟨g3,0,none⟩) rn G3)/\w'.cell? ⟨w.heap.size,1,none⟩=some (.slice a1 n1 c1)/\w'.cell? ⟨w.heap.size,2,none⟩=some (.slice a2 n2 c2)/\w'.cell? ⟨w.heap.size,3,none⟩=some (.bool up)/\w'.cell? ⟨w.heap.size,4,none⟩=some (.slice ra rn rc)/\w'.cell? ⟨gS,0,none⟩=some (.slice a' 4 G')/\
   Hid (∃ys:List Int,ag w' g3 (ys.map (Value.int .i64)) 3/\ys.take 3=rd/\3<=G3/\G3<=9223372036854775807/\W.heap.size<=g3)/\Below W.heap.size W w'/\Hid (ag w' (w.heap.size+1) [.slice none 0 0,.slice none 0 0,.slice none 0 0,.bool false,.slice none 0 0] 30)/\Below w6.heap.size w6 w'/\
   w'.cell? ⟨w.heap.size+1,0,none⟩=some (.slice none 0 0)/\w'.cell? ⟨w.heap.size+1,1,none⟩=some (.slice none 0 0)/\w'.cell? ⟨w.heap.size+1,2,none⟩=some (.slice none 0 0)/\w'.cell? ⟨w.heap.size+1,3,none⟩=some (.bool false)/\w'.cell? ⟨w.heap.size+1,4,none⟩=some (.slice none 0 0)/\
   w'.frozen? ⟨w.heap.size+1,0,none⟩=false/\w'.frozen? ⟨w.heap.size+1,1,none⟩=false/\w'.frozen? ⟨w.heap.size+1,2,none⟩=false/\w'.frozen? ⟨w.heap.size+1,3,none⟩=false/\w'.frozen? ⟨w.heap.size+1,4,none⟩=false/\w.heap.size+1<w'.heap.size:=by
  intro W hW
  have UX:=SR.call hW
  obtain⟨b,off,rfl,_,_⟩:=UX.row.at (by intro e;rw[List.map_eq_nil_iff] at e;rw[e] at pr;simp at pr)
  refine(Jn ⟨b,off,none⟩ rc rd rn W UX.row (by rw[pr,m6]) (by omega) (by omega)).mono ?_
  rintro e w' ⟨g3,G3,ys,rfl,B3,t3,h3,m3,l3,b3⟩
  obtain⟨q1,q2,q3,q4,q5⟩:=cells w' (ac hW b3)
  have wO:=BR.keep (ac hW b3) BR.lt
  exact⟨g3,G3,rfl,q1,q2,q3,q4,q5,aa ⟨ys,B3,by rw[<-m6];exact t3,by omega,m3,l3⟩,b3,aa wO,ac hW b3,wO.cell 0,wO.cell 1,wO.cell 2,wO.cell 3,wO.cell 4,wO.free 0,wO.free 1,wO.free 2,wO.free 3,wO.free 4,wO.lt⟩
 have k0:Below w6.heap.size w6 w6.drew:=ak (Below.refl _ _)
 replace e1:=aa e1
 replace e2:=aa e2
 replace er:=aa er
 replace pr:=aa pr
 replace m6:=aa m6
 replace IS:=aa IS
 replace bel:=aa bel
 clear cells BX BS BR S1 S2 SR I gl f1 f2 gX gSl Yv
 go_region_held3 (fun w'=>w'.cell? ⟨w.heap.size,1,none⟩=some (.slice a1 n1 c1)/\w'.cell? ⟨w.heap.size,2,none⟩=some (.slice a2 n2 c2)/\w'.cell? ⟨w.heap.size,3,none⟩=some (.bool up)/\w'.cell? ⟨w.heap.size,4,none⟩=some (.slice ra rn rc)/\w'.cell? ⟨gS,0,none⟩=some (.slice a' 4 G')) (go_keep)
  (first
   | (go_at_call 49;refine(kI _ zB).mono ?_;rintro e wC ⟨g3,G3,rfl,t1,t2,t3,t4,t5,TC,bC,Fv,zC,y0,y1,y2,y3,y4,f0,f1,f2,f3,f4,yl⟩)
   | (go_at_call 67;refine(kV _ zA).mono ?_;rintro e wB ⟨b2,G2,rfl,r1,r2,r3,r4,r5,TB,bB,zB⟩)
   | (go_at_call 67;refine(kU _ k0).mono ?_;rintro e wA ⟨b1,G1,rfl,q1,q2,q3,q4,q5,TA,zA⟩))
 all_goals(
  have Vu:=IS.out.call zC
  have Xe:=(TA.out.call bB).call bC
  have Vl:=TB.out.call bC
  obtain⟨ys,B3,t3,h3,m3,l3⟩:=TC.out
  have B0:=Fv.out
  have lz:=zB.size
  have B9:=fA B0 (.slice a' 4 G') (.slice b1 n1 G1) (.slice b2 n2 G2) (.bool up) (.slice (some ⟨g3,0,none⟩) rn G3)
  have aq:=dP (ac bel.out zC) (Nat.le_succ _) (.slice a' 4 G') (.slice b1 n1 G1) (.slice b2 n2 G2) (.bool up) (.slice (some ⟨g3,0,none⟩) rn G3)
  have gr:=al (al (al (al (al (au wC (some (w.heap.size+1))) 0 (.slice a' 4 G')) 1 (.slice b1 n1 G1)) 2 (.slice b2 n2 G2)) 3 (.bool up)) 4 (.slice (some ⟨g3,0,none⟩) rn G3)
  have WL:Sl wC (some ⟨g3,0,none⟩) G3 (rd.map (Value.int .i64)):=by
   refine⟨B3.row 0 _ (fun j u hu=>?_),by rw[List.length_map,pr.out];exact h3,m3,fun e=>by cases e⟩
   rw[Nat.zero_add]
   rw[<-t3,List.map_take,List.getElem?_take] at hu
   split at hu
   .exact hu
   cases hu
  have WB:=aa (ix.wrote (Q:=fun _=>False) (h:=g3) (p:=⟨a',4,G',b1,n1,G1,b2,n2,G2,some ⟨g3,0,none⟩,rn,G3⟩) (ys:=ys) (x:=⟨C,D,up,rd⟩) B0 gr B9
   ⟨(bZ (i6 h.out)).symm,e1.out,e2.out,er.out,Vu,Xe,Vl,WL⟩ ((cu.old IS.out (P:=fun q=>q=g3\/False) (fun q hq=>by rcases hq with rfl|h;omega;exact h.elim)).call zC) h.out rfl B3 t3 h3)
  have WX:Hid (w.heap.size<=g3):=aa (by have:=bel.out.size;omega)
  obtain⟨i0,i1,i2,i3,i4,-⟩:=B9.c5
  clear Vu Xe Vl WL gr B9 B3 t3 h3 m3 l3 Fv B0
  go_wp2_with fail
  exact bodyPost_ret (v:=.tuple #[.agg #[.slice a' 4 G',.slice b1 n1 G1,.slice b2 n2 G2,.bool up,.slice (some ⟨g3,0,none⟩) rn G3],.int .i64 0]) (by simp[results,Tryz.results32,go_sem,i0,i1,i2,i3,i4]) rfl ⟨g3,_,ys,rfl,WB.out.v,WX.out,aq⟩)
def iB (x:Wd)(r:Rc):Int:=if bJ x.c r≠0 then bJ x.c r else dX x.d r
def Rz (W:World)(x:Wd)(r:Rc)(e:Ending)(w':World):Prop:=
 ∃(a':Option Addr) (n' G':Nat) (b1:Option Addr) (m1 k1:Nat) (b2:Option Addr) (m2 k2:Nat),e=.returned (.tuple #[.agg #[.slice a' n' G'],.agg #[.slice b1 m1 k1,.slice b2 m2 k2],.int .i64 (iB x r)])/\
  Hid (iB x r=0->n'=4/\eP W.heap.size w' a' G' (dH x.c r)/\m1=(cU x.d r).safe.length/\m2=(cU x.d r).wait.length/\Sl w' b1 k1 (byteCells (cU x.d r).safe)/\Sl w' b2 k2 (byteCells (cU x.d r).wait))/\Below W.heap.size W w'
theorem Ca {W w':World}{x:Wd}{r:Rc}{E:Int}(hE:iB x r=E)(h0:E≠0)(b:Below W.heap.size W w'):Rz W x r (.returned (.tuple #[.agg #[.slice none 0 0],.agg #[.slice none 0 0,.slice none 0 0],.int .i64 E])) w':=
 ⟨none,0,0,none,0,0,none,0,0,by rw[hE],aa (fun h=>absurd (hE.symm.trans h) h0),b⟩
theorem eP.setD {base:Nat}{w:World}{a:Option Addr}{G g i:Nat}{C:List Rw}{a1 a2:Option Addr}{n1 n2 c1 c2:Nat}{u:Value}(h:eP base w a G C)(h4:C.length=4)(B:ag w g [.slice a1 n1 c1,.slice a2 n2 c2] 27):eP base (w.setCell ⟨g,i,none⟩ u) a G C:=by
 obtain⟨rs,rfl,s,l⟩:=h.ex
 rw[List.length_map] at h4
 have gr:=al (au w (some g)) i u
 have hl:=av Lr.two rs
 refine⟨rs,rfl,⟨⟨s.sl.row.off gr (s.sl.row.offLong B (by rw[hl,h4];simp)),s.sl.le,s.sl.max,s.sl.nil⟩,fun r hr=>(s.good r hr).offSl gr B ?_⟩,l⟩
 intro v hv
 simp only[List.mem_cons,List.not_mem_nil,or_false] at hv
 rcases hv with rfl|rfl<;>exact⟨_,_,_,rfl⟩
theorem zi (x:Wd)(r:Rc)(p:Pw)(ea:Option Addr)(en eC:Nat)(w:World)(hg:Gl w)(I:dE w p x)(h:dw x=0)(s3:be ec w ea eC r.e)(h3:Hid (en=r.e.length)):
  Calls Tryz.prog 107 #[p.val x.up,.agg #[.int .i64 r.k,.int .i64 r.s,.int .i64 r.n,.slice ea en eC]] w (Rz w x r):=by
 obtain⟨k1,k2,k3⟩:=ph I h
 clear k3
 obtain⟨es,e1,e2,er,IS,S1,S2,SR⟩:=I
 have T6:Hid (iB x r=if bJ x.c r≠0 then bJ x.c r else dX x.d r):=aa rfl
 obtain⟨dn,ck⟩:∃d,Hid (d=(dH x.c r).length):=⟨_,aa rfl⟩
 have cN:=fun W y t=>BU x.c r p.sa ea p.sG eC en p.sn dn W y t h3 (aa es) ck
 have cP:=fun W g s t u=>Kp x.d r p.a1 p.a2 ea p.c1 p.c2 eC p.n1 p.n2 en W g s t u e1 e2 h3.out (by omega)
 obtain⟨sa,sn,sG,a1,n1,c1,a2,n2,c2,ra,rn,rc⟩:=p
 obtain⟨C,D,up,rd⟩:=x
 simp only[Pw.val] at*
 clear es e1 e2 er SR h
 subst k2
 have BX:=(((ag.laid w [.slice sa 4 sG,.slice a1 n1 c1,.slice a2 n2 c2,.bool up,.slice ra rn rc] 30 _ rfl).alc (.cells #[.int .i64 r.k,.int .i64 r.s,.int .i64 r.n,.slice ea en eC] 73)).alc (.cells #[.slice none 0 0] 24)).alc (.cells #[.slice none 0 0,.slice none 0 0] 27)
 have BQ:=((ag.laid (w.alloc (.cells #[.slice sa 4 sG,.slice a1 n1 c1,.slice a2 n2 c2,.bool up,.slice ra rn rc] 30)) [.int .i64 r.k,.int .i64 r.s,.int .i64 r.n,.slice ea en eC] 73 (w.heap.size+1) (by simp)).alc (.cells #[.slice none 0 0] 24)).alc (.cells #[.slice none 0 0,.slice none 0 0] 27)
 have BS:=(ag.laid ((w.alloc (.cells #[.slice sa 4 sG,.slice a1 n1 c1,.slice a2 n2 c2,.bool up,.slice ra rn rc] 30)).alloc (.cells #[.int .i64 r.k,.int .i64 r.s,.int .i64 r.n,.slice ea en eC] 73)) [.slice none 0 0] 24 (w.heap.size+1+1) (by simp)).alc (.cells #[.slice none 0 0,.slice none 0 0] 27)
 have BD:=ag.laid (((w.alloc (.cells #[.slice sa 4 sG,.slice a1 n1 c1,.slice a2 n2 c2,.bool up,.slice ra rn rc] 30)).alloc (.cells #[.int .i64 r.k,.int .i64 r.s,.int .i64 r.n,.slice ea en eC] 73)).alloc (.cells #[.slice none 0 0] 24)) [.slice none 0 0,.slice none 0 0] 27 (w.heap.size+1+1+1) (by simp)
 have bel:=newB (newB (newB (newB (Below.refl w.heap.size w) (.cells #[.slice sa 4 sG,.slice a1 n1 c1,.slice a2 n2 c2,.bool up,.slice ra rn rc] 30)) (.cells #[.int .i64 r.k,.int .i64 r.s,.int .i64 r.n,.slice ea en eC] 73)) (.cells #[.slice none 0 0] 24)) (.cells #[.slice none 0 0,.slice none 0 0] 27)
 replace IS:=IS.keep bel (Nat.le_refl _)
 replace S1:=S1.keep bel (Nat.le_refl _)
 replace S2:=S2.keep bel (Nat.le_refl _)
 replace s3:=s3.keep bel (Nat.le_refl _)
 have gl:=hg.call bel
 obtain⟨gS,Nk⟩:∃g,g=w.heap.size+1+1:=⟨_,rfl⟩
 obtain⟨gD,Oj⟩:∃g,g=w.heap.size+1+1+1:=⟨_,rfl⟩
 rw[<-Nk] at BS
 rw[<-Oj] at BD
 have zP:w.heap.size<=gS:=by omega
 have RO:w.heap.size<=gD:=by omega
 have RV:gS≠gD:=by omega
 have Ll:gD≠gS:=by omega
 obtain⟨K,S,N,L⟩:=r
 simp only at*
 go_enter Tryz.func107,Tryz.ntmps107
 go_upto_region 1 with fail
 rw[<-Oj,<-Nk]
 generalize World.alloc (World.alloc (World.alloc (World.alloc w _) _) _) _=w1 at*
 clear Nk Oj
 have x0:=BX.cell 0
 have xl:=BX.lt
 obtain⟨z0,z1,z2,z3,zl⟩:=BQ.c4
 go_wp2_with fail
 go_at_call 90
 refine((cN _ IS s3).mono fun _ _ h=>xG h).mono ?_
 rintro e w2 ⟨aN,GN,rfl,BN,IN,b2,JU⟩
 clear cN x0 xl z0 z1 z2 z3 zl IS
 have lS2:gS<w2.heap.size:=Nat.lt_of_lt_of_le BS.lt JU
 have lD2:gD<w2.heap.size:=Nat.lt_of_lt_of_le BD.lt JU
 replace IN:=IN.down bel.size
 replace BX:=BX.keep b2 BX.lt
 replace BQ:=BQ.keep b2 BQ.lt
 replace BS:=BS.keep b2 BS.lt
 replace BD:=BD.keep b2 BD.lt
 replace S1:=S1.call b2
 replace S2:=S2.call b2
 replace s3:=s3.call b2
 replace gl:=gl.call b2
 replace bel:=ac bel b2
 clear b2
 by_cases hN:bJ C ⟨K,S,N,L⟩=0
 .have kh:=T6.out
  rw[if_neg (by simp[hN])] at kh
  replace kh:=aa kh
  obtain rfl:dn=4:=by rw[ck.out];exact bZ (gV hN)
  have h4:=aa (bZ (gV hN))
  rw[hN]
  clear T6 hN
  go_upto_region 4 with fail
  generalize w2.heap.size=gN at*
  generalize World.alloc w2 _=w3 at*
  have x1:=BX.cell 1
  have x2:=BX.cell 2
  have xl:=BX.lt
  obtain⟨z0,z1,z2,z3,zl⟩:=BQ.c4
  go_wp2_with fail
  go_at_call 138
  refine(cP _ gl S1 S2 s3).mono ?_
  rintro e w4 ⟨p1,p2,q1,q2,u1,u2,rfl,pG,pA,t1,t2,b5⟩
  have lS4:gS<w4.heap.size:=Nat.lt_of_lt_of_le BS.lt b5.size
  have lD4:gD<w4.heap.size:=Nat.lt_of_lt_of_le BD.lt b5.size
  have b4:=newB b5 (.cells #[.slice p1 q1 u1,.slice p2 q2 u2] 27)
  have DP:Nc (w4.alloc (.cells #[.slice p1 q1 u1,.slice p2 q2 u2] 27)) w4.heap.size p1 q1 u1 p2 q2 u2 (cU D ⟨K,S,N,L⟩):=⟨ag.laid w4 [.slice p1 q1 u1,.slice p2 q2 u2] _ _ rfl,pG,pA,t1.alloc _,t2.alloc _⟩
  clear pG pA t1 t2 b5
  clear x1 x2 xl z0 z1 z2 z3 zl cP gl S1 S2 s3 BX BQ
  replace BN:=BN.keep b4 BN.lt
  replace BS:=BS.keep b4 BS.lt
  replace BD:=BD.keep b4 BD.lt
  replace IN:=IN.call b4
  replace bel:=ac bel b4
  clear b4
  by_cases hP:dX D ⟨K,S,N,L⟩=0
  .have PT:=kh.out
   rw[hP] at PT
   replace PT:=aa PT
   rw[hP]
   clear kh hP
   go_upto_region 7 with fail
   generalize w4.heap.size=gP at*
   generalize World.alloc w4 _=w5 at*
   obtain⟨PB,pG,pA,T1,T2⟩:=DP
   have a1:¬gP=gS:=by omega
   have a2:¬gS=gP:=by omega
   have a3:¬gP=gD:=by omega
   have a4:¬gD=gP:=by omega
   have a5:¬gN=gS:=by omega
   have a6:¬gS=gN:=by omega
   have a7:¬gN=gD:=by omega
   have a8:¬gD=gN:=by omega
   replace pG:=aa pG
   replace pA:=aa pA
   have n0:w5.cell? ⟨gN,0,none⟩=some (.slice aN 4 GN):=BN.cell 0
   have nl:=BN.lt
   have d0:w5.cell? ⟨gP,0,none⟩=some (.slice p1 q1 u1):=PB.cell 0
   have d1:w5.cell? ⟨gP,1,none⟩=some (.slice p2 q2 u2):=PB.cell 1
   have dl:=PB.lt
   have y0:=BS.cell 0
   have yf:=BS.free 0
   have yl:=BS.lt
   have v0:=BD.cell 0
   have v1:=BD.cell 1
   have Vv:=BD.free 0
   have Xr:=BD.free 1
   have vl:=BD.lt
   have B7:=BS.set 0 (.slice aN 4 GN)
   have I7:=IN.boxed BS (.slice aN 4 GN)
   have D7:ag (w5.setCell ⟨gS,0,none⟩ (.slice aN 4 GN)) gD [.slice none 0 0,.slice none 0 0] 27:=BD.other 0 _ RV
   have WQ:=dA T1 BS (by simp) (al (au w5 (some gS)) 0 (.slice aN 4 GN))
   have Va:=dA T2 BS (by simp) (al (au w5 (some gS)) 0 (.slice aN 4 GN))
   have B9:=(B7.other (g':=gD) 0 (.slice p1 q1 u1) Ll).other (g':=gD) 1 (.slice p2 q2 u2) Ll
   have D9:=fZ D7 (.slice p1 q1 u1) (.slice p2 q2 u2)
   have yh:=al (al (au (w5.setCell ⟨gS,0,none⟩ (.slice aN 4 GN)) (some gD)) 0 (.slice p1 q1 u1)) 1 (.slice p2 q2 u2)
   have I8:=I7.setD h4.out D7 (i:=0) (u:=.slice p1 q1 u1)
   have I9:=I8.setD h4.out (D7.set 0 (.slice p1 q1 u1)) (i:=1) (u:=.slice p2 q2 u2)
   have Ss:=dA WQ D7 (by simp) yh
   have T7:=dA Va D7 (by simp) yh
   have aq:=dt (bel.setCell (p:=⟨gS,0,none⟩) zP (.slice aN 4 GN)) RO (.slice p1 q1 u1) (.slice p2 q2 u2)
   have i0:=B9.cell 0
   have j0:=D9.cell 0
   have j1:=D9.cell 1
   replace I9:=aa I9
   replace Ss:=aa Ss
   replace T7:=aa T7
   clear I7 I8 WQ Va B7 D7 yh IN T1 T2 BN PB B9 D9 bel
   go_region
   all_goals(
    go_wp2_with fail
    exact bodyPost_ret (v:=.tuple #[.agg #[.slice aN 4 GN],.agg #[.slice p1 q1 u1,.slice p2 q2 u2],.int .i64 0]) (by simp[results,Tryz.results107,go_sem,i0,j0,j1]) rfl ⟨aN,4,GN,p1,q1,u1,p2,q2,u2,by rw[PT.out],aa (fun _=>⟨rfl,I9.out.call (ak (Below.refl _ _)),pG.out,pA.out,Ss.out.call (ak (Below.refl _ _)),T7.out.call (ak (Below.refl _ _))⟩),ak aq⟩)
  have hP':decide (dX D ⟨K,S,N,L⟩=0)=false:=decide_eq_false hP
  generalize dX D ⟨K,S,N,L⟩=E at*
  go_upto_region 6 with fail
  generalize World.alloc w4 _=w5 at*
  have y0:=BS.cell 0
  have yf:=BS.free 0
  have yl:=BS.lt
  have v0:=BD.cell 0
  have v1:=BD.cell 1
  have Vv:=BD.free 0
  have Xr:=BD.free 1
  have vl:=BD.lt
  have B9:=((BS.set 0 (.slice none 0 0)).other (g':=gD) 0 (.slice none 0 0) Ll).other (g':=gD) 1 (.slice none 0 0) Ll
  have D9:=fZ (BD.other (g':=gS) 0 (.slice none 0 0) RV) (.slice none 0 0) (.slice none 0 0)
  have aq:=dt (bel.setCell (p:=⟨gS,0,none⟩) zP (.slice none 0 0)) RO (.slice none 0 0) (.slice none 0 0)
  have i0:=B9.cell 0
  have j0:=D9.cell 0
  have j1:=D9.cell 1
  clear B9 D9
  go_wp2_with fail
  exact bodyPost_ret (v:=.tuple #[.agg #[.slice none 0 0],.agg #[.slice none 0 0,.slice none 0 0],.int .i64 E]) (by simp[results,Tryz.results107,go_sem,i0,j0,j1]) rfl (Ca kh.out hP aq)
 have kh:=T6.out
 rw[if_pos hN] at kh
 have Mx:decide (bJ C ⟨K,S,N,L⟩=0)=false:=decide_eq_false hN
 generalize bJ C ⟨K,S,N,L⟩=E at*
 replace kh:=aa kh
 go_upto_region 3 with fail
 generalize World.alloc w2 _=w3 at*
 have y0:=BS.cell 0
 have yf:=BS.free 0
 have yl:=BS.lt
 have v0:=BD.cell 0
 have v1:=BD.cell 1
 have Vv:=BD.free 0
 have Xr:=BD.free 1
 have vl:=BD.lt
 have B9:=((BS.set 0 (.slice none 0 0)).other (g':=gD) 0 (.slice none 0 0) Ll).other (g':=gD) 1 (.slice none 0 0) Ll
 have D9:=fZ (BD.other (g':=gS) 0 (.slice none 0 0) RV) (.slice none 0 0) (.slice none 0 0)
 have aq:=dt (bel.setCell (p:=⟨gS,0,none⟩) zP (.slice none 0 0)) RO (.slice none 0 0) (.slice none 0 0)
 have i0:=B9.cell 0
 have j0:=D9.cell 0
 have j1:=D9.cell 1
 clear B9 D9
 go_wp2_with fail
 exact bodyPost_ret (v:=.tuple #[.agg #[.slice none 0 0],.agg #[.slice none 0 0,.slice none 0 0],.int .i64 E]) (by simp[results,Tryz.results107,go_sem,i0,j0,j1]) rfl (Ca kh.out hN aq)
end Go.Proofs.YtoonnbhoiocoeaaGreatDoor
