/-
  rainbookref.PointsOf: what it answers, whatever it is handed; nothing that was there is written.
-/
import Derived.Test.YtoonnbhoiocoeaaGreatDoorHQRefUnpack
set_option maxHeartbeats 40000000
set_option maxRecDepth 100000
set_option linter.unusedVariables false
namespace Go.Proofs.YtoonnbhoiocoeaaGreatDoor
open Go.RowKit
theorem xV (b:Bk)(ao:Option Addr)(cap:Nat)(w:World)(hr:Sl w ao cap (b.bits.map Value.bool))(hl:b.bits.length<=140737488355328)(h:¬fL b.bits b.n=0):
  Calls Tryz.prog 61 #[ej b ao cap] w fun e w'=>e=.returned (.tuple #[.slice none 0 0,.int .i64 (fL b.bits b.n)])/\Below w.heap.size w w':=by
 have c1:=fun W h=>mI ao cap b.bits b.n W h
 obtain⟨N,fr,tT,X⟩:=b
 unfold ej
 simp only at*
 generalize dS X N=U at*
 generalize fL X N=E at*
 clear hl
 have hz:(E==0)=false:=by simpa using h
 go_enter Tryz.func61,Tryz.ntmps61
 go_wp2_with fail
 go_at_call 103
 refine(c1 _ (hr.alloc _)).mono ?_
 rintro e w1 ⟨a1,G1,rfl,s1,b1⟩
 have bel:=ac ((Below.refl _ _).alloc (Nat.le_refl _) _) b1
 clear c1 b1
 go_wp2_with fail
 go_quiet (fail)
 go_wp2_with fail
 go_ret2
 exact⟨rfl,bt bel _⟩
theorem ww (b:Bk)(ao:Option Addr)(cap:Nat)(w:World)(hr:Sl w ao cap (b.bits.map Value.bool))(hl:b.bits.length<=140737488355328)(h:fL b.bits b.n=0)(h0:(dS b.bits b.n).length=0):
  Calls Tryz.prog 61 #[ej b ao cap] w fun e w'=>e=.returned (.tuple #[.slice none 0 0,.int .i64 4])/\Below w.heap.size w w':=by
 have c1:=fun W h=>mI ao cap b.bits b.n W h
 obtain⟨N,fr,tT,X⟩:=b
 unfold ej
 simp only at*
 rw[h,h0] at c1
 generalize dS X N=U at*
 clear hl h h0
 go_enter Tryz.func61,Tryz.ntmps61
 go_wp2_with fail
 go_at_call 103
 refine(c1 _ (hr.alloc _)).mono ?_
 rintro e w1 ⟨a1,G1,rfl,s1,b1⟩
 have bel:=ac ((Below.refl _ _).alloc (Nat.le_refl _) _) b1
 clear c1 b1
 go_wp2_with fail
 go_quiet (fail)
 go_wp2_with fail
 go_ret2
 exact⟨rfl,bt bel _⟩
theorem pP (b:Bk)(ao:Option Addr)(cap:Nat)(w:World)(hr:Sl w ao cap (b.bits.map Value.bool))(hl:b.bits.length<=140737488355328)(h:fL b.bits b.n=0)(h0:0<(dS b.bits b.n).length):
  Calls Tryz.prog 61 #[ej b ao cap] w fun e w'=>∃a' G,e=.returned (.tuple #[if ku b (dS b.bits b.n)=true then .slice a' (dS b.bits b.n).length G else .slice none 0 0,.int .i64 (if ku b (dS b.bits b.n)=true then 0 else 4)])/\aV w' a' G (dS b.bits b.n)/\Below w.heap.size w w':=by
 have c1:=fun W h=>mI ao cap b.bits b.n W h
 have mw:=oS b.bits b.n
 obtain⟨N,fr,tT,X⟩:=b
 unfold ej ku
 simp only at*
 rw[h] at c1
 generalize dS X N=U at*
 have s0:=fun W b off cap (h:aV W (some ⟨b,off,none⟩) cap U)=>h.first h0
 have s1:=fun W b off cap (h:aV W (some ⟨b,off,none⟩) cap U)=>h.last h0
 have aF:U≠[]:=by intro e;rw[e] at h0;simp at h0
 generalize firstT U=P at*
 generalize lE U=Q at*
 obtain⟨n,hn⟩:∃n,n+1=U.length:=⟨U.length-1,by omega⟩
 rw[<-hn] at c1 s1 mw⊢
 simp only[Nat.add_sub_cancel] at s1
 clear hl h h0 hn
 have fin:decide (0<n+1/\fr=P/\tT=Q)=decide (fr=P/\tT=Q):=by simp
 rw[fin]
 clear fin
 have hz:((n:Int)+1==0)=false:=by simp;omega
 by_cases g1:fr=P
 .subst g1
  by_cases g2:tT=Q
  .subst g2
   rw[show decide (fr=fr/\tT=tT)=true by simp]
   simp only[if_true]
   go_enter Tryz.func61,Tryz.ntmps61
   go_wp2_with fail
   go_at_call 103
   refine(c1 _ (hr.alloc _)).mono ?_
   rintro e w1 ⟨a1,G1,rfl,t1,b1⟩
   have B0:=(ag.laid w [.int .i64 N,.int .i64 fr,.int .i64 tT,.slice ao X.length cap] 107 _ rfl).keep b1 (by simp)
   have bel:=ac ((Below.refl _ _).alloc (Nat.le_refl _) _) b1
   obtain⟨ub,uo,rfl,M0⟩:=t1.where aF
   have e0:=s0 _ _ _ _ t1
   have e1:=s1 _ _ _ _ t1
   have d1:w1.cell? ⟨w.heap.size,1,none⟩=some (.int .i64 fr):=B0.cell 1
   have d2:w1.cell? ⟨w.heap.size,2,none⟩=some (.int .i64 tT):=B0.cell 2
   have jF:=B0.lt
   clear c1 b1 s0 s1
   go_wp2_with fail
   go_region
   go_wp2_with fail
   go_ret2
   exact⟨_,_,rfl,t1.drewS,ak bel⟩
  rw[show decide (fr=fr/\tT=Q)=false by simp[g2]]
  simp only[Bool.false_eq_true,if_false]
  go_enter Tryz.func61,Tryz.ntmps61
  go_wp2_with fail
  go_at_call 103
  refine(c1 _ (hr.alloc _)).mono ?_
  rintro e w1 ⟨a1,G1,rfl,t1,b1⟩
  have B0:=(ag.laid w [.int .i64 N,.int .i64 fr,.int .i64 tT,.slice ao X.length cap] 107 _ rfl).keep b1 (by simp)
  have bel:=ac ((Below.refl _ _).alloc (Nat.le_refl _) _) b1
  obtain⟨ub,uo,rfl,M0⟩:=t1.where aF
  have e0:=s0 _ _ _ _ t1
  have e1:=s1 _ _ _ _ t1
  have d1:w1.cell? ⟨w.heap.size,1,none⟩=some (.int .i64 fr):=B0.cell 1
  have d2:w1.cell? ⟨w.heap.size,2,none⟩=some (.int .i64 tT):=B0.cell 2
  have jF:=B0.lt
  clear c1 b1 s0 s1
  go_wp2_with fail
  go_region
  go_wp2_with fail
  go_ret2
  exact⟨_,_,rfl,t1.drewS,ak bel⟩
 rw[show decide (fr=P/\tT=Q)=false by simp[g1]]
 simp only[Bool.false_eq_true,if_false]
 go_enter Tryz.func61,Tryz.ntmps61
 go_wp2_with fail
 go_at_call 103
 refine(c1 _ (hr.alloc _)).mono ?_
 rintro e w1 ⟨a1,G1,rfl,t1,b1⟩
 have B0:=(ag.laid w [.int .i64 N,.int .i64 fr,.int .i64 tT,.slice ao X.length cap] 107 _ rfl).keep b1 (by simp)
 have bel:=ac ((Below.refl _ _).alloc (Nat.le_refl _) _) b1
 obtain⟨ub,uo,rfl,M0⟩:=t1.where aF
 have e0:=s0 _ _ _ _ t1
 have e1:=s1 _ _ _ _ t1
 have d1:w1.cell? ⟨w.heap.size,1,none⟩=some (.int .i64 fr):=B0.cell 1
 have d2:w1.cell? ⟨w.heap.size,2,none⟩=some (.int .i64 tT):=B0.cell 2
 have jF:=B0.lt
 clear c1 b1 s0 s1
 go_wp2_with fail
 go_quiet (fail)
 go_wp2_with fail
 go_ret2
 exact⟨_,_,rfl,t1.drewN _,bt bel _⟩
theorem gp (b:Bk)(ao:Option Addr)(cap:Nat)(w:World)(hr:Sl w ao cap (b.bits.map Value.bool))(hl:b.bits.length<=140737488355328):
  Calls Tryz.prog 61 #[ej b ao cap] w fun e w'=>∃a' G,e=.returned (.tuple #[.slice a' (bi b).length G,.int .i64 (bP b)])/\aV w' a' G (bi b)/\Below w.heap.size w w':=by
 by_cases h:fL b.bits b.n=0
 .by_cases h0:(dS b.bits b.n).length=0
  .have hf:ku b (dS b.bits b.n)=false:=decide_eq_false (by omega)
   have he:bP b=4:=by unfold bP;rw[if_pos h,hf];rfl
   have hL:bi b=[]:=by unfold bi;rw[he];rfl
   rw[he,hL]
   refine(ww b ao cap w hr hl h h0).mono ?_
   rintro e w' ⟨rfl,hb⟩
   exact⟨none,0,rfl,aV.ofNil _,hb⟩
  cases hf:ku b (dS b.bits b.n) with
  |true=>
   have he:bP b=0:=by unfold bP;rw[if_pos h,hf];rfl
   have hL:bi b=dS b.bits b.n:=by unfold bi;rw[he];rfl
   rw[he,hL]
   refine(pP b ao cap w hr hl h (by omega)).mono ?_
   rw[hf]
   rintro e w' ⟨a',G,rfl,hs,hb⟩
   exact⟨a',G,rfl,hs,hb⟩
  |false=>
   have he:bP b=4:=by unfold bP;rw[if_pos h,hf];rfl
   have hL:bi b=[]:=by unfold bi;rw[he];rfl
   rw[he,hL]
   refine(pP b ao cap w hr hl h (by omega)).mono ?_
   rw[hf]
   rintro e w' ⟨a',G,rfl,hs,hb⟩
   exact⟨none,0,rfl,aV.ofNil _,hb⟩
 have he:bP b=fL b.bits b.n:=if_neg h
 have hL:bi b=[]:=by unfold bi;rw[he,if_neg h]
 rw[he,hL]
 refine(xV b ao cap w hr hl h).mono ?_
 rintro e w' ⟨rfl,hb⟩
 exact⟨none,0,rfl,aV.ofNil _,hb⟩
theorem CJ (r:Lr)(w:World)(h:8<r.bs.length)(hf:r.bs.length<=140737488355328):
  Calls Tryz.prog 20 #[r.v] w fun e w'=>e=.returned (.tuple #[.slice none 0 0,.int .i64 2])/\Below w.heap.size w w':=by
 obtain⟨bs,ba,bc,hd,ha,hc⟩:=r
 unfold Lr.v
 simp only at*
 generalize bs.length=n at*
 generalize hd.length=m at*
 have h':(8:Int)<n:=by omega
 go_enter Tryz.func20,Tryz.ntmps20
 go_wp2_with fail
 go_ret2
 exact⟨rfl,(Below.refl _ _).alloc (Nat.le_refl _) _⟩
theorem Fi (r:Lr)(w:World)(hg:r.Good w)(h:r.bs.length<=8):
  Calls Tryz.prog 20 #[r.v] w fun e w'=>∃a' G,e=.returned (.tuple #[.slice a' (qK r.rw).length G,.int .i64 (dV r.rw)])/\aV w' a' G (qK r.rw)/\Below w.heap.size w w':=by
 obtain⟨L,hL⟩:∃L,L=qK r.rw:=⟨_,rfl⟩
 obtain⟨E,hE⟩:∃E,E=dV r.rw:=⟨_,rfl⟩
 rw[<-hL,<-hE]
 have ll:E=if bU (r.bs.map Lb.b)=0 then aH (dp (r.bs.map Lb.b)++r.hd) else bU (r.bs.map Lb.b):=by
  rw[hE];unfold dV;rw[if_neg (by unfold Lr.rw;simp only[List.length_map];omega)];rfl
 have Ma:L=if E=0 then dp (r.bs.map Lb.b)++r.hd else []:=by rw[hL];unfold qK;rw[<-hE];rfl
 clear hL hE
 obtain⟨bs,ba,bc,hd,ha,hc⟩:=r
 obtain⟨sb,sh,-,hfew⟩:=hg
 unfold Lr.v
 simp only at*
 obtain⟨n,hn⟩:∃n,n=bs.length:=⟨_,rfl⟩
 obtain⟨m,hm⟩:∃m,m=hd.length:=⟨_,rfl⟩
 rw[<-hn] at h⊢
 rw[<-hm] at hfew⊢
 have h':(n:Int)<=8:=by omega
 replace hn:=aa hn
 replace hm:=aa hm
 have H0:Hid (E=if bU ((bs.drop 0).map Lb.b)=0 then aH (([]++dp ((bs.drop 0).map Lb.b))++hd) else bU ((bs.drop 0).map Lb.b)):=by rw[List.drop_zero,List.nil_append];exact ll
 have H1:Hid (L=if E=0 then([]++dp ((bs.drop 0).map Lb.b))++hd else []):=by rw[List.drop_zero,List.nil_append];exact Ma
 clear ll Ma
 obtain⟨i0,hi,bK,bm,bQ⟩:=info_parts kL
 go_enter Tryz.func20,Tryz.ntmps20
 go_wp2_with fail
 have B0:=ag.laid w [.slice ba n bc,.slice ha m hc] 53 _ rfl
 have cq:Below w.heap.size w (w.alloc (.cells #[.slice ba n bc,.slice ha m hc] 53)):=(Below.refl _ _).alloc (Nat.le_refl _) _
 generalize w.alloc _=w1 at*
 go_loopw [17,4] (fun i o wr=>∃(k G:Nat) (a':Option Addr) (O:List Pt),k<=n/\i=.int .i64 k/\o=.slice a' O.length G/\O.length<=40*k/\wr.ownsRow (w.heap.size+1) 56 2 (.slice a' O.length G) O.length (ar O)/\
   Hid (E=if bU ((bs.drop k).map Lb.b)=0 then aH ((O++dp ((bs.drop k).map Lb.b))++hd) else bU ((bs.drop k).map Lb.b))/\Hid (L=if E=0 then(O++dp ((bs.drop k).map Lb.b))++hd else [])/\
   ag wr w.heap.size [.slice ba n bc,.slice ha m hc] 53/\Below w.heap.size w wr) (fun i _ _=>n-(intOf i).toNat)
 case atStart=>exact⟨0,0,none,[],by omega,rfl,rfl,by simp,World.ownsRow_nil _ _ _ _,H0,H1,B0,cq⟩
 case round=>
  clear H0 H1 B0 cq
  obtain⟨k,G,a',O,hk,rfl,rfl,hO,own,H0,H1,B,bel⟩:=hrel
  by_cases aE:k<n
  .have hs:=sb.keep bel (Nat.le_refl _)
   obtain⟨b,off,rfl,ld⟩:=hs.where (by intro e;rw[hn.out,e] at aE;simp at aE)
   obtain⟨x,hx⟩:∃x,bs[k]? =some x:=⟨_,List.getElem?_eq_getElem (by rw[<-hn.out];exact aE)⟩
   obtain⟨e0,e1,e2,e3,gx⟩:=hs.at k x hx
   have hd:bs.drop k=x::bs.drop (k+1):=by
    obtain⟨fC,rfl⟩:=List.getElem?_eq_some_iff.1 hx
    exact List.drop_eq_getElem_cons fC
   have aJ:=H0.out
   have eQ:=H1.out
   rw[hd,List.map_cons] at aJ eQ
   clear H0 H1 hd hx
   obtain⟨⟨xn,xf,xT,X⟩,xa,xc⟩:=x
   obtain⟨gb,gf⟩:=gx
   simp only at*
   have c1:=fun W h=>gp ⟨xn,xf,xT,X⟩ xa xc W h gf
   have pl:=i' ⟨xn,xf,xT,X⟩
   by_cases hp:bP ⟨xn,xf,xT,X⟩=0
   .have pp:=jb hp
    rw[bU,if_pos hp,show dp (⟨xn,xf,xT,X⟩::(bs.drop (k+1)).map Lb.b)=bi ⟨xn,xf,xT,X⟩++dp ((bs.drop (k+1)).map Lb.b) from rfl,<-List.append_assoc] at aJ
    rw[show dp (⟨xn,xf,xT,X⟩::(bs.drop (k+1)).map Lb.b)=bi ⟨xn,xf,xT,X⟩++dp ((bs.drop (k+1)).map Lb.b) from rfl,<-List.append_assoc] at eQ
    rw[hp] at c1
    generalize bi ⟨xn,xf,xT,X⟩=P at*
    replace aJ:=aa aJ
    replace eQ:=aa eQ
    have CY:=aI P
    have Tg:=fU P
    have RH:P≠[]:=by intro e;rw[e] at pp;simp at pp
    have tf:(O++P).length=O.length+P.length:=List.length_append
    have mP:=dF O P
    obtain⟨on,qt⟩:∃on,on=O.length:=⟨_,rfl⟩
    obtain⟨pn,Cl⟩:∃pn,pn=P.length:=⟨_,rfl⟩
    rw[<-qt] at own hO tf
    rw[<-Cl] at c1 pp pl CY tf
    replace CY:=aa CY
    replace tf:=aa tf
    replace mP:=aa mP
    replace qt:=aa qt
    clear Cl hp
    rw[<-qt.out]
    unfold ej at c1
    simp only at c1
    go_wp2_with fail
    go_at_call 61
    refine(c1 _ (gb.alloc _)).mono ?_
    rintro e w2 ⟨a2,G2,rfl,s2,b2⟩
    have eV:=dx (own.alloc _) b2
    have B2:=(B.alc _).keep b2 (B.alc _).lt
    have am:=ac (ax bel _) b2
    have dW:w.heap.size+1<=w2.heap.size:=B2.lt
    obtain⟨yb,yo,rfl,Qv⟩:=s2.where RH
    have tL:∀j u,(ar P)[j]? =some u->w2.cell? ((⟨yb,yo,none⟩:Addr).add j)=some u:=by
     intro j u hu
     obtain⟨b',lB,e,_,hc⟩:=s2.row.at (by intro e;rw[e] at hu;simp at hu)
     simp only[Option.some.injEq,Addr.mk.injEq,and_true] at e
     obtain⟨rfl,rfl⟩:=e
     rw[Addr.add_lit]
     exact hc j u hu
    clear c1 b2 own B bel s2 e0 e1 e2 e3
    go_wp2_with (at_builtin;refine ed _ rfl (.tmp 29) (.tmp 30) 42 rfl (w.heap.size+1) 56 i0 (.agg #[.int .i64 0,.int .i64 0]) 2 16 Tryz.underlying42 hi bK bm bQ rfl (by decide) _ on _ rfl eV ⟨yb,yo,none⟩ pn _ (ar P) rfl CY.out tL Tg pp (by unfold maxLen;omega) (by omega) dW ?_)
    intro v3 w3 eF ji _
    have aC:=aG am eV ji (Nat.le_succ _) am.size
    have B3:=B2.grown ji (fun j hj=>by have:=(eV.lt j hj).1;omega)
    rw[<-mP.out] at eF
    obtain⟨a3,G3,rfl,_,_,_⟩:=aV.ofOwn eF
    go_wp2_with fail
    go_roundw
    case rel=>exact⟨k+1,G3,a3,O++P,by omega,by go_num,by rw[tf.out],by rw[tf.out];omega,by rw[tf.out];exact eF,aJ,eQ,B3,aC⟩
    case measure=>simp[intOf];omega
   have Dw:E=bP ⟨xn,xf,xT,X⟩:=by rw[aJ,bU,if_neg hp];simp[hp]
   have Ct:L=[]:=by rw[eQ,Dw,if_neg hp]
   clear aJ eQ
   generalize bP ⟨xn,xf,xT,X⟩=F at*
   generalize bi ⟨xn,xf,xT,X⟩=P at*
   replace Dw:=aa Dw
   replace Ct:=aa Ct
   clear pl
   unfold ej at c1
   simp only at c1
   go_wp2_with fail
   go_at_call 61
   refine(c1 _ (gb.alloc _)).mono ?_
   rintro e w2 ⟨a2,G2,rfl,s2,b2⟩
   have am:=ac (ax bel _) b2
   go_wp2_with fail
   go_ret2
   exact⟨none,0,by rw[Dw.out,Ct.out];rfl,by rw[Ct.out];exact aV.ofNil _,am⟩
  obtain rfl:k=n:=by omega
  have aJ:=H0.out
  have eQ:=H1.out
  rw[hn.out,List.drop_length] at aJ eQ
  simp only[List.map_nil,bU,dp,List.flatMap_nil,List.append_nil,if_true] at aJ eQ
  clear H0 H1
  have e1:w.heap.size<wr.heap.size:=B.lt
  have d1:wr.cell? ⟨w.heap.size,1,none⟩=some (.slice ha m hc):=B.cell 1
  have HV:=sh.keep bel (Nat.le_refl _)
  have c2:=fun a c W h=>nW a c (O++hd) W h
  rw[<-aJ,List.length_append,<-hm.out] at c2
  have mP:=dF O hd
  have Dz:=aI hd
  have gM:=fU hd
  rw[<-hm.out] at Dz
  obtain⟨on,qt⟩:∃on,on=O.length:=⟨_,rfl⟩
  rw[<-qt] at own hO c2⊢
  have hlen:(O++hd).length=on+m:=by rw[List.length_append,<-qt,<-hm.out]
  replace hlen:=aa hlen
  replace mP:=aa mP
  replace Dz:=aa Dz
  replace aJ:=aa aJ
  replace eQ:=aa eQ
  clear qt
  cases ha with
  |none=>
   have h1:=HV.nil rfl
   have h2:=HV.le
   have h3:hd=[]:=List.eq_nil_of_length_eq_zero (by omega)
   obtain rfl:m=0:=by rw[hm.out,h3];rfl
   subst h1
   have JM:wr.ownsRow (w.heap.size+1) 56 2 (.slice a' on G) on (ar (O++hd)):=by rw[h3,List.append_nil];exact own
   obtain⟨a3,G3,e3,s3,_,_⟩:=aV.ofOwn JM
   simp only[Value.slice.injEq,true_and] at e3
   obtain⟨rfl,rfl⟩:=e3
   have aC:=bel
   replace h3:=aa h3
   clear h2 JM
   go_wp2_with (at_builtin;refine wpList_append_own_none rfl (.tmp 33) (.tmp 35) 42 rfl (w.heap.size+1) 56 i0 2 Tryz.underlying42 hi _ on _ rfl own rfl ?_)
   go_wp2_with fail
   go_at_call 62
   refine(c2 _ _ _ s3).mono ?_
   rintro e w4 ⟨rfl,b4⟩
   have ay:=ac aC b4
   have s4:=s3.call b4
   by_cases hE:E=0
   .have eL:L=O++hd:=by rw[eQ.out,if_pos hE]
    have zE:=aa hE
    replace eL:=aa eL
    have hz:(E==0)=true:=by simpa using hE
    clear hE
    go_wp2_with fail
    go_ret2
    exact⟨_,_,by rw[eL.out,hlen.out,zE.out];rfl,by rw[eL.out];exact s4,ay⟩
   .have eL:L=[]:=by rw[eQ.out,if_neg hE]
    replace eL:=aa eL
    go_wp2_with fail
    go_ret2
    exact⟨none,0,by rw[eL.out];rfl,by rw[eL.out];exact aV.ofNil _,ay⟩
  |some ad=>
   have tL:∀j u,(ar hd)[j]? =some u->wr.cell? (ad.add j)=some u:=by
    intro j u hu
    obtain⟨b',lB,e,_,hc⟩:=HV.row.at (by intro e;rw[e] at hu;simp at hu)
    obtain rfl:=Option.some.inj e
    rw[Addr.add_lit]
    exact hc j u hu
   go_wp2_with (at_builtin;refine wpList_append_own_wide _ rfl (.tmp 33) (.tmp 35) 42 rfl (w.heap.size+1) 56 i0 (.agg #[.int .i64 0,.int .i64 0]) 2 16 Tryz.underlying42 hi bK bm bQ rfl (by decide) _ on _ rfl own ad m _ (ar hd) rfl Dz.out tL gM (by unfold maxLen;omega) (by omega) e1 ?_)
   intro v3 w3 eF ji _
   have aC:=aG bel own ji (Nat.le_succ _) bel.size
   rw[<-mP.out] at eF
   obtain⟨a3,G3,rfl,s3,_,_⟩:=aV.ofOwn eF
   clear eF ji own
   go_wp2_with fail
   go_at_call 62
   refine(c2 _ _ _ s3).mono ?_
   rintro e w4 ⟨rfl,b4⟩
   have ay:=ac aC b4
   have s4:=s3.call b4
   by_cases hE:E=0
   .have eL:L=O++hd:=by rw[eQ.out,if_pos hE]
    have zE:=aa hE
    replace eL:=aa eL
    have hz:(E==0)=true:=by simpa using hE
    clear hE
    go_wp2_with fail
    go_ret2
    exact⟨_,_,by rw[eL.out,hlen.out,zE.out];rfl,by rw[eL.out];exact s4,ay⟩
   have eL:L=[]:=by rw[eQ.out,if_neg hE]
   replace eL:=aa eL
   go_wp2_with fail
   go_ret2
   exact⟨none,0,by rw[eL.out];rfl,by rw[eL.out];exact aV.ofNil _,ay⟩
theorem vC (r:Lr)(w:World)(hg:r.Good w):
  Calls Tryz.prog 20 #[r.v] w fun e w'=>∃a' G,e=.returned (.tuple #[.slice a' (qK r.rw).length G,.int .i64 (dV r.rw)])/\aV w' a' G (qK r.rw)/\Below w.heap.size w w':=by
 by_cases h:r.bs.length<=8
 .exact Fi r w hg h
 have hE:dV r.rw=2:=by unfold dV;rw[if_pos (by unfold Lr.rw;simp only[List.length_map];omega)]
 have hL:qK r.rw=[]:=by unfold qK;rw[hE];rfl
 rw[hE,hL]
 refine(CJ r w (by omega) hg.few).mono ?_
 rintro e w' ⟨rfl,hb⟩
 exact⟨none,0,rfl,aV.ofNil _,hb⟩
theorem CO (n:Nat)(ao:Option Addr)(cap:Nat)(w:World)(h:n≠4):
  Calls Tryz.prog 88 #[.agg #[.slice ao n cap]] w fun e w'=>e=.returned (.int .i64 4)/\Below w.heap.size w w':=by
 have h':¬(n:Int)=4:=by omega
 go_enter Tryz.func88,Tryz.ntmps88
 go_wp2_with fail
 go_ret
 exact⟨rfl,(Below.refl _ _).alloc (Nat.le_refl _) _⟩
theorem yY (l:List Lr)(ao:Option Addr)(cap:Nat)(w:World)(hs:bL w ao cap l)(h4:l.length=4):
  Calls Tryz.prog 88 #[.agg #[.slice ao 4 cap]] w fun e w'=>e=.returned (.int .i64 (iX (l.map Lr.rw)))/\Below w.heap.size w w':=by
 obtain⟨E,hE⟩:∃E,E=iX (l.map Lr.rw):=⟨_,rfl⟩
 rw[<-hE]
 have H0:Hid (E=iX ((l.drop 0).map Lr.rw)):=by rw[List.drop_zero];exact hE
 clear hE
 obtain⟨b,off,rfl,ld⟩:=hs.where (by intro e;rw[e] at h4;simp at h4)
 replace h4:=aa h4
 go_enter Tryz.func88,Tryz.ntmps88
 go_wp2_with fail
 have B0:=ag.laid w [.slice (some ⟨b,off,none⟩) 4 cap] 24 _ rfl
 have cq:Below w.heap.size w (w.alloc (.cells #[.slice (some ⟨b,off,none⟩) 4 cap] 24)):=(Below.refl _ _).alloc (Nat.le_refl _) _
 generalize w.alloc _=w1 at*
 go_loopw [14] (fun i wr=>∃(k:Nat),k<=4/\i=.int .i64 k/\Hid (E=iX ((l.drop k).map Lr.rw))/\Below w.heap.size w wr) (fun i _=>4-(intOf i).toNat)
 case atStart=>exact⟨0,by omega,rfl,H0,cq⟩
 case round=>
  clear H0 B0 cq
  obtain⟨k,hk,rfl,H0,bel⟩:=hrel
  by_cases aE:k<4
  .have dZ:=hs.keep bel (Nat.le_refl _)
   obtain⟨r,hr⟩:∃r,l[k]? =some r:=⟨_,List.getElem?_eq_getElem (by rw[h4.out];exact aE)⟩
   obtain⟨e0,e1,gr⟩:=dZ.at k r hr
   have hd:l.drop k=r::l.drop (k+1):=by
    obtain⟨fC,rfl⟩:=List.getElem?_eq_some_iff.1 hr
    exact List.drop_eq_getElem_cons fC
   have aJ:=H0.out
   rw[hd,List.map_cons,iX] at aJ
   have c1:=fun W h=>vC r W h
   unfold Lr.v at c1
   clear H0 hd hr dZ
   by_cases hE:dV r.rw=0
   .rw[if_pos hE] at aJ
    rw[hE] at c1
    replace aJ:=aa aJ
    generalize qK r.rw=L at*
    clear hE
    go_wp2_with fail
    go_at_call 20
    refine(c1 _ (gr.alloc _)).mono ?_
    rintro e w2 ⟨a2,G2,rfl,s2,b2⟩
    have am:=ac (ax bel _) b2
    go_wp2_with fail
    go_roundw
    case rel=>exact⟨k+1,by omega,by go_num,aJ,am⟩
    case measure=>simp[intOf];omega
   rw[if_neg hE] at aJ
   generalize qK r.rw=L at*
   generalize dV r.rw=F at*
   replace aJ:=aa aJ
   go_wp2_with fail
   go_at_call 20
   refine(c1 _ (gr.alloc _)).mono ?_
   rintro e w2 ⟨a2,G2,rfl,s2,b2⟩
   have am:=ac (ax bel _) b2
   go_wp2_with fail
   go_ret
   exact⟨by rw[aJ.out];rfl,am⟩
  obtain rfl:k=4:=by omega
  have aJ:=H0.out
  rw[List.drop_eq_nil_of_le (by rw[h4.out];exact Nat.le_refl _)] at aJ
  replace aJ:=aa aJ
  clear H0
  go_wp2_with fail
  go_ret
  exact⟨by rw[aJ.out];rfl,bel⟩
theorem Am (l:List Lr)(ao:Option Addr)(cap:Nat)(w:World)(hs:bL w ao cap l):
  Calls Tryz.prog 88 #[.agg #[.slice ao l.length cap]] w fun e w'=>e=.returned (.int .i64 (az (l.map Lr.rw)))/\Below w.heap.size w w':=by
 unfold az
 rw[List.length_map]
 by_cases h:l.length=4
 .rw[if_pos h,h]
  exact yY l ao cap w hs h
 rw[if_neg h]
 exact CO l.length ao cap w h
theorem Cm (a b:Bk)(ao bo:Option Addr)(ca cb:Nat)(w:World)(ha:Sl w ao ca (a.bits.map Value.bool))(hb:Sl w bo cb (b.bits.map Value.bool))(la:a.bits.length<=140737488355328)(lb:b.bits.length<=140737488355328):
  Calls Tryz.prog 78 #[ej a ao ca,ej b bo cb] w fun e w'=>e=.returned (.bool (mJ a b))/\Below w.heap.size w w':=by
 obtain⟨an,af,aT,X⟩:=a
 obtain⟨bn,bf,bT,Y⟩:=b
 unfold ej mJ
 simp only at*
 have c1:=fun W h k=>y6 ao bo ca cb X Y W h k (by omega) (by omega)
 generalize decide (X=Y)=D at*
 clear la lb
 have sa:=fun o1 o2=>(ha.alloc o1).alloc o2
 have sb:=fun o1 o2=>(hb.alloc o1).alloc o2
 by_cases h1:an=bn
 .subst h1
  by_cases h2:af=bf
  .subst h2
   by_cases h3:aT=bT
   .subst h3
    go_enter Tryz.func78,Tryz.ntmps78
    go_wp2_with fail
    go_at_call 110
    refine(c1 _ (sa _ _).row (sb _ _).row).mono ?_
    rintro e w1 ⟨rfl,q,rfl⟩
    go_wp2_with fail
    go_ret
    exact⟨by simp,bt (dN w _ _) q⟩
   go_enter Tryz.func78,Tryz.ntmps78
   go_wp2_with fail
   go_ret
   exact⟨by simp[h3],dN w _ _⟩
  go_enter Tryz.func78,Tryz.ntmps78
  go_wp2_with fail
  go_ret
  exact⟨by simp[h2],dN w _ _⟩
 go_enter Tryz.func78,Tryz.ntmps78
 go_wp2_with fail
 go_ret
 exact⟨by simp[h1],dN w _ _⟩
theorem wn:∀l m,ef l m=true->l.length=m.length
 | [],[],_=>rfl
 |x::r,y::s,h=>by
  rw[ef,Bool.and_eq_true] at h
  rw[List.length_cons,List.length_cons,wn r s h.2]
 | [],y::s,h=>by cases h
 |x::r,[],h=>by cases h
theorem Oq (l m:List Lb)(a1 a2:Option Addr)(c1 c2:Nat)(w:World)(h1:pB w a1 c1 l)(h2:pB w a2 c2 m)(hl:l.length<=140737488355328):
  Calls Tryz.prog 77 #[.slice a1 l.length c1,.slice a2 m.length c2,.func (.func 78) #[] #[]] w fun e w'=>e=.returned (.bool (ef (l.map Lb.b) (m.map Lb.b)))/\Below w.heap.size w w':=by
 by_cases aF:l.length=m.length
 .obtain⟨D,hD⟩:∃D,D=ef (l.map Lb.b) (m.map Lb.b):=⟨_,rfl⟩
  rw[<-hD]
  have H0:Hid (D=ef ((l.drop 0).map Lb.b) ((m.drop 0).map Lb.b)):=by rw[List.drop_zero,List.drop_zero];exact hD
  clear hD
  rw[<-aF]
  obtain⟨n,hn⟩:∃n,n=l.length:=⟨_,rfl⟩
  rw[<-hn] at aF hl⊢
  replace hn:=aa hn
  replace aF:=aa aF
  have cq:=Below.refl w.heap.size w
  go_enter Tryz.func77,Tryz.ntmps77
  go_wp2_with fail
  go_loopw [17] (fun i wr=>∃(k:Nat),k<=n/\i=.int .i64 k/\Hid (D=ef ((l.drop k).map Lb.b) ((m.drop k).map Lb.b))/\Below w.heap.size w wr) (fun i _=>n-(intOf i).toNat)
  case atStart=>exact⟨0,by omega,rfl,H0,cq⟩
  case round=>
   clear H0 cq
   obtain⟨k,hk,rfl,H0,bel⟩:=hrel
   by_cases aE:k<n
   .have dZ:=h1.keep bel (Nat.le_refl _)
    have ij:=h2.keep bel (Nat.le_refl _)
    obtain⟨b1,o1,rfl,m7⟩:=dZ.where (by intro e;rw[hn.out,e] at aE;simp at aE)
    obtain⟨b2,o2,rfl,jJ⟩:=ij.where (by intro e;rw[aF.out,e] at aE;simp at aE)
    obtain⟨x,hx⟩:∃x,l[k]? =some x:=⟨_,List.getElem?_eq_getElem (by rw[<-hn.out];exact aE)⟩
    obtain⟨y,hy⟩:∃y,m[k]? =some y:=⟨_,List.getElem?_eq_getElem (by rw[<-aF.out];exact aE)⟩
    obtain⟨e0,e1,e2,e3,gx⟩:=dZ.at k x hx
    obtain⟨f0,f1,f2,f3,gy⟩:=ij.at k y hy
    have rM:l.drop k=x::l.drop (k+1):=by
     obtain⟨fC,rfl⟩:=List.getElem?_eq_some_iff.1 hx
     exact List.drop_eq_getElem_cons fC
    have tM:m.drop k=y::m.drop (k+1):=by
     obtain⟨fC,rfl⟩:=List.getElem?_eq_some_iff.1 hy
     exact List.drop_eq_getElem_cons fC
    have aJ:=H0.out
    rw[rM,tM,List.map_cons,List.map_cons,ef] at aJ
    have c1:=fun W (h:x.Good W) (k:y.Good W)=>Cm x.b y.b x.a y.a x.c y.c W h.bits k.bits h.few k.few
    unfold ej at c1
    clear H0 rM tM hx hy dZ ij
    have sx:=fun o1 o2=>(gx.alloc o1).alloc o2
    have sy:=fun o1 o2=>(gy.alloc o1).alloc o2
    cases hS:mJ x.b y.b with
    |true=>
     rw[hS,Bool.true_and] at aJ
     rw[hS] at c1
     replace aJ:=aa aJ
     clear hS
     go_wp2_with fail
     go_at_call 78
     refine(c1 _ (sx _ _) (sy _ _)).mono ?_
     rintro e w2 ⟨rfl,b2⟩
     have am:=ac (ax (ax bel _) _) b2
     go_wp2_with fail
     go_roundw
     case rel=>exact⟨k+1,by omega,by go_num,aJ,am⟩
     case measure=>simp[intOf];omega
    |false=>
     rw[hS,Bool.false_and] at aJ
     rw[hS] at c1
     replace aJ:=aa aJ
     clear hS
     go_wp2_with fail
     go_at_call 78
     refine(c1 _ (sx _ _) (sy _ _)).mono ?_
     rintro e w2 ⟨rfl,b2⟩
     have am:=ac (ax (ax bel _) _) b2
     go_wp2_with fail
     go_ret
     exact⟨by rw[aJ.out];rfl,am⟩
   obtain rfl:k=n:=by omega
   have aJ:=H0.out
   rw[List.drop_eq_nil_of_le (by rw[hn.out];exact Nat.le_refl _),List.drop_eq_nil_of_le (by rw[aF.out];exact Nat.le_refl _)] at aJ
   replace aJ:=aa aJ
   clear H0
   go_wp2_with fail
   go_ret
   exact⟨by rw[aJ.out];rfl,bel⟩
 have hS:ef (l.map Lb.b) (m.map Lb.b)=false:=by
  cases hS:ef (l.map Lb.b) (m.map Lb.b) with
  |false=>rfl
  |true=>
   have:=wn _ _ hS
   rw[List.length_map,List.length_map] at this
   exact absurd this aF
 rw[hS]
 have xy:¬(l.length:Int)=m.length:=by omega
 generalize l.length=n1 at*
 generalize m.length=n2 at*
 clear hS h1 h2
 go_enter Tryz.func77,Tryz.ntmps77
 go_wp2_with fail
 go_ret
 exact⟨rfl,Below.refl _ _⟩
theorem Df (r q:Lr)(w:World)(hr:r.Good w)(hq:q.Good w):
  Calls Tryz.prog 76 #[r.v,q.v] w fun e w'=>e=.returned (.bool (ke r.rw q.rw))/\Below w.heap.size w w':=by
 have c1:=fun W h k=>Oq r.bs q.bs r.ba q.ba r.bc q.bc W h k hr.few
 have f1:=hr.hfew
 have f2:=hq.hfew
 have c2:=fun W h k=>yD r.ha q.ha r.hc q.hc r.hd q.hd W h k (by omega) (by omega)
 have s1:=fun o1 o2=>(hr.bs.alloc o1).alloc o2
 have s2:=fun o1 o2=>(hq.bs.alloc o1).alloc o2
 have t1:=fun o1 o2=>(hr.hd.alloc o1).alloc o2
 have t2:=fun o1 o2=>(hq.hd.alloc o1).alloc o2
 obtain⟨bs,ba,bc,hd,ha,hc⟩:=r
 obtain⟨ds,da,dc,gd,ga,gc⟩:=q
 unfold Lr.v ke Lr.rw
 simp only at*
 clear hr hq f1 f2
 cases hS:ef (bs.map Lb.b) (ds.map Lb.b) with
 |true=>
  rw[hS] at c1
  rw[Bool.true_and]
  generalize decide (hd=gd)=D at*
  clear hS
  generalize bs.length=n1 at*
  generalize ds.length=n2 at*
  generalize hd.length=n3 at*
  generalize gd.length=n4 at*
  go_enter Tryz.func76,Tryz.ntmps76
  go_wp2_with fail
  have B0:=(ag.laid w [.slice ba n1 bc,.slice ha n3 hc] 53 _ rfl).alc (.cells #[.slice da n2 dc,.slice ga n4 gc] 53)
  have B1:=ag.laid (w.alloc (.cells #[.slice ba n1 bc,.slice ha n3 hc] 53)) [.slice da n2 dc,.slice ga n4 gc] 53 (w.heap.size+1) (by simp)
  have bel:=dN w (.cells #[.slice ba n1 bc,.slice ha n3 hc] 53) (.cells #[.slice da n2 dc,.slice ga n4 gc] 53)
  replace s1:=s1 (.cells #[.slice ba n1 bc,.slice ha n3 hc] 53) (.cells #[.slice da n2 dc,.slice ga n4 gc] 53)
  replace s2:=s2 (.cells #[.slice ba n1 bc,.slice ha n3 hc] 53) (.cells #[.slice da n2 dc,.slice ga n4 gc] 53)
  replace t1:=t1 (.cells #[.slice ba n1 bc,.slice ha n3 hc] 53) (.cells #[.slice da n2 dc,.slice ga n4 gc] 53)
  replace t2:=t2 (.cells #[.slice ba n1 bc,.slice ha n3 hc] 53) (.cells #[.slice da n2 dc,.slice ga n4 gc] 53)
  generalize(w.alloc _).alloc _=w1 at*
  go_at_call 77
  refine(c1 _ s1 s2).mono ?_
  rintro e w2 ⟨rfl,b2⟩
  replace B0:=B0.keep b2 B0.lt
  replace B1:=B1.keep b2 B1.lt
  replace bel:=ac bel b2
  replace t1:=t1.call b2
  replace t2:=t2.call b2
  clear b2 s1 s2 c1
  have d0:w2.cell? ⟨w.heap.size,1,none⟩=some (.slice ha n3 hc):=B0.cell 1
  have d1:w2.cell? ⟨w.heap.size+1,1,none⟩=some (.slice ga n4 gc):=B1.cell 1
  go_wp2_with fail
  go_at_call 21
  refine(c2 _ t1 t2).mono ?_
  rintro e w3 ⟨rfl,q,rfl⟩
  go_wp2_with fail
  go_ret
  exact⟨rfl,bt bel _⟩
 |false=>
  rw[hS] at c1
  rw[Bool.false_and]
  clear hS c2
  generalize bs.length=n1 at*
  generalize ds.length=n2 at*
  generalize hd.length=n3 at*
  generalize gd.length=n4 at*
  go_enter Tryz.func76,Tryz.ntmps76
  go_wp2_with fail
  go_at_call 77
  refine(c1 _ (s1 _ _) (s2 _ _)).mono ?_
  rintro e w2 ⟨rfl,b2⟩
  have am:=ac (dN w _ _) b2
  go_wp2_with fail
  go_ret
  exact⟨rfl,am⟩
theorem vE:∀l m,bp l m=true->l.length=m.length
 | [],[],_=>rfl
 |x::r,y::s,h=>by
  rw[bp,Bool.and_eq_true] at h
  rw[List.length_cons,List.length_cons,vE r s h.2]
 | [],y::s,h=>by cases h
 |x::r,[],h=>by cases h
theorem Mj (l m:List Lr)(a1 a2:Option Addr)(c1 c2:Nat)(w:World)(h1:bL w a1 c1 l)(h2:bL w a2 c2 m)(hl:l.length<=140737488355328):
  Calls Tryz.prog 75 #[.slice a1 l.length c1,.slice a2 m.length c2,.func (.func 76) #[] #[]] w fun e w'=>e=.returned (.bool (bp (l.map Lr.rw) (m.map Lr.rw)))/\Below w.heap.size w w':=by
 by_cases aF:l.length=m.length
 .obtain⟨D,hD⟩:∃D,D=bp (l.map Lr.rw) (m.map Lr.rw):=⟨_,rfl⟩
  rw[<-hD]
  have H0:Hid (D=bp ((l.drop 0).map Lr.rw) ((m.drop 0).map Lr.rw)):=by rw[List.drop_zero,List.drop_zero];exact hD
  clear hD
  rw[<-aF]
  obtain⟨n,hn⟩:∃n,n=l.length:=⟨_,rfl⟩
  rw[<-hn] at aF hl⊢
  replace hn:=aa hn
  replace aF:=aa aF
  have cq:=Below.refl w.heap.size w
  go_enter Tryz.func75,Tryz.ntmps75
  go_wp2_with fail
  go_loopw [17] (fun i wr=>∃(k:Nat),k<=n/\i=.int .i64 k/\Hid (D=bp ((l.drop k).map Lr.rw) ((m.drop k).map Lr.rw))/\Below w.heap.size w wr) (fun i _=>n-(intOf i).toNat)
  case atStart=>exact⟨0,by omega,rfl,H0,cq⟩
  case round=>
   clear H0 cq
   obtain⟨k,hk,rfl,H0,bel⟩:=hrel
   by_cases aE:k<n
   .have dZ:=h1.keep bel (Nat.le_refl _)
    have ij:=h2.keep bel (Nat.le_refl _)
    obtain⟨b1,o1,rfl,m7⟩:=dZ.where (by intro e;rw[hn.out,e] at aE;simp at aE)
    obtain⟨b2,o2,rfl,jJ⟩:=ij.where (by intro e;rw[aF.out,e] at aE;simp at aE)
    obtain⟨x,hx⟩:∃x,l[k]? =some x:=⟨_,List.getElem?_eq_getElem (by rw[<-hn.out];exact aE)⟩
    obtain⟨y,hy⟩:∃y,m[k]? =some y:=⟨_,List.getElem?_eq_getElem (by rw[<-aF.out];exact aE)⟩
    obtain⟨e0,e1,gx⟩:=dZ.at k x hx
    obtain⟨f0,f1,gy⟩:=ij.at k y hy
    have rM:l.drop k=x::l.drop (k+1):=by
     obtain⟨fC,rfl⟩:=List.getElem?_eq_some_iff.1 hx
     exact List.drop_eq_getElem_cons fC
    have tM:m.drop k=y::m.drop (k+1):=by
     obtain⟨fC,rfl⟩:=List.getElem?_eq_some_iff.1 hy
     exact List.drop_eq_getElem_cons fC
    have aJ:=H0.out
    rw[rM,tM,List.map_cons,List.map_cons,bp] at aJ
    have c1:=fun W (h:x.Good W) (k:y.Good W)=>Df x y W h k
    unfold Lr.v at c1
    clear H0 rM tM hx hy dZ ij
    have sx:=fun o1 o2=>(gx.alloc o1).alloc o2
    have sy:=fun o1 o2=>(gy.alloc o1).alloc o2
    cases hS:ke x.rw y.rw with
    |true=>
     rw[hS,Bool.true_and] at aJ
     rw[hS] at c1
     replace aJ:=aa aJ
     clear hS
     go_wp2_with fail
     go_at_call 76
     refine(c1 _ (sx _ _) (sy _ _)).mono ?_
     rintro e w2 ⟨rfl,b2⟩
     have am:=ac (ax (ax bel _) _) b2
     go_wp2_with fail
     go_roundw
     case rel=>exact⟨k+1,by omega,by go_num,aJ,am⟩
     case measure=>simp[intOf];omega
    |false=>
     rw[hS,Bool.false_and] at aJ
     rw[hS] at c1
     replace aJ:=aa aJ
     clear hS
     go_wp2_with fail
     go_at_call 76
     refine(c1 _ (sx _ _) (sy _ _)).mono ?_
     rintro e w2 ⟨rfl,b2⟩
     have am:=ac (ax (ax bel _) _) b2
     go_wp2_with fail
     go_ret
     exact⟨by rw[aJ.out];rfl,am⟩
   obtain rfl:k=n:=by omega
   have aJ:=H0.out
   rw[List.drop_eq_nil_of_le (by rw[hn.out];exact Nat.le_refl _),List.drop_eq_nil_of_le (by rw[aF.out];exact Nat.le_refl _)] at aJ
   replace aJ:=aa aJ
   clear H0
   go_wp2_with fail
   go_ret
   exact⟨by rw[aJ.out];rfl,bel⟩
 have hS:bp (l.map Lr.rw) (m.map Lr.rw)=false:=by
  cases hS:bp (l.map Lr.rw) (m.map Lr.rw) with
  |false=>rfl
  |true=>
   have:=vE _ _ hS
   rw[List.length_map,List.length_map] at this
   exact absurd this aF
 rw[hS]
 have xy:¬(l.length:Int)=m.length:=by omega
 generalize l.length=n1 at*
 generalize m.length=n2 at*
 clear hS h1 h2
 go_enter Tryz.func75,Tryz.ntmps75
 go_wp2_with fail
 go_ret
 exact⟨rfl,Below.refl _ _⟩
theorem Au (l m:List Lr)(a1 a2:Option Addr)(c1 c2:Nat)(w:World)(h1:bL w a1 c1 l)(h2:bL w a2 c2 m)(hl:l.length<=140737488355328):
  Calls Tryz.prog 35 #[.agg #[.slice a1 l.length c1],.agg #[.slice a2 m.length c2]] w fun e w'=>e=.returned (.bool (bp (l.map Lr.rw) (m.map Lr.rw)))/\Below w.heap.size w w':=by
 have c:=fun W h k=>Mj l m a1 a2 c1 c2 W h k hl
 have s1:=fun o1 o2=>(h1.alloc o1).alloc o2
 have s2:=fun o1 o2=>(h2.alloc o1).alloc o2
 generalize bp (l.map Lr.rw) (m.map Lr.rw)=D at*
 generalize l.length=n1 at*
 generalize m.length=n2 at*
 go_enter Tryz.func35,Tryz.ntmps35
 go_wp2_with fail
 go_at_call 75
 refine(c _ (s1 _ _) (s2 _ _)).mono ?_
 rintro e w2 ⟨rfl,b2⟩
 have am:=ac (dN w _ _) b2
 go_wp2_with fail
 go_ret
 exact⟨rfl,am⟩
theorem Fo (ao:Option Addr)(cap:Nat)(l:List Pt)(w:World)(hr:aV w ao cap l)(h:aH l=0)(hl:0<l.length):
  Calls Tryz.prog 131 #[.slice ao l.length cap] w fun e w'=>
   ∃a' G,e=.returned (.tuple #[.agg #[.int .i64 l.length,.int .i64 (firstT l),.int .i64 (lE l),.slice a' (ep l).length G],.int .i64 0])/\Sl w' a' G ((ep l).map Value.bool)/\Below w.heap.size w w':=by
 have c1:=fun W h=>uj ao cap l W h
 rw[h] at c1
 have mw:=(eN h).1
 obtain⟨b,off,rfl,hb⟩:=hr.where (by intro e;rw[e] at hl;simp at hl)
 have s0:=fun W (h:aV W (some ⟨b,off,none⟩) cap l)=>h.first hl
 have s1:=fun W (h:aV W (some ⟨b,off,none⟩) cap l)=>h.last hl
 generalize ep l=P at*
 generalize firstT l=X at*
 generalize lE l=Y at*
 obtain⟨n,hn⟩:∃n,n+1=l.length:=⟨l.length-1,by omega⟩
 rw[<-hn] at c1 s1 mw⊢
 clear hn hl h
 go_enter Tryz.func131,Tryz.ntmps131
 go_wp2_with fail
 go_at_call 168
 refine(c1 _ (hr.alloc _)).mono ?_
 rintro e w1 ⟨a1,G1,rfl,t1,b1⟩
 have B0:=(ag.laid w [.int .i64 0,.int .i64 0,.int .i64 0,.slice none 0 0] 107 _ rfl).keep b1 (by simp)
 have bel:=ac ((Below.refl _ _).alloc (Nat.le_refl _) _) b1
 have wU:=(hr.alloc _).call b1
 have e0:=s0 _ wU
 have e1:=s1 _ wU
 clear c1 s0 s1 b1
 simp only[Nat.add_sub_cancel] at e1
 obtain⟨f0,f1,f2,f3⟩:=B0.f4
 have d0:w1.cell? ⟨w.heap.size,0,none⟩=some (.int .i64 0):=B0.cell 0
 have d1:w1.cell? ⟨w.heap.size,1,none⟩=some (.int .i64 0):=B0.cell 1
 have d2:w1.cell? ⟨w.heap.size,2,none⟩=some (.int .i64 0):=B0.cell 2
 have d3:w1.cell? ⟨w.heap.size,3,none⟩=some (.slice none 0 0):=B0.cell 3
 have jF:=B0.lt
 go_wp2_with fail
 go_region
 go_wp2_with fail
 have B4:=(B0.put4 (.int .i64 ((n:Int)+1)) (.int .i64 X) (.int .i64 Y) (.slice a1 P.length G1)).drewS
 have ay:=ak (ic bel (g:=w.heap.size) (Nat.le_refl _) (.int .i64 ((n:Int)+1)) (.int .i64 X) (.int .i64 Y) (.slice a1 P.length G1))
 have t4:=(t1.put4 B0 (.int .i64 ((n:Int)+1)) (.int .i64 X) (.int .i64 Y) (.slice a1 P.length G1)).drewS
 generalize(World.setCell _ _ _).drew=w5 at*
 have i0:w5.cell? ⟨w.heap.size,0,none⟩=some (.int .i64 ((n:Int)+1)):=B4.cell 0
 have i1:w5.cell? ⟨w.heap.size,1,none⟩=some (.int .i64 X):=B4.cell 1
 have i2:w5.cell? ⟨w.heap.size,2,none⟩=some (.int .i64 Y):=B4.cell 2
 have i3:w5.cell? ⟨w.heap.size,3,none⟩=some (.slice a1 P.length G1):=B4.cell 3
 exact bodyPost_ret (v:=.tuple #[.agg #[.int .i64 ((n:Int)+1),.int .i64 X,.int .i64 Y,.slice a1 P.length G1],.int .i64 0]) (by simp[results,Tryz.results131,go_sem,i0,i1,i2,i3]) rfl ⟨a1,G1,by simp,t4,ay⟩
theorem Fk (ao:Option Addr)(cap:Nat)(l:List Pt)(w:World)(hr:aV w ao cap l)(h:¬fk l=0):
  Calls Tryz.prog 131 #[.slice ao l.length cap] w fun e w'=>
   e=.returned (.tuple #[.agg #[.int .i64 0,.int .i64 0,.int .i64 0,.slice none 0 0],.int .i64 (fk l)])/\Below w.heap.size w w':=by
 have c1:=fun W h=>uj ao cap l W h
 unfold fk at h⊢
 by_cases h0:aH l=0
 .rw[h0] at c1
  rw[if_pos h0] at h⊢
  by_cases h1:l.length=0
  .rw[if_pos h1,h1]
   rw[h1] at c1
   generalize ep l=P at*
   clear h h0 h1
   go_enter Tryz.func131,Tryz.ntmps131
   go_wp2_with fail
   go_at_call 168
   refine(c1 _ (hr.alloc _)).mono ?_
   rintro e w1 ⟨a1,G1,rfl,t1,b1⟩
   have B0:=(ag.laid w [.int .i64 0,.int .i64 0,.int .i64 0,.slice none 0 0] 107 _ rfl).keep b1 (by simp)
   have bel:=ac ((Below.refl _ _).alloc (Nat.le_refl _) _) b1
   clear c1 b1
   obtain⟨f0,f1,f2,f3⟩:=B0.f4
   have d0:w1.cell? ⟨w.heap.size,0,none⟩=some (.int .i64 0):=B0.cell 0
   have d1:w1.cell? ⟨w.heap.size,1,none⟩=some (.int .i64 0):=B0.cell 1
   have d2:w1.cell? ⟨w.heap.size,2,none⟩=some (.int .i64 0):=B0.cell 2
   have d3:w1.cell? ⟨w.heap.size,3,none⟩=some (.slice none 0 0):=B0.cell 3
   have jF:=B0.lt
   go_wp2_with fail
   have B4:=B0.put4 (.int .i64 0) (.int .i64 0) (.int .i64 0) (.slice none 0 0)
   have ay:=ic bel (g:=w.heap.size) (Nat.le_refl _) (.int .i64 0) (.int .i64 0) (.int .i64 0) (.slice none 0 0)
   generalize World.setCell _ _ _=w5 at*
   have i0:w5.cell? ⟨w.heap.size,0,none⟩=some (.int .i64 0):=B4.cell 0
   have i1:w5.cell? ⟨w.heap.size,1,none⟩=some (.int .i64 0):=B4.cell 1
   have i2:w5.cell? ⟨w.heap.size,2,none⟩=some (.int .i64 0):=B4.cell 2
   have i3:w5.cell? ⟨w.heap.size,3,none⟩=some (.slice none 0 0):=B4.cell 3
   exact bodyPost_ret (v:=.tuple #[.agg #[.int .i64 0,.int .i64 0,.int .i64 0,.slice none 0 0],.int .i64 4]) (by simp[results,Tryz.results131,go_sem,i0,i1,i2,i3]) rfl ⟨rfl,ay⟩
  rw[if_neg h1] at h
  exact absurd rfl h
 rw[if_neg h0]
 generalize ep l=P at*
 generalize aH l=E at*
 generalize l.length=n at*
 clear h
 go_enter Tryz.func131,Tryz.ntmps131
 go_wp2_with fail
 go_at_call 168
 refine(c1 _ (hr.alloc _)).mono ?_
 rintro e w1 ⟨a1,G1,rfl,t1,b1⟩
 have B0:=(ag.laid w [.int .i64 0,.int .i64 0,.int .i64 0,.slice none 0 0] 107 _ rfl).keep b1 (by simp)
 have bel:=ac ((Below.refl _ _).alloc (Nat.le_refl _) _) b1
 clear c1 b1
 obtain⟨f0,f1,f2,f3⟩:=B0.f4
 have d0:w1.cell? ⟨w.heap.size,0,none⟩=some (.int .i64 0):=B0.cell 0
 have d1:w1.cell? ⟨w.heap.size,1,none⟩=some (.int .i64 0):=B0.cell 1
 have d2:w1.cell? ⟨w.heap.size,2,none⟩=some (.int .i64 0):=B0.cell 2
 have d3:w1.cell? ⟨w.heap.size,3,none⟩=some (.slice none 0 0):=B0.cell 3
 have jF:=B0.lt
 go_wp2_with fail
 have B4:=B0.put4 (.int .i64 0) (.int .i64 0) (.int .i64 0) (.slice none 0 0)
 have ay:=ic bel (g:=w.heap.size) (Nat.le_refl _) (.int .i64 0) (.int .i64 0) (.int .i64 0) (.slice none 0 0)
 generalize World.setCell _ _ _=w5 at*
 have i0:w5.cell? ⟨w.heap.size,0,none⟩=some (.int .i64 0):=B4.cell 0
 have i1:w5.cell? ⟨w.heap.size,1,none⟩=some (.int .i64 0):=B4.cell 1
 have i2:w5.cell? ⟨w.heap.size,2,none⟩=some (.int .i64 0):=B4.cell 2
 have i3:w5.cell? ⟨w.heap.size,3,none⟩=some (.slice none 0 0):=B4.cell 3
 exact bodyPost_ret (v:=.tuple #[.agg #[.int .i64 0,.int .i64 0,.int .i64 0,.slice none 0 0],.int .i64 E]) (by simp[results,Tryz.results131,go_sem,i0,i1,i2,i3]) rfl ⟨rfl,ay⟩
theorem uE (ao:Option Addr)(cap:Nat)(l:List Pt)(w:World)(hr:aV w ao cap l):
  Calls Tryz.prog 131 #[.slice ao l.length cap] w fun e w'=>
   ∃a' G,e=.returned (.tuple #[ej (dC l) a' G,.int .i64 (fk l)])/\Sl w' a' G ((dC l).bits.map Value.bool)/\Below w.heap.size w w':=by
 by_cases h:fk l=0
 .have hc:aH l=0/\0<l.length:=by
   unfold fk at h
   by_cases h0:aH l=0
   .rw[if_pos h0] at h
    refine⟨h0,?_⟩
    by_cases h1:l.length=0
    .rw[if_pos h1] at h;cases h
    omega
   rw[if_neg h0] at h
   exact absurd h h0
  rw[rp hc.1 hc.2,h]
  exact Fo ao cap l w hr hc.1 hc.2
 have e:dC l=wR:=if_neg h
 rw[e]
 refine(Fk ao cap l w hr h).mono ?_
 rintro e w' ⟨rfl,b⟩
 exact⟨none,0,rfl,Sl.ofNil _,b⟩
theorem x7:(Tryz.prog.info? 107).map (fun i=>(i.zero,i.size,i.bytes))=some (some (.agg #[.int .i64 0,.int .i64 0,.int .i64 0,.slice none 0 0]),4,48):=by kernel_rfl
theorem PZ (ao:Option Addr)(cap:Nat)(C:List Value)(n:Nat)(w:World)(ew:Row w ao C)(fE:n<=cap)(jr:ao=none->cap=0)(hlen:C.length=n*4)(one:∀v∈C,v.oneCell'=true)(hl:n<=1000000000000):
  Calls Tryz.prog 132 #[.slice ao n cap] w fun e w'=>
   ∃v',e=.returned v'/\w'.ownsRow w.heap.size 107 4 v' n C/\Below w.heap.size w w':=by
 obtain⟨i0,hi,bK,bm,bQ⟩:=info_parts x7
 have q:∀(w:World) (a:Option Addr) (n c n' c':Nat),(binOp .eql 51 (.slice a n c) (.slice none n' c')).run Tryz.prog w=.ok (.bool a.isNone) w:=fun w a n c n' c'=>Lib.run_eql_slice_nil w _ _ a n c n' c' Tryz.underlying51
 cases ao with
 |none=>
  obtain rfl:=jr rfl
  obtain rfl:n=0:=by omega
  obtain rfl:C=[]:=List.eq_nil_of_length_eq_zero hlen
  clear hlen
  go_enter Tryz.func132,Tryz.ntmps132
  go_wp2_with fail
  go_ret
  exact⟨_,rfl,World.ownsRow_nil _ _ _ _,Below.refl _ _⟩
 |some ad=>
  have fh:(w.alloc (.cells #[] 107)).ownsRow w.heap.size 107 4 (.slice (some ⟨w.heap.size,0,none⟩) 0 0) 0 []:=
   ⟨rfl,.inr ⟨w.heap.size,0,#[],rfl,Nat.le_refl _,heap_alloc_new w _,Nat.le_refl _,by decide,rfl,rfl⟩⟩
  have fO:=(Below.refl w.heap.size w).alloc (Nat.le_refl _) (Obj.cells #[] 107)
  have hs:=ew.alloc (.cells #[] 107)
  have eS:∀j u,C[j]? =some u->(w.alloc (.cells #[] 107)).cell? (ad.add j)=some u:=by
   intro j u hu
   obtain⟨b',lB,e,_,hc⟩:=hs.at (by intro e;rw[e] at hu;simp at hu)
   obtain rfl:=Option.some.inj e
   rw[Addr.add_lit]
   exact hc j u hu
  have bA:w.heap.size<=(w.alloc (.cells #[] 107)).heap.size:=by simp
  replace hlen:=aa hlen
  clear ew hs jr
  go_enter Tryz.func132,Tryz.ntmps132
  go_wp2_with (at_builtin;refine wpList_append_own_wide _ rfl (.tmp 5) (.tmp 6) 51 rfl w.heap.size 107 i0 (.agg #[.int .i64 0,.int .i64 0,.int .i64 0,.slice none 0 0]) 4 48 Tryz.underlying51 hi bK bm bQ rfl (by decide) _ 0 _ rfl fh ad n cap C rfl hlen.out eS one (by unfold maxLen;omega) (by omega) bA ?_)
  intro v' w1 ez cz _
  have aY:=aG fO fh cz (Nat.le_refl _) bA
  obtain⟨a1,c1,rfl⟩:∃a1 c1,v'=.slice a1 n c1:=by
   rcases ez.2 with⟨rfl,h0⟩| ⟨g,cp,cur,rfl,_⟩
   .subst h0
    exact⟨_,_,rfl⟩
   exact⟨_,_,rfl⟩
  go_wp2_with fail
  go_ret
  exact⟨_,rfl,ez,aY⟩
end Go.Proofs.YtoonnbhoiocoeaaGreatDoor
