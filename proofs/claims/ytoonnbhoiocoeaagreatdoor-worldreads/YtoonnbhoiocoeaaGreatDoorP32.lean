/-
  rainbookref.PointsOf: what it answers, whatever it is handed; nothing that was there is written.
-/
import Derived.Deep.DeepAppendWide
import Derived.Laws.AppendOwnNone
import Derived.Lib.SliceRun
import Derived.Test.YtoonnbhoiocoeaaGreatDoorP08
import Derived.Test.YtoonnbhoiocoeaaGreatDoorHRefUnpack
import Derived.Test.YtoonnbhoiocoeaaGreatDoorP07
import Derived.Test.YtoonnbhoiocoeaaGreatDoorP12
import Derived.Test.YtoonnbhoiocoeaaGreatDoorP04
import Derived.Test.YtoonnbhoiocoeaaGreatDoorP24
import Derived.Test.YtoonnbhoiocoeaaGreatDoorP25
import Derived.Test.YtoonnbhoiocoeaaGreatDoorP03
import Derived.Test.YtoonnbhoiocoeaaGreatDoorP01
set_option maxHeartbeats 40000000
set_option maxRecDepth 100000
set_option linter.unusedVariables false
namespace Go.Proofs.YtoonnbhoiocoeaaGreatDoor
open Go.RowKit
theorem wJ (b:Bk)(ao:Option Addr)(cap:Nat)(w:World)(hr:Sl w ao cap (b.bits.map Value.bool))(hl:b.bits.length<=140737488355328)(h:¬fO b.bits b.n=0):
  Calls Tryz.prog 61 #[ep b ao cap] w fun e w'=>e=.returned (.tuple #[.slice none 0 0,.int .i64 (fO b.bits b.n)])/\Below w.heap.size w w':=by
 have c1:=fun W h=>mu ao cap b.bits b.n W h
 obtain⟨N,fr,tT,X⟩:=b
 unfold ep
 simp only at*
 generalize dJ X N=U at*
 generalize fO X N=E at*
 clear hl
 have hz:(E==0)=false:=by simpa using h
 go_enter Tryz.func61,Tryz.ntmps61
 go_wp2_with fail
 go_at_call 103
 refine(c1 _ (hr.alloc _)).mono ?_
 rintro e w1 ⟨a1,G1,rfl,s1,b1⟩
 have bel:=aa ((Below.refl _ _).alloc (Nat.le_refl _) _) b1
 clear c1 b1
 go_wp2_with fail
 go_quiet (fail)
 go_wp2_with fail
 go_ret2
 exact⟨rfl,bj bel _⟩
theorem vN (b:Bk)(ao:Option Addr)(cap:Nat)(w:World)(hr:Sl w ao cap (b.bits.map Value.bool))(hl:b.bits.length<=140737488355328)(h:fO b.bits b.n=0)(h0:(dJ b.bits b.n).length=0):
  Calls Tryz.prog 61 #[ep b ao cap] w fun e w'=>e=.returned (.tuple #[.slice none 0 0,.int .i64 4])/\Below w.heap.size w w':=by
 have c1:=fun W h=>mu ao cap b.bits b.n W h
 obtain⟨N,fr,tT,X⟩:=b
 unfold ep
 simp only at*
 rw[h,h0] at c1
 generalize dJ X N=U at*
 clear hl h h0
 go_enter Tryz.func61,Tryz.ntmps61
 go_wp2_with fail
 go_at_call 103
 refine(c1 _ (hr.alloc _)).mono ?_
 rintro e w1 ⟨a1,G1,rfl,s1,b1⟩
 have bel:=aa ((Below.refl _ _).alloc (Nat.le_refl _) _) b1
 clear c1 b1
 go_wp2_with fail
 go_quiet (fail)
 go_wp2_with fail
 go_ret2
 exact⟨rfl,bj bel _⟩
theorem pJ (b:Bk)(ao:Option Addr)(cap:Nat)(w:World)(hr:Sl w ao cap (b.bits.map Value.bool))(hl:b.bits.length<=140737488355328)(h:fO b.bits b.n=0)(h0:0<(dJ b.bits b.n).length):
  Calls Tryz.prog 61 #[ep b ao cap] w fun e w'=>∃a' G,e=.returned (.tuple #[if kc b (dJ b.bits b.n)=true then .slice a' (dJ b.bits b.n).length G else .slice none 0 0,.int .i64 (if kc b (dJ b.bits b.n)=true then 0 else 4)])/\aI w' a' G (dJ b.bits b.n)/\Below w.heap.size w w':=by
 have c1:=fun W h=>mu ao cap b.bits b.n W h
 have lT:=pr b.bits b.n
 obtain⟨N,fr,tT,X⟩:=b
 unfold ep kc
 simp only at*
 rw[h] at c1
 generalize dJ X N=U at*
 have s0:=fun W b off cap (h:aI W (some ⟨b,off,none⟩) cap U)=>h.first h0
 have s1:=fun W b off cap (h:aI W (some ⟨b,off,none⟩) cap U)=>h.last h0
 have aF:U≠[]:=by intro e;rw[e] at h0;simp at h0
 generalize firstT U=P at*
 generalize k6 U=Q at*
 obtain⟨n,hn⟩:∃n,n+1=U.length:=⟨U.length-1,by omega⟩
 rw[<-hn] at c1 s1 lT⊢
 simp only[Nat.add_sub_cancel] at s1
 clear hl h h0 hn
 have fin:decide (0<n+1/\fr=P/\tT=Q)=decide (fr=P/\tT=Q):=by simp
 rw[fin]
 clear fin
 have hz:((n:Int)+1==0)=false:=by simp;omega
 by_cases g1:fr=P
 .subst g1
  by_cases g2:tT=Q
  .subst g2
   rw[show decide (fr=fr/\tT=tT)=true by simp]
   simp only[if_true]
   go_enter Tryz.func61,Tryz.ntmps61
   go_wp2_with fail
   go_at_call 103
   refine(c1 _ (hr.alloc _)).mono ?_
   rintro e w1 ⟨a1,G1,rfl,t1,b1⟩
   have B0:=(ac.laid w [.int .i64 N,.int .i64 fr,.int .i64 tT,.slice ao X.length cap] 107 _ rfl).keep b1 (by simp)
   have bel:=aa ((Below.refl _ _).alloc (Nat.le_refl _) _) b1
   obtain⟨ub,uo,rfl,K9⟩:=t1.where aF
   have e0:=s0 _ _ _ _ t1
   have e1:=s1 _ _ _ _ t1
   have d1:w1.cell? ⟨w.heap.size,1,none⟩=some (.int .i64 fr):=B0.cell 1
   have d2:w1.cell? ⟨w.heap.size,2,none⟩=some (.int .i64 tT):=B0.cell 2
   have js:=B0.lt
   clear c1 b1 s0 s1
   go_wp2_with fail
   go_region
   go_wp2_with fail
   go_ret2
   exact⟨_,_,rfl,t1.drewS,ai bel⟩
  .rw[show decide (fr=fr/\tT=Q)=false by simp[g2]]
   simp only[Bool.false_eq_true,if_false]
   go_enter Tryz.func61,Tryz.ntmps61
   go_wp2_with fail
   go_at_call 103
   refine(c1 _ (hr.alloc _)).mono ?_
   rintro e w1 ⟨a1,G1,rfl,t1,b1⟩
   have B0:=(ac.laid w [.int .i64 N,.int .i64 fr,.int .i64 tT,.slice ao X.length cap] 107 _ rfl).keep b1 (by simp)
   have bel:=aa ((Below.refl _ _).alloc (Nat.le_refl _) _) b1
   obtain⟨ub,uo,rfl,K9⟩:=t1.where aF
   have e0:=s0 _ _ _ _ t1
   have e1:=s1 _ _ _ _ t1
   have d1:w1.cell? ⟨w.heap.size,1,none⟩=some (.int .i64 fr):=B0.cell 1
   have d2:w1.cell? ⟨w.heap.size,2,none⟩=some (.int .i64 tT):=B0.cell 2
   have js:=B0.lt
   clear c1 b1 s0 s1
   go_wp2_with fail
   go_region
   go_wp2_with fail
   go_ret2
   exact⟨_,_,rfl,t1.drewS,ai bel⟩
 .rw[show decide (fr=P/\tT=Q)=false by simp[g1]]
  simp only[Bool.false_eq_true,if_false]
  go_enter Tryz.func61,Tryz.ntmps61
  go_wp2_with fail
  go_at_call 103
  refine(c1 _ (hr.alloc _)).mono ?_
  rintro e w1 ⟨a1,G1,rfl,t1,b1⟩
  have B0:=(ac.laid w [.int .i64 N,.int .i64 fr,.int .i64 tT,.slice ao X.length cap] 107 _ rfl).keep b1 (by simp)
  have bel:=aa ((Below.refl _ _).alloc (Nat.le_refl _) _) b1
  obtain⟨ub,uo,rfl,K9⟩:=t1.where aF
  have e0:=s0 _ _ _ _ t1
  have e1:=s1 _ _ _ _ t1
  have d1:w1.cell? ⟨w.heap.size,1,none⟩=some (.int .i64 fr):=B0.cell 1
  have d2:w1.cell? ⟨w.heap.size,2,none⟩=some (.int .i64 tT):=B0.cell 2
  have js:=B0.lt
  clear c1 b1 s0 s1
  go_wp2_with fail
  go_quiet (fail)
  go_wp2_with fail
  go_ret2
  exact⟨_,_,rfl,t1.drewN _,bj bel _⟩
theorem gG (b:Bk)(ao:Option Addr)(cap:Nat)(w:World)(hr:Sl w ao cap (b.bits.map Value.bool))(hl:b.bits.length<=140737488355328):
  Calls Tryz.prog 61 #[ep b ao cap] w fun e w'=>∃a' G,e=.returned (.tuple #[.slice a' (aX b).length G,.int .i64 (bI b)])/\aI w' a' G (aX b)/\Below w.heap.size w w':=by
 by_cases h:fO b.bits b.n=0
 .by_cases h0:(dJ b.bits b.n).length=0
  .have hf:kc b (dJ b.bits b.n)=false:=decide_eq_false (by omega)
   have he:bI b=4:=by unfold bI;rw[if_pos h,hf];rfl
   have hL:aX b=[]:=by unfold aX;rw[he];rfl
   rw[he,hL]
   refine(vN b ao cap w hr hl h h0).mono ?_
   rintro e w' ⟨rfl,hb⟩
   exact⟨none,0,rfl,aI.ofNil _,hb⟩
  .cases hf:kc b (dJ b.bits b.n) with
   |true=>
    have he:bI b=0:=by unfold bI;rw[if_pos h,hf];rfl
    have hL:aX b=dJ b.bits b.n:=by unfold aX;rw[he];rfl
    rw[he,hL]
    refine(pJ b ao cap w hr hl h (by omega)).mono ?_
    rw[hf]
    rintro e w' ⟨a',G,rfl,hs,hb⟩
    exact⟨a',G,rfl,hs,hb⟩
   |false=>
    have he:bI b=4:=by unfold bI;rw[if_pos h,hf];rfl
    have hL:aX b=[]:=by unfold aX;rw[he];rfl
    rw[he,hL]
    refine(pJ b ao cap w hr hl h (by omega)).mono ?_
    rw[hf]
    rintro e w' ⟨a',G,rfl,hs,hb⟩
    exact⟨none,0,rfl,aI.ofNil _,hb⟩
 .have he:bI b=fO b.bits b.n:=if_neg h
  have hL:aX b=[]:=by unfold aX;rw[he,if_neg h]
  rw[he,hL]
  refine(wJ b ao cap w hr hl h).mono ?_
  rintro e w' ⟨rfl,hb⟩
  exact⟨none,0,rfl,aI.ofNil _,hb⟩
end Go.Proofs.YtoonnbhoiocoeaaGreatDoor
namespace Go.Proofs.YtoonnbhoiocoeaaGreatDoor
open Go.RowKit
theorem CC (r:Lr)(w:World)(h:8<r.bs.length)(hf:r.bs.length<=140737488355328):
  Calls Tryz.prog 20 #[r.v] w fun e w'=>e=.returned (.tuple #[.slice none 0 0,.int .i64 2])/\Below w.heap.size w w':=by
 obtain⟨bs,ba,bc,hd,ha,hc⟩:=r
 unfold Lr.v
 simp only at*
 generalize bs.length=n at*
 generalize hd.length=m at*
 have h':(8:Int)<n:=by omega
 go_enter Tryz.func20,Tryz.ntmps20
 go_wp2_with fail
 go_ret2
 exact⟨rfl,(Below.refl _ _).alloc (Nat.le_refl _) _⟩
theorem Fk (r:Lr)(w:World)(hg:r.Good w)(h:r.bs.length<=8):
  Calls Tryz.prog 20 #[r.v] w fun e w'=>∃a' G,e=.returned (.tuple #[.slice a' (og r.rw).length G,.int .i64 (dV r.rw)])/\aI w' a' G (og r.rw)/\Below w.heap.size w w':=by
 obtain⟨L,hL⟩:∃L,L=og r.rw:=⟨_,rfl⟩
 obtain⟨E,hE⟩:∃E,E=dV r.rw:=⟨_,rfl⟩
 rw[<-hL,<-hE]
 have kX:E=if bV (r.bs.map Lb.b)=0 then aJ (dm (r.bs.map Lb.b)++r.hd) else bV (r.bs.map Lb.b):=by
  rw[hE];unfold dV;rw[if_neg (by unfold Lr.rw;simp only[List.length_map];omega)];rfl
 have MC:L=if E=0 then dm (r.bs.map Lb.b)++r.hd else []:=by rw[hL];unfold og;rw[<-hE];rfl
 clear hL hE
 obtain⟨bs,ba,bc,hd,ha,hc⟩:=r
 obtain⟨sb,sh,-,hfew⟩:=hg
 unfold Lr.v
 simp only at*
 obtain⟨n,hn⟩:∃n,n=bs.length:=⟨_,rfl⟩
 obtain⟨m,hm⟩:∃m,m=hd.length:=⟨_,rfl⟩
 rw[<-hn] at h⊢
 rw[<-hm] at hfew⊢
 have h':(n:Int)<=8:=by omega
 replace hn:=hide hn
 replace hm:=hide hm
 have H0:Hid (E=if bV ((bs.drop 0).map Lb.b)=0 then aJ (([]++dm ((bs.drop 0).map Lb.b))++hd) else bV ((bs.drop 0).map Lb.b)):=by rw[List.drop_zero,List.nil_append];exact kX
 have H1:Hid (L=if E=0 then([]++dm ((bs.drop 0).map Lb.b))++hd else []):=by rw[List.drop_zero,List.nil_append];exact MC
 clear kX MC
 obtain⟨i0,hi,bU,bi,bk⟩:=info_parts jy
 go_enter Tryz.func20,Tryz.ntmps20
 go_wp2_with fail
 have B0:=ac.laid w [.slice ba n bc,.slice ha m hc] 53 _ rfl
 have de:Below w.heap.size w (w.alloc (.cells #[.slice ba n bc,.slice ha m hc] 53)):=(Below.refl _ _).alloc (Nat.le_refl _) _
 generalize w.alloc _=w1 at*
 go_loopw [17,4] (fun i o wr=>∃(k G:Nat) (a':Option Addr) (O:List Pt),k<=n/\i=.int .i64 k/\o=.slice a' O.length G/\O.length<=40*k/\wr.ownsRow (w.heap.size+1) 56 2 (.slice a' O.length G) O.length (am O)/\
   Hid (E=if bV ((bs.drop k).map Lb.b)=0 then aJ ((O++dm ((bs.drop k).map Lb.b))++hd) else bV ((bs.drop k).map Lb.b))/\Hid (L=if E=0 then(O++dm ((bs.drop k).map Lb.b))++hd else [])/\
   ac wr w.heap.size [.slice ba n bc,.slice ha m hc] 53/\Below w.heap.size w wr) (fun i _ _=>n-(intOf i).toNat)
 case atStart=>exact⟨0,0,none,[],by omega,rfl,rfl,by simp,World.ownsRow_nil _ _ _ _,H0,H1,B0,de⟩
 case round=>
  clear H0 H1 B0 de
  obtain⟨k,G,a',O,hk,rfl,rfl,hO,own,H0,H1,B,bel⟩:=hrel
  by_cases az:k<n
  .have hs:=sb.keep bel (Nat.le_refl _)
   obtain⟨b,off,rfl,pL⟩:=hs.where (by intro e;rw[hn.out,e] at az;simp at az)
   obtain⟨x,hx⟩:∃x,bs[k]? =some x:=⟨_,List.getElem?_eq_getElem (by rw[<-hn.out];exact az)⟩
   obtain⟨e0,e1,e2,e3,gx⟩:=hs.at k x hx
   have hd:bs.drop k=x::bs.drop (k+1):=by
    obtain⟨fK,rfl⟩:=List.getElem?_eq_some_iff.1 hx
    exact List.drop_eq_getElem_cons fK
   have aP:=H0.out
   have eY:=H1.out
   rw[hd,List.map_cons] at aP eY
   clear H0 H1 hd hx
   obtain⟨⟨xn,xf,xT,X⟩,xa,xc⟩:=x
   obtain⟨gb,gf⟩:=gx
   simp only at*
   have c1:=fun W h=>gG ⟨xn,xf,xT,X⟩ xa xc W h gf
   have pl:=iY ⟨xn,xf,xT,X⟩
   by_cases hp:bI ⟨xn,xf,xT,X⟩=0
   .have pp:=iS hp
    rw[bV,if_pos hp,show dm (⟨xn,xf,xT,X⟩::(bs.drop (k+1)).map Lb.b)=aX ⟨xn,xf,xT,X⟩++dm ((bs.drop (k+1)).map Lb.b) from rfl,<-List.append_assoc] at aP
    rw[show dm (⟨xn,xf,xT,X⟩::(bs.drop (k+1)).map Lb.b)=aX ⟨xn,xf,xT,X⟩++dm ((bs.drop (k+1)).map Lb.b) from rfl,<-List.append_assoc] at eY
    rw[hp] at c1
    generalize aX ⟨xn,xf,xT,X⟩=P at*
    replace aP:=hide aP
    replace eY:=hide eY
    have AX:=aK P
    have RA:=fW P
    have RQ:P≠[]:=by intro e;rw[e] at pp;simp at pp
    have rQ:(O++P).length=O.length+P.length:=List.length_append
    have mG:=cq O P
    obtain⟨on,qg⟩:∃on,on=O.length:=⟨_,rfl⟩
    obtain⟨pn,Bl⟩:∃pn,pn=P.length:=⟨_,rfl⟩
    rw[<-qg] at own hO rQ
    rw[<-Bl] at c1 pp pl AX rQ
    replace AX:=hide AX
    replace rQ:=hide rQ
    replace mG:=hide mG
    replace qg:=hide qg
    clear Bl hp
    rw[<-qg.out]
    unfold ep at c1
    simp only at c1
    go_wp2_with fail
    go_at_call 61
    refine(c1 _ (gb.alloc _)).mono ?_
    rintro e w2 ⟨a2,G2,rfl,s2,b2⟩
    have eM:=dt (own.alloc _) b2
    have B2:=(B.alc _).keep b2 (B.alc _).lt
    have al:=aa (av bel _) b2
    have dz:w.heap.size+1<=w2.heap.size:=B2.lt
    obtain⟨yb,yo,rfl,Ob⟩:=s2.where RQ
    have tX:∀j u,(am P)[j]? =some u->w2.cell? ((⟨yb,yo,none⟩:Addr).add j)=some u:=by
     intro j u hu
     obtain⟨b',k8,e,_,hc⟩:=s2.row.at (by intro e;rw[e] at hu;simp at hu)
     simp only[Option.some.injEq,Addr.mk.injEq,and_true] at e
     obtain⟨rfl,rfl⟩:=e
     rw[Addr.add_lit]
     exact hc j u hu
    clear c1 b2 own B bel s2 e0 e1 e2 e3
    go_wp2_with (at_builtin;refine dX _ rfl (.tmp 29) (.tmp 30) 42 rfl (w.heap.size+1) 56 i0 (.agg #[.int .i64 0,.int .i64 0]) 2 16 Tryz.underlying42 hi bU bi bk rfl (by decide) _ on _ rfl eM ⟨yb,yo,none⟩ pn _ (am P) rfl AX.out tX RA pp (by unfold maxLen;omega) (by omega) dz ?_)
    intro v3 w3 eN ji _
    have ay:=aH al eM ji (Nat.le_succ _) al.size
    have B3:=B2.grown ji (fun j hj=>by have:=(eM.lt j hj).1;omega)
    rw[<-mG.out] at eN
    obtain⟨a3,G3,rfl,_,_,_⟩:=aI.ofOwn eN
    go_wp2_with fail
    go_roundw
    case rel=>exact⟨k+1,G3,a3,O++P,by omega,by go_num,by rw[rQ.out],by rw[rQ.out];omega,by rw[rQ.out];exact eN,aP,eY,B3,ay⟩
    case measure=>simp[intOf];omega
   .have Cp:E=bI ⟨xn,xf,xT,X⟩:=by rw[aP,bV,if_neg hp];simp[hp]
    have BV:L=[]:=by rw[eY,Cp,if_neg hp]
    clear aP eY
    generalize bI ⟨xn,xf,xT,X⟩=F at*
    generalize aX ⟨xn,xf,xT,X⟩=P at*
    replace Cp:=hide Cp
    replace BV:=hide BV
    clear pl
    unfold ep at c1
    simp only at c1
    go_wp2_with fail
    go_at_call 61
    refine(c1 _ (gb.alloc _)).mono ?_
    rintro e w2 ⟨a2,G2,rfl,s2,b2⟩
    have al:=aa (av bel _) b2
    go_wp2_with fail
    go_ret2
    exact⟨none,0,by rw[Cp.out,BV.out];rfl,by rw[BV.out];exact aI.ofNil _,al⟩
  .obtain rfl:k=n:=by omega
   have aP:=H0.out
   have eY:=H1.out
   rw[hn.out,List.drop_length] at aP eY
   simp only[List.map_nil,bV,dm,List.flatMap_nil,List.append_nil,if_true] at aP eY
   clear H0 H1
   have e1:w.heap.size<wr.heap.size:=B.lt
   have d1:wr.cell? ⟨w.heap.size,1,none⟩=some (.slice ha m hc):=B.cell 1
   have Ik:=sh.keep bel (Nat.le_refl _)
   have c2:=fun a c W h=>ny a c (O++hd) W h
   rw[<-aP,List.length_append,<-hm.out] at c2
   have mG:=cq O hd
   have Ci:=aK hd
   have gI:=fW hd
   rw[<-hm.out] at Ci
   obtain⟨on,qg⟩:∃on,on=O.length:=⟨_,rfl⟩
   rw[<-qg] at own hO c2⊢
   have aw:(O++hd).length=on+m:=by rw[List.length_append,<-qg,<-hm.out]
   replace aw:=hide aw
   replace mG:=hide mG
   replace Ci:=hide Ci
   replace aP:=hide aP
   replace eY:=hide eY
   clear qg
   cases ha with
   |none=>
    have h1:=Ik.nil rfl
    have h2:=Ik.le
    have h3:hd=[]:=List.eq_nil_of_length_eq_zero (by omega)
    obtain rfl:m=0:=by rw[hm.out,h3];rfl
    subst h1
    have Izo:wr.ownsRow (w.heap.size+1) 56 2 (.slice a' on G) on (am (O++hd)):=by rw[h3,List.append_nil];exact own
    obtain⟨a3,G3,e3,s3,_,_⟩:=aI.ofOwn Izo
    simp only[Value.slice.injEq,true_and] at e3
    obtain⟨rfl,rfl⟩:=e3
    have ay:=bel
    replace h3:=hide h3
    clear h2 Izo
    go_wp2_with (at_builtin;refine wpList_append_own_none rfl (.tmp 33) (.tmp 35) 42 rfl (w.heap.size+1) 56 i0 2 Tryz.underlying42 hi _ on _ rfl own rfl ?_)
    go_wp2_with fail
    go_at_call 62
    refine(c2 _ _ _ s3).mono ?_
    rintro e w4 ⟨rfl,b4⟩
    have aC:=aa ay b4
    have s4:=s3.call b4
    by_cases hE:E=0
    .have eL:L=O++hd:=by rw[eY.out,if_pos hE]
     have zE:=hide hE
     replace eL:=hide eL
     have hz:(E==0)=true:=by simpa using hE
     clear hE
     go_wp2_with fail
     go_ret2
     exact⟨_,_,by rw[eL.out,aw.out,zE.out];rfl,by rw[eL.out];exact s4,aC⟩
    .have eL:L=[]:=by rw[eY.out,if_neg hE]
     replace eL:=hide eL
     go_wp2_with fail
     go_ret2
     exact⟨none,0,by rw[eL.out];rfl,by rw[eL.out];exact aI.ofNil _,aC⟩
   |some ad=>
    have tX:∀j u,(am hd)[j]? =some u->wr.cell? (ad.add j)=some u:=by
     intro j u hu
     obtain⟨b',k8,e,_,hc⟩:=Ik.row.at (by intro e;rw[e] at hu;simp at hu)
     obtain rfl:=Option.some.inj e
     rw[Addr.add_lit]
     exact hc j u hu
    go_wp2_with (at_builtin;refine wpList_append_own_wide _ rfl (.tmp 33) (.tmp 35) 42 rfl (w.heap.size+1) 56 i0 (.agg #[.int .i64 0,.int .i64 0]) 2 16 Tryz.underlying42 hi bU bi bk rfl (by decide) _ on _ rfl own ad m _ (am hd) rfl Ci.out tX gI (by unfold maxLen;omega) (by omega) e1 ?_)
    intro v3 w3 eN ji _
    have ay:=aH bel own ji (Nat.le_succ _) bel.size
    rw[<-mG.out] at eN
    obtain⟨a3,G3,rfl,s3,_,_⟩:=aI.ofOwn eN
    clear eN ji own
    go_wp2_with fail
    go_at_call 62
    refine(c2 _ _ _ s3).mono ?_
    rintro e w4 ⟨rfl,b4⟩
    have aC:=aa ay b4
    have s4:=s3.call b4
    by_cases hE:E=0
    .have eL:L=O++hd:=by rw[eY.out,if_pos hE]
     have zE:=hide hE
     replace eL:=hide eL
     have hz:(E==0)=true:=by simpa using hE
     clear hE
     go_wp2_with fail
     go_ret2
     exact⟨_,_,by rw[eL.out,aw.out,zE.out];rfl,by rw[eL.out];exact s4,aC⟩
    .have eL:L=[]:=by rw[eY.out,if_neg hE]
     replace eL:=hide eL
     go_wp2_with fail
     go_ret2
     exact⟨none,0,by rw[eL.out];rfl,by rw[eL.out];exact aI.ofNil _,aC⟩
theorem qd (r:Lr)(w:World)(hg:r.Good w):
  Calls Tryz.prog 20 #[r.v] w fun e w'=>∃a' G,e=.returned (.tuple #[.slice a' (og r.rw).length G,.int .i64 (dV r.rw)])/\aI w' a' G (og r.rw)/\Below w.heap.size w w':=by
 by_cases h:r.bs.length<=8
 .exact Fk r w hg h
 .have hE:dV r.rw=2:=by unfold dV;rw[if_pos (by unfold Lr.rw;simp only[List.length_map];omega)]
  have hL:og r.rw=[]:=by unfold og;rw[hE];rfl
  rw[hE,hL]
  refine(CC r w (by omega) hg.few).mono ?_
  rintro e w' ⟨rfl,hb⟩
  exact⟨none,0,rfl,aI.ofNil _,hb⟩
end Go.Proofs.YtoonnbhoiocoeaaGreatDoor
namespace Go.Proofs.YtoonnbhoiocoeaaGreatDoor
open Go.RowKit
end Go.Proofs.YtoonnbhoiocoeaaGreatDoor
namespace Go.Proofs.YtoonnbhoiocoeaaGreatDoor
open Go.RowKit
theorem CD (a b:Bk)(ao bo:Option Addr)(ca cb:Nat)(w:World)(ha:Sl w ao ca (a.bits.map Value.bool))(hb:Sl w bo cb (b.bits.map Value.bool))(la:a.bits.length<=140737488355328)(lb:b.bits.length<=140737488355328):
  Calls Tryz.prog 78 #[ep a ao ca,ep b bo cb] w fun e w'=>e=.returned (.bool (mP a b))/\Below w.heap.size w w':=by
 obtain⟨an,af,aT,X⟩:=a
 obtain⟨bn,bf,bT,Y⟩:=b
 unfold ep mP
 simp only at*
 have c1:=fun W h k=>wZ ao bo ca cb X Y W h k (by omega) (by omega)
 generalize decide (X=Y)=D at*
 clear la lb
 have sa:=fun o1 o2=>(ha.alloc o1).alloc o2
 have sb:=fun o1 o2=>(hb.alloc o1).alloc o2
 by_cases h1:an=bn
 .subst h1
  by_cases h2:af=bf
  .subst h2
   by_cases h3:aT=bT
   .subst h3
    go_enter Tryz.func78,Tryz.ntmps78
    go_wp2_with fail
    go_at_call 110
    refine(c1 _ (sa _ _).row (sb _ _).row).mono ?_
    rintro e w1 ⟨rfl,q,rfl⟩
    go_wp2_with fail
    go_ret
    exact⟨by simp,bj (dG w _ _) q⟩
   .go_enter Tryz.func78,Tryz.ntmps78
    go_wp2_with fail
    go_ret
    exact⟨by simp[h3],dG w _ _⟩
  .go_enter Tryz.func78,Tryz.ntmps78
   go_wp2_with fail
   go_ret
   exact⟨by simp[h2],dG w _ _⟩
 .go_enter Tryz.func78,Tryz.ntmps78
  go_wp2_with fail
  go_ret
  exact⟨by simp[h1],dG w _ _⟩
end Go.Proofs.YtoonnbhoiocoeaaGreatDoor
namespace Go.Proofs.YtoonnbhoiocoeaaGreatDoor
open Go.RowKit
theorem vy:∀l m,dY l m=true->l.length=m.length
 | [],[],_=>rfl
 |x::r,y::s,h=>by
  rw[dY,Bool.and_eq_true] at h
  rw[List.length_cons,List.length_cons,vy r s h.2]
 | [],y::s,h=>by cases h
 |x::r,[],h=>by cases h
theorem Lh (l m:List Lb)(a1 a2:Option Addr)(c1 c2:Nat)(w:World)(h1:pj w a1 c1 l)(h2:pj w a2 c2 m)(hl:l.length<=140737488355328):
  Calls Tryz.prog 77 #[.slice a1 l.length c1,.slice a2 m.length c2,.func (.func 78) #[] #[]] w fun e w'=>e=.returned (.bool (dY (l.map Lb.b) (m.map Lb.b)))/\Below w.heap.size w w':=by
 by_cases aF:l.length=m.length
 .obtain⟨D,hD⟩:∃D,D=dY (l.map Lb.b) (m.map Lb.b):=⟨_,rfl⟩
  rw[<-hD]
  have H0:Hid (D=dY ((l.drop 0).map Lb.b) ((m.drop 0).map Lb.b)):=by rw[List.drop_zero,List.drop_zero];exact hD
  clear hD
  rw[<-aF]
  obtain⟨n,hn⟩:∃n,n=l.length:=⟨_,rfl⟩
  rw[<-hn] at aF hl⊢
  replace hn:=hide hn
  replace aF:=hide aF
  have de:=Below.refl w.heap.size w
  go_enter Tryz.func77,Tryz.ntmps77
  go_wp2_with fail
  go_loopw [17] (fun i wr=>∃(k:Nat),k<=n/\i=.int .i64 k/\Hid (D=dY ((l.drop k).map Lb.b) ((m.drop k).map Lb.b))/\Below w.heap.size w wr) (fun i _=>n-(intOf i).toNat)
  case atStart=>exact⟨0,by omega,rfl,H0,de⟩
  case round=>
   clear H0 de
   obtain⟨k,hk,rfl,H0,bel⟩:=hrel
   by_cases az:k<n
   .have dZ:=h1.keep bel (Nat.le_refl _)
    have gM:=h2.keep bel (Nat.le_refl _)
    obtain⟨b1,o1,rfl,mX⟩:=dZ.where (by intro e;rw[hn.out,e] at az;simp at az)
    obtain⟨b2,o2,rfl,jt⟩:=gM.where (by intro e;rw[aF.out,e] at az;simp at az)
    obtain⟨x,hx⟩:∃x,l[k]? =some x:=⟨_,List.getElem?_eq_getElem (by rw[<-hn.out];exact az)⟩
    obtain⟨y,hy⟩:∃y,m[k]? =some y:=⟨_,List.getElem?_eq_getElem (by rw[<-aF.out];exact az)⟩
    obtain⟨e0,e1,e2,e3,gx⟩:=dZ.at k x hx
    obtain⟨f0,f1,f2,f3,gy⟩:=gM.at k y hy
    have rf:l.drop k=x::l.drop (k+1):=by
     obtain⟨fK,rfl⟩:=List.getElem?_eq_some_iff.1 hx
     exact List.drop_eq_getElem_cons fK
    have nF:m.drop k=y::m.drop (k+1):=by
     obtain⟨fK,rfl⟩:=List.getElem?_eq_some_iff.1 hy
     exact List.drop_eq_getElem_cons fK
    have aP:=H0.out
    rw[rf,nF,List.map_cons,List.map_cons,dY] at aP
    have c1:=fun W (h:x.Good W) (k:y.Good W)=>CD x.b y.b x.a y.a x.c y.c W h.bits k.bits h.few k.few
    unfold ep at c1
    clear H0 rf nF hx hy dZ gM
    have sx:=fun o1 o2=>(gx.alloc o1).alloc o2
    have sy:=fun o1 o2=>(gy.alloc o1).alloc o2
    cases hS:mP x.b y.b with
    |true=>
     rw[hS,Bool.true_and] at aP
     rw[hS] at c1
     replace aP:=hide aP
     clear hS
     go_wp2_with fail
     go_at_call 78
     refine(c1 _ (sx _ _) (sy _ _)).mono ?_
     rintro e w2 ⟨rfl,b2⟩
     have al:=aa (av (av bel _) _) b2
     go_wp2_with fail
     go_roundw
     case rel=>exact⟨k+1,by omega,by go_num,aP,al⟩
     case measure=>simp[intOf];omega
    |false=>
     rw[hS,Bool.false_and] at aP
     rw[hS] at c1
     replace aP:=hide aP
     clear hS
     go_wp2_with fail
     go_at_call 78
     refine(c1 _ (sx _ _) (sy _ _)).mono ?_
     rintro e w2 ⟨rfl,b2⟩
     have al:=aa (av (av bel _) _) b2
     go_wp2_with fail
     go_ret
     exact⟨by rw[aP.out];rfl,al⟩
   .obtain rfl:k=n:=by omega
    have aP:=H0.out
    rw[List.drop_eq_nil_of_le (by rw[hn.out];exact Nat.le_refl _),List.drop_eq_nil_of_le (by rw[aF.out];exact Nat.le_refl _)] at aP
    replace aP:=hide aP
    clear H0
    go_wp2_with fail
    go_ret
    exact⟨by rw[aP.out];rfl,bel⟩
 .have hS:dY (l.map Lb.b) (m.map Lb.b)=false:=by
   cases hS:dY (l.map Lb.b) (m.map Lb.b) with
   |false=>rfl
   |true=>
    have:=vy _ _ hS
    rw[List.length_map,List.length_map] at this
    exact absurd this aF
  rw[hS]
  have Ac:¬(l.length:Int)=m.length:=by omega
  generalize l.length=n1 at*
  generalize m.length=n2 at*
  clear hS h1 h2
  go_enter Tryz.func77,Tryz.ntmps77
  go_wp2_with fail
  go_ret
  exact⟨rfl,Below.refl _ _⟩
theorem AO (r q:Lr)(w:World)(hr:r.Good w)(hq:q.Good w):
  Calls Tryz.prog 76 #[r.v,q.v] w fun e w'=>e=.returned (.bool (jU r.rw q.rw))/\Below w.heap.size w w':=by
 have c1:=fun W h k=>Lh r.bs q.bs r.ba q.ba r.bc q.bc W h k hr.few
 have f1:=hr.hfew
 have f2:=hq.hfew
 have c2:=fun W h k=>oG r.ha q.ha r.hc q.hc r.hd q.hd W h k (by omega) (by omega)
 have s1:=fun o1 o2=>(hr.bs.alloc o1).alloc o2
 have s2:=fun o1 o2=>(hq.bs.alloc o1).alloc o2
 have t1:=fun o1 o2=>(hr.hd.alloc o1).alloc o2
 have t2:=fun o1 o2=>(hq.hd.alloc o1).alloc o2
 obtain⟨bs,ba,bc,hd,ha,hc⟩:=r
 obtain⟨ds,da,dc,gd,ga,gc⟩:=q
 unfold Lr.v jU Lr.rw
 simp only at*
 clear hr hq f1 f2
 cases hS:dY (bs.map Lb.b) (ds.map Lb.b) with
 |true=>
  rw[hS] at c1
  rw[Bool.true_and]
  generalize decide (hd=gd)=D at*
  clear hS
  generalize bs.length=n1 at*
  generalize ds.length=n2 at*
  generalize hd.length=n3 at*
  generalize gd.length=n4 at*
  go_enter Tryz.func76,Tryz.ntmps76
  go_wp2_with fail
  have B0:=(ac.laid w [.slice ba n1 bc,.slice ha n3 hc] 53 _ rfl).alc (.cells #[.slice da n2 dc,.slice ga n4 gc] 53)
  have B1:=ac.laid (w.alloc (.cells #[.slice ba n1 bc,.slice ha n3 hc] 53)) [.slice da n2 dc,.slice ga n4 gc] 53 (w.heap.size+1) (by simp)
  have bel:=dG w (.cells #[.slice ba n1 bc,.slice ha n3 hc] 53) (.cells #[.slice da n2 dc,.slice ga n4 gc] 53)
  replace s1:=s1 (.cells #[.slice ba n1 bc,.slice ha n3 hc] 53) (.cells #[.slice da n2 dc,.slice ga n4 gc] 53)
  replace s2:=s2 (.cells #[.slice ba n1 bc,.slice ha n3 hc] 53) (.cells #[.slice da n2 dc,.slice ga n4 gc] 53)
  replace t1:=t1 (.cells #[.slice ba n1 bc,.slice ha n3 hc] 53) (.cells #[.slice da n2 dc,.slice ga n4 gc] 53)
  replace t2:=t2 (.cells #[.slice ba n1 bc,.slice ha n3 hc] 53) (.cells #[.slice da n2 dc,.slice ga n4 gc] 53)
  generalize(w.alloc _).alloc _=w1 at*
  go_at_call 77
  refine(c1 _ s1 s2).mono ?_
  rintro e w2 ⟨rfl,b2⟩
  replace B0:=B0.keep b2 B0.lt
  replace B1:=B1.keep b2 B1.lt
  replace bel:=aa bel b2
  replace t1:=t1.call b2
  replace t2:=t2.call b2
  clear b2 s1 s2 c1
  have d0:w2.cell? ⟨w.heap.size,1,none⟩=some (.slice ha n3 hc):=B0.cell 1
  have d1:w2.cell? ⟨w.heap.size+1,1,none⟩=some (.slice ga n4 gc):=B1.cell 1
  go_wp2_with fail
  go_at_call 21
  refine(c2 _ t1 t2).mono ?_
  rintro e w3 ⟨rfl,q,rfl⟩
  go_wp2_with fail
  go_ret
  exact⟨rfl,bj bel _⟩
 |false=>
  rw[hS] at c1
  rw[Bool.false_and]
  clear hS c2
  generalize bs.length=n1 at*
  generalize ds.length=n2 at*
  generalize hd.length=n3 at*
  generalize gd.length=n4 at*
  go_enter Tryz.func76,Tryz.ntmps76
  go_wp2_with fail
  go_at_call 77
  refine(c1 _ (s1 _ _) (s2 _ _)).mono ?_
  rintro e w2 ⟨rfl,b2⟩
  have al:=aa (dG w _ _) b2
  go_wp2_with fail
  go_ret
  exact⟨rfl,al⟩
theorem vf:∀l m,bv l m=true->l.length=m.length
 | [],[],_=>rfl
 |x::r,y::s,h=>by
  rw[bv,Bool.and_eq_true] at h
  rw[List.length_cons,List.length_cons,vf r s h.2]
 | [],y::s,h=>by cases h
 |x::r,[],h=>by cases h
theorem Mz (l m:List Lr)(a1 a2:Option Addr)(c1 c2:Nat)(w:World)(h1:bJ w a1 c1 l)(h2:bJ w a2 c2 m)(hl:l.length<=140737488355328):
  Calls Tryz.prog 75 #[.slice a1 l.length c1,.slice a2 m.length c2,.func (.func 76) #[] #[]] w fun e w'=>e=.returned (.bool (bv (l.map Lr.rw) (m.map Lr.rw)))/\Below w.heap.size w w':=by
 by_cases aF:l.length=m.length
 .obtain⟨D,hD⟩:∃D,D=bv (l.map Lr.rw) (m.map Lr.rw):=⟨_,rfl⟩
  rw[<-hD]
  have H0:Hid (D=bv ((l.drop 0).map Lr.rw) ((m.drop 0).map Lr.rw)):=by rw[List.drop_zero,List.drop_zero];exact hD
  clear hD
  rw[<-aF]
  obtain⟨n,hn⟩:∃n,n=l.length:=⟨_,rfl⟩
  rw[<-hn] at aF hl⊢
  replace hn:=hide hn
  replace aF:=hide aF
  have de:=Below.refl w.heap.size w
  go_enter Tryz.func75,Tryz.ntmps75
  go_wp2_with fail
  go_loopw [17] (fun i wr=>∃(k:Nat),k<=n/\i=.int .i64 k/\Hid (D=bv ((l.drop k).map Lr.rw) ((m.drop k).map Lr.rw))/\Below w.heap.size w wr) (fun i _=>n-(intOf i).toNat)
  case atStart=>exact⟨0,by omega,rfl,H0,de⟩
  case round=>
   clear H0 de
   obtain⟨k,hk,rfl,H0,bel⟩:=hrel
   by_cases az:k<n
   .have dZ:=h1.keep bel (Nat.le_refl _)
    have gM:=h2.keep bel (Nat.le_refl _)
    obtain⟨b1,o1,rfl,mX⟩:=dZ.where (by intro e;rw[hn.out,e] at az;simp at az)
    obtain⟨b2,o2,rfl,jt⟩:=gM.where (by intro e;rw[aF.out,e] at az;simp at az)
    obtain⟨x,hx⟩:∃x,l[k]? =some x:=⟨_,List.getElem?_eq_getElem (by rw[<-hn.out];exact az)⟩
    obtain⟨y,hy⟩:∃y,m[k]? =some y:=⟨_,List.getElem?_eq_getElem (by rw[<-aF.out];exact az)⟩
    obtain⟨e0,e1,gx⟩:=dZ.at k x hx
    obtain⟨f0,f1,gy⟩:=gM.at k y hy
    have rf:l.drop k=x::l.drop (k+1):=by
     obtain⟨fK,rfl⟩:=List.getElem?_eq_some_iff.1 hx
     exact List.drop_eq_getElem_cons fK
    have nF:m.drop k=y::m.drop (k+1):=by
     obtain⟨fK,rfl⟩:=List.getElem?_eq_some_iff.1 hy
     exact List.drop_eq_getElem_cons fK
    have aP:=H0.out
    rw[rf,nF,List.map_cons,List.map_cons,bv] at aP
    have c1:=fun W (h:x.Good W) (k:y.Good W)=>AO x y W h k
    unfold Lr.v at c1
    clear H0 rf nF hx hy dZ gM
    have sx:=fun o1 o2=>(gx.alloc o1).alloc o2
    have sy:=fun o1 o2=>(gy.alloc o1).alloc o2
    cases hS:jU x.rw y.rw with
    |true=>
     rw[hS,Bool.true_and] at aP
     rw[hS] at c1
     replace aP:=hide aP
     clear hS
     go_wp2_with fail
     go_at_call 76
     refine(c1 _ (sx _ _) (sy _ _)).mono ?_
     rintro e w2 ⟨rfl,b2⟩
     have al:=aa (av (av bel _) _) b2
     go_wp2_with fail
     go_roundw
     case rel=>exact⟨k+1,by omega,by go_num,aP,al⟩
     case measure=>simp[intOf];omega
    |false=>
     rw[hS,Bool.false_and] at aP
     rw[hS] at c1
     replace aP:=hide aP
     clear hS
     go_wp2_with fail
     go_at_call 76
     refine(c1 _ (sx _ _) (sy _ _)).mono ?_
     rintro e w2 ⟨rfl,b2⟩
     have al:=aa (av (av bel _) _) b2
     go_wp2_with fail
     go_ret
     exact⟨by rw[aP.out];rfl,al⟩
   .obtain rfl:k=n:=by omega
    have aP:=H0.out
    rw[List.drop_eq_nil_of_le (by rw[hn.out];exact Nat.le_refl _),List.drop_eq_nil_of_le (by rw[aF.out];exact Nat.le_refl _)] at aP
    replace aP:=hide aP
    clear H0
    go_wp2_with fail
    go_ret
    exact⟨by rw[aP.out];rfl,bel⟩
 .have hS:bv (l.map Lr.rw) (m.map Lr.rw)=false:=by
   cases hS:bv (l.map Lr.rw) (m.map Lr.rw) with
   |false=>rfl
   |true=>
    have:=vf _ _ hS
    rw[List.length_map,List.length_map] at this
    exact absurd this aF
  rw[hS]
  have Ac:¬(l.length:Int)=m.length:=by omega
  generalize l.length=n1 at*
  generalize m.length=n2 at*
  clear hS h1 h2
  go_enter Tryz.func75,Tryz.ntmps75
  go_wp2_with fail
  go_ret
  exact⟨rfl,Below.refl _ _⟩
theorem zn (l m:List Lr)(a1 a2:Option Addr)(c1 c2:Nat)(w:World)(h1:bJ w a1 c1 l)(h2:bJ w a2 c2 m)(hl:l.length<=140737488355328):
  Calls Tryz.prog 35 #[.agg #[.slice a1 l.length c1],.agg #[.slice a2 m.length c2]] w fun e w'=>e=.returned (.bool (bv (l.map Lr.rw) (m.map Lr.rw)))/\Below w.heap.size w w':=by
 have c:=fun W h k=>Mz l m a1 a2 c1 c2 W h k hl
 have s1:=fun o1 o2=>(h1.alloc o1).alloc o2
 have s2:=fun o1 o2=>(h2.alloc o1).alloc o2
 generalize bv (l.map Lr.rw) (m.map Lr.rw)=D at*
 generalize l.length=n1 at*
 generalize m.length=n2 at*
 go_enter Tryz.func35,Tryz.ntmps35
 go_wp2_with fail
 go_at_call 75
 refine(c _ (s1 _ _) (s2 _ _)).mono ?_
 rintro e w2 ⟨rfl,b2⟩
 have al:=aa (dG w _ _) b2
 go_wp2_with fail
 go_ret
 exact⟨rfl,al⟩
end Go.Proofs.YtoonnbhoiocoeaaGreatDoor
namespace Go.Proofs.YtoonnbhoiocoeaaGreatDoor
open Go.RowKit
theorem ED (ao:Option Addr)(cap:Nat)(l:List Pt)(w:World)(hr:aI w ao cap l)(h:aJ l=0)(hl:0<l.length):
  Calls Tryz.prog 131 #[.slice ao l.length cap] w fun e w'=>
   ∃a' G,e=.returned (.tuple #[.agg #[.int .i64 l.length,.int .i64 (firstT l),.int .i64 (k6 l),.slice a' (eg l).length G],.int .i64 0])/\Sl w' a' G ((eg l).map Value.bool)/\Below w.heap.size w w':=by
 have c1:=fun W h=>tb ao cap l W h
 rw[h] at c1
 have lT:=(eU h).1
 obtain⟨b,off,rfl,hb⟩:=hr.where (by intro e;rw[e] at hl;simp at hl)
 have s0:=fun W (h:aI W (some ⟨b,off,none⟩) cap l)=>h.first hl
 have s1:=fun W (h:aI W (some ⟨b,off,none⟩) cap l)=>h.last hl
 generalize eg l=P at*
 generalize firstT l=X at*
 generalize k6 l=Y at*
 obtain⟨n,hn⟩:∃n,n+1=l.length:=⟨l.length-1,by omega⟩
 rw[<-hn] at c1 s1 lT⊢
 clear hn hl h
 go_enter Tryz.func131,Tryz.ntmps131
 go_wp2_with fail
 go_at_call 168
 refine(c1 _ (hr.alloc _)).mono ?_
 rintro e w1 ⟨a1,G1,rfl,t1,b1⟩
 have B0:=(ac.laid w [.int .i64 0,.int .i64 0,.int .i64 0,.slice none 0 0] 107 _ rfl).keep b1 (by simp)
 have bel:=aa ((Below.refl _ _).alloc (Nat.le_refl _) _) b1
 have vS:=(hr.alloc _).call b1
 have e0:=s0 _ vS
 have e1:=s1 _ vS
 clear c1 s0 s1 b1
 simp only[Nat.add_sub_cancel] at e1
 have f0:=B0.free 0
 have f1:=B0.free 1
 have f2:=B0.free 2
 have f3:=B0.free 3
 have d0:w1.cell? ⟨w.heap.size,0,none⟩=some (.int .i64 0):=B0.cell 0
 have d1:w1.cell? ⟨w.heap.size,1,none⟩=some (.int .i64 0):=B0.cell 1
 have d2:w1.cell? ⟨w.heap.size,2,none⟩=some (.int .i64 0):=B0.cell 2
 have d3:w1.cell? ⟨w.heap.size,3,none⟩=some (.slice none 0 0):=B0.cell 3
 have js:=B0.lt
 go_wp2_with fail
 go_region
 go_wp2_with fail
 have B4:=(B0.put4 (.int .i64 ((n:Int)+1)) (.int .i64 X) (.int .i64 Y) (.slice a1 P.length G1)).drewS
 have aC:=ai (ig bel (g:=w.heap.size) (Nat.le_refl _) (.int .i64 ((n:Int)+1)) (.int .i64 X) (.int .i64 Y) (.slice a1 P.length G1))
 have t4:=(t1.put4 B0 (.int .i64 ((n:Int)+1)) (.int .i64 X) (.int .i64 Y) (.slice a1 P.length G1)).drewS
 generalize(World.setCell _ _ _).drew=w5 at*
 have i0:w5.cell? ⟨w.heap.size,0,none⟩=some (.int .i64 ((n:Int)+1)):=B4.cell 0
 have i1:w5.cell? ⟨w.heap.size,1,none⟩=some (.int .i64 X):=B4.cell 1
 have i2:w5.cell? ⟨w.heap.size,2,none⟩=some (.int .i64 Y):=B4.cell 2
 have i3:w5.cell? ⟨w.heap.size,3,none⟩=some (.slice a1 P.length G1):=B4.cell 3
 exact bodyPost_ret (v:=.tuple #[.agg #[.int .i64 ((n:Int)+1),.int .i64 X,.int .i64 Y,.slice a1 P.length G1],.int .i64 0]) (by simp[results,Tryz.results131,go_sem,i0,i1,i2,i3]) rfl ⟨a1,G1,by simp,t4,aC⟩
theorem Fg (ao:Option Addr)(cap:Nat)(l:List Pt)(w:World)(hr:aI w ao cap l)(h:¬fk l=0):
  Calls Tryz.prog 131 #[.slice ao l.length cap] w fun e w'=>
   e=.returned (.tuple #[.agg #[.int .i64 0,.int .i64 0,.int .i64 0,.slice none 0 0],.int .i64 (fk l)])/\Below w.heap.size w w':=by
 have c1:=fun W h=>tb ao cap l W h
 unfold fk at h⊢
 by_cases h0:aJ l=0
 .rw[h0] at c1
  rw[if_pos h0] at h⊢
  by_cases h1:l.length=0
  .rw[if_pos h1,h1]
   rw[h1] at c1
   generalize eg l=P at*
   clear h h0 h1
   go_enter Tryz.func131,Tryz.ntmps131
   go_wp2_with fail
   go_at_call 168
   refine(c1 _ (hr.alloc _)).mono ?_
   rintro e w1 ⟨a1,G1,rfl,t1,b1⟩
   have B0:=(ac.laid w [.int .i64 0,.int .i64 0,.int .i64 0,.slice none 0 0] 107 _ rfl).keep b1 (by simp)
   have bel:=aa ((Below.refl _ _).alloc (Nat.le_refl _) _) b1
   clear c1 b1
   have f0:=B0.free 0
   have f1:=B0.free 1
   have f2:=B0.free 2
   have f3:=B0.free 3
   have d0:w1.cell? ⟨w.heap.size,0,none⟩=some (.int .i64 0):=B0.cell 0
   have d1:w1.cell? ⟨w.heap.size,1,none⟩=some (.int .i64 0):=B0.cell 1
   have d2:w1.cell? ⟨w.heap.size,2,none⟩=some (.int .i64 0):=B0.cell 2
   have d3:w1.cell? ⟨w.heap.size,3,none⟩=some (.slice none 0 0):=B0.cell 3
   have js:=B0.lt
   go_wp2_with fail
   have B4:=B0.put4 (.int .i64 0) (.int .i64 0) (.int .i64 0) (.slice none 0 0)
   have aC:=ig bel (g:=w.heap.size) (Nat.le_refl _) (.int .i64 0) (.int .i64 0) (.int .i64 0) (.slice none 0 0)
   generalize World.setCell _ _ _=w5 at*
   have i0:w5.cell? ⟨w.heap.size,0,none⟩=some (.int .i64 0):=B4.cell 0
   have i1:w5.cell? ⟨w.heap.size,1,none⟩=some (.int .i64 0):=B4.cell 1
   have i2:w5.cell? ⟨w.heap.size,2,none⟩=some (.int .i64 0):=B4.cell 2
   have i3:w5.cell? ⟨w.heap.size,3,none⟩=some (.slice none 0 0):=B4.cell 3
   exact bodyPost_ret (v:=.tuple #[.agg #[.int .i64 0,.int .i64 0,.int .i64 0,.slice none 0 0],.int .i64 4]) (by simp[results,Tryz.results131,go_sem,i0,i1,i2,i3]) rfl ⟨rfl,aC⟩
  .rw[if_neg h1] at h
   exact absurd rfl h
 .rw[if_neg h0]
  generalize eg l=P at*
  generalize aJ l=E at*
  generalize l.length=n at*
  clear h
  go_enter Tryz.func131,Tryz.ntmps131
  go_wp2_with fail
  go_at_call 168
  refine(c1 _ (hr.alloc _)).mono ?_
  rintro e w1 ⟨a1,G1,rfl,t1,b1⟩
  have B0:=(ac.laid w [.int .i64 0,.int .i64 0,.int .i64 0,.slice none 0 0] 107 _ rfl).keep b1 (by simp)
  have bel:=aa ((Below.refl _ _).alloc (Nat.le_refl _) _) b1
  clear c1 b1
  have f0:=B0.free 0
  have f1:=B0.free 1
  have f2:=B0.free 2
  have f3:=B0.free 3
  have d0:w1.cell? ⟨w.heap.size,0,none⟩=some (.int .i64 0):=B0.cell 0
  have d1:w1.cell? ⟨w.heap.size,1,none⟩=some (.int .i64 0):=B0.cell 1
  have d2:w1.cell? ⟨w.heap.size,2,none⟩=some (.int .i64 0):=B0.cell 2
  have d3:w1.cell? ⟨w.heap.size,3,none⟩=some (.slice none 0 0):=B0.cell 3
  have js:=B0.lt
  go_wp2_with fail
  have B4:=B0.put4 (.int .i64 0) (.int .i64 0) (.int .i64 0) (.slice none 0 0)
  have aC:=ig bel (g:=w.heap.size) (Nat.le_refl _) (.int .i64 0) (.int .i64 0) (.int .i64 0) (.slice none 0 0)
  generalize World.setCell _ _ _=w5 at*
  have i0:w5.cell? ⟨w.heap.size,0,none⟩=some (.int .i64 0):=B4.cell 0
  have i1:w5.cell? ⟨w.heap.size,1,none⟩=some (.int .i64 0):=B4.cell 1
  have i2:w5.cell? ⟨w.heap.size,2,none⟩=some (.int .i64 0):=B4.cell 2
  have i3:w5.cell? ⟨w.heap.size,3,none⟩=some (.slice none 0 0):=B4.cell 3
  exact bodyPost_ret (v:=.tuple #[.agg #[.int .i64 0,.int .i64 0,.int .i64 0,.slice none 0 0],.int .i64 E]) (by simp[results,Tryz.results131,go_sem,i0,i1,i2,i3]) rfl ⟨rfl,aC⟩
theorem sM (ao:Option Addr)(cap:Nat)(l:List Pt)(w:World)(hr:aI w ao cap l):
  Calls Tryz.prog 131 #[.slice ao l.length cap] w fun e w'=>
   ∃a' G,e=.returned (.tuple #[ep (dx l) a' G,.int .i64 (fk l)])/\Sl w' a' G ((dx l).bits.map Value.bool)/\Below w.heap.size w w':=by
 by_cases h:fk l=0
 .have hc:aJ l=0/\0<l.length:=by
   unfold fk at h
   by_cases h0:aJ l=0
   .rw[if_pos h0] at h
    refine⟨h0,?_⟩
    by_cases h1:l.length=0
    .rw[if_pos h1] at h;cases h
    .omega
   .rw[if_neg h0] at h
    exact absurd h h0
  rw[qR hc.1 hc.2,h]
  exact ED ao cap l w hr hc.1 hc.2
 .have e:dx l=vM:=if_neg h
  rw[e]
  refine(Fg ao cap l w hr h).mono ?_
  rintro e w' ⟨rfl,b⟩
  exact⟨none,0,rfl,Sl.ofNil _,b⟩
end Go.Proofs.YtoonnbhoiocoeaaGreatDoor
namespace Go.Proofs.YtoonnbhoiocoeaaGreatDoor
open Go.RowKit
theorem yL:(Tryz.prog.info? 107).map (fun i=>(i.zero,i.size,i.bytes))=some (some (.agg #[.int .i64 0,.int .i64 0,.int .i64 0,.slice none 0 0]),4,48):=by kernel_rfl
theorem Pp (ao:Option Addr)(cap:Nat)(C:List Value)(n:Nat)(w:World)(dA:Row w ao C)(fF:n<=cap)(jq:ao=none->cap=0)(aw:C.length=n*4)(one:∀v∈C,v.oneCell'=true)(hl:n<=1000000000000):
  Calls Tryz.prog 132 #[.slice ao n cap] w fun e w'=>
   ∃v',e=.returned v'/\w'.ownsRow w.heap.size 107 4 v' n C/\Below w.heap.size w w':=by
 obtain⟨i0,hi,bU,bi,bk⟩:=info_parts yL
 have q:∀(w:World) (a:Option Addr) (n c n' c':Nat),(binOp .eql 51 (.slice a n c) (.slice none n' c')).run Tryz.prog w=.ok (.bool a.isNone) w:=fun w a n c n' c'=>Lib.run_eql_slice_nil w _ _ a n c n' c' Tryz.underlying51
 cases ao with
 |none=>
  obtain rfl:=jq rfl
  obtain rfl:n=0:=by omega
  obtain rfl:C=[]:=List.eq_nil_of_length_eq_zero aw
  clear aw
  go_enter Tryz.func132,Tryz.ntmps132
  go_wp2_with fail
  go_ret
  exact⟨_,rfl,World.ownsRow_nil _ _ _ _,Below.refl _ _⟩
 |some ad=>
  have fj:(w.alloc (.cells #[] 107)).ownsRow w.heap.size 107 4 (.slice (some ⟨w.heap.size,0,none⟩) 0 0) 0 []:=
   ⟨rfl,.inr ⟨w.heap.size,0,#[],rfl,Nat.le_refl _,heap_alloc_new w _,Nat.le_refl _,by decide,rfl,rfl⟩⟩
  have fZ:=(Below.refl w.heap.size w).alloc (Nat.le_refl _) (Obj.cells #[] 107)
  have hs:=dA.alloc (.cells #[] 107)
  have fc:∀j u,C[j]? =some u->(w.alloc (.cells #[] 107)).cell? (ad.add j)=some u:=by
   intro j u hu
   obtain⟨b',k8,e,_,hc⟩:=hs.at (by intro e;rw[e] at hu;simp at hu)
   obtain rfl:=Option.some.inj e
   rw[Addr.add_lit]
   exact hc j u hu
  have bA:w.heap.size<=(w.alloc (.cells #[] 107)).heap.size:=by simp
  replace aw:=hide aw
  clear dA hs jq
  go_enter Tryz.func132,Tryz.ntmps132
  go_wp2_with (at_builtin;refine wpList_append_own_wide _ rfl (.tmp 5) (.tmp 6) 51 rfl w.heap.size 107 i0 (.agg #[.int .i64 0,.int .i64 0,.int .i64 0,.slice none 0 0]) 4 48 Tryz.underlying51 hi bU bi bk rfl (by decide) _ 0 _ rfl fj ad n cap C rfl aw.out fc one (by unfold maxLen;omega) (by omega) bA ?_)
  intro v' w1 eB cY _
  have aU:=aH fZ fj cY (Nat.le_refl _) bA
  obtain⟨a1,c1,rfl⟩:∃a1 c1,v'=.slice a1 n c1:=by
   rcases eB.2 with⟨rfl,h0⟩| ⟨g,cp,cur,rfl,_⟩
   .subst h0
    exact⟨_,_,rfl⟩
   .exact⟨_,_,rfl⟩
  go_wp2_with fail
  go_ret
  exact⟨_,rfl,eB,aU⟩
end Go.Proofs.YtoonnbhoiocoeaaGreatDoor
