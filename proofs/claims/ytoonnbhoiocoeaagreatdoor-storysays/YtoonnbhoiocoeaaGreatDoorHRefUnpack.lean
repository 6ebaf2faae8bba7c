/-
  The reference's UnpackedOf: what it returns, for all bits and every number; nothing that was there is written.
-/
import Derived.Test.YtoonnbhoiocoeaaGreatDoorP30
import Derived.Test.YtoonnbhoiocoeaaGreatDoorP03
set_option maxHeartbeats 40000000
set_option maxRecDepth 100000
set_option linter.unusedVariables false
namespace Go.Proofs.YtoonnbhoiocoeaaGreatDoor
open Go.RowKit
theorem NU (w:World)(l:List Pt)(cs:Array Value)(i':cs.toList=am l)(t:TypeId)(n:Nat)(hn:l.length=n)(hm:n<=maxLen):(w.alloc (.cells cs t)).ownsRow w.heap.size t 2 (.slice (some ⟨w.heap.size,0,none⟩) n n) n (am l):=by
 have hs:cs.size=n*2:=by have:=congrArg List.length i';rw[aK,hn] at this;simpa using this
 refine⟨by rw[aK,hn],.inr ⟨w.heap.size,n,cs,rfl,Nat.le_refl _,heap_alloc_new w _,Nat.le_refl _,hm,hs,?_⟩⟩
 rw[<-i',List.take_of_length_le (by simp[hs])]
theorem aI.tail2 {w:World}{b off cap:Nat}{p q:Pt}{l:List Pt}(h:aI w (some ⟨b,off,none⟩) cap (p::q::l)):aI w (some ⟨b,off+4,none⟩) (cap-2) l:=by
 obtain⟨b',k8,e,hb,hc⟩:=h.row.at (by simp[am])
 simp only[Option.some.injEq,Addr.mk.injEq,and_true] at e
 obtain⟨rfl,rfl⟩:=e
 have h1:=h.le
 have h2:=h.max
 simp only[List.length_cons] at h1
 refine⟨.inr ⟨b,off+4,rfl,hb,fun i v hv=>?_⟩,by omega,by omega,fun e=>by cases e⟩
 rw[Nat.add_assoc,Nat.add_comm 4 i]
 exact hc (i+4) v hv
theorem Ca (w4:World)(P V:Int)(W:World)(c1 c2:Array Value)(hW:W=(((w4.alloc (.cells c1 56)).alloc (.cells c2 56)).alloc (.cells #[.int .i64 P,.int .i64 V] 56)).drew):
  Calls Tryz.prog 98 #[.agg #[.int .i64 P,.int .i64 V]] W fun e w5=>e=.returned (.int .i64 (if fv (P,V)=false then 3 else 0))/\Below w4.heap.size w4 w5/\
   w5.cell? ⟨w4.heap.size+1+1,0,none⟩=some (.int .i64 P)/\w5.cell? ⟨w4.heap.size+1+1,1,none⟩=some (.int .i64 V)/\
   (∀u,c1[0]? =some u->w5.cell? ⟨w4.heap.size,0,none⟩=some u)/\(∀u,c2[0]? =some u->w5.cell? ⟨w4.heap.size+1,0,none⟩=some u):=by
 subst hW
 refine(nK P V _).mono ?_
 rintro e w5 ⟨rfl,b5⟩
 have a1:=(Below.refl w4.heap.size w4).alloc (Nat.le_refl _) (.cells c1 56)
 have a2:=(Below.refl (w4.alloc (.cells c1 56)).heap.size (w4.alloc (.cells c1 56))).alloc (Nat.le_refl _) (.cells c2 56)
 have a3:=(Below.refl ((w4.alloc (.cells c1 56)).alloc (.cells c2 56)).heap.size ((w4.alloc (.cells c1 56)).alloc (.cells c2 56))).alloc (Nat.le_refl _) (.cells #[.int .i64 P,.int .i64 V] 56)
 have bA:=ai (aa (aa a1 a2) a3)
 refine⟨rfl,aa bA b5,?_,?_,?_,?_⟩
 .rw[b5.cell (p:=⟨w4.heap.size+1+1,0,none⟩) (by simp)]
  exact World.cell?_alloc_at _ _ _ _ (by simp)
 .rw[b5.cell (p:=⟨w4.heap.size+1+1,1,none⟩) (by simp)]
  exact World.cell?_alloc_at _ _ _ _ (by simp)
 .intro u hu
  rw[b5.cell (p:=⟨w4.heap.size,0,none⟩) (by simp;omega)]
  refine(a3.cell (p:=⟨w4.heap.size,0,none⟩) (by simp;omega)).trans ?_
  refine(a2.cell (p:=⟨w4.heap.size,0,none⟩) (by simp)).trans ?_
  rw[World.cell?_alloc_at (hn:=rfl)]
  exact hu
 .intro u hu
  rw[b5.cell (p:=⟨w4.heap.size+1,0,none⟩) (by simp)]
  refine(a3.cell (p:=⟨w4.heap.size+1,0,none⟩) (by simp)).trans ?_
  rw[World.cell?_alloc_at (hn:=by simp)]
  exact hu
theorem zx (ao:Option Addr)(cap:Nat)(b:List Bool)(N:Nat)(w:World)(hr:Sl w ao cap (b.map Value.bool))(hN:N<=40):
  Calls Tryz.prog 103 #[.slice ao b.length cap,.int .i64 N] w fun e w'=>
   ∃a' G,e=.returned (.tuple #[.slice a' (fl N 0 0 0 (-1) b).1.length G,.int .i64 (fl N 0 0 0 (-1) b).2])/\aI w' a' G (fl N 0 0 0 (-1) b).1/\Below w.heap.size w w':=by
 obtain⟨D,hD⟩:∃D,D=fl N 0 0 0 (-1) b:=⟨_,rfl⟩
 rw[<-hD]
 have HD:Hid (D=f6 [] (fl (N-0) 0 0 0 (-1) b)):=by
  refine hide ?_
  rw[Nat.sub_zero,<-hD]
  unfold f6
  by_cases h:D.2=0
  .rw[if_pos h];rfl
  .rw[if_neg h]
   have:D.1=[]:=by rw[hD] at h⊢;exact zZ _ _ _ _ _ _ h
   exact Prod.ext this rfl
 clear hD
 have i1:=cm (N:Int) 0 40 w
 rw[decide_eq_true (show 0<=(N:Int)/\(N:Int)<=40 by omega)] at i1
 obtain⟨i0,hi,bU,bi,bk⟩:=info_parts AN
 go_enter Tryz.func103,Tryz.ntmps103
 go_wp2_with fail
 go_at_call 36
 refine i1.mono ?_
 rintro e w1 ⟨rfl,rfl⟩
 clear i1
 go_wp2_with fail
 have own:=NU w [(0,0),(0,0)] #[.int .i64 0,.int .i64 0,.int .i64 0,.int .i64 0] rfl 56 2 rfl (by unfold maxLen;omega)
 have de:=(Below.refl w.heap.size w).alloc (Nat.le_refl _) (.cells #[.int .i64 0,.int .i64 0,.int .i64 0,.int .i64 0] 56)
 generalize w.alloc _=w2 at*
 generalize si:Value.slice (some ⟨w.heap.size,0,none⟩) 2 2=v0 at*
 clear si
 go_loopw [0,6,23] (fun bs o i wr=>∃(k G:Nat) (t v s:Int) (a':Option Addr) (X:List Bool) (O:List Pt),k<=N/\i=.int .i64 k/\bs=.slice a' X.length G/\(0<=t/\t<=100000)/\(-1000000<=v/\v<=1000000)/\(-100000<=s/\s<=100000)/\Hid (O.length=k/\((k=0/\lastT (-1) O=-1)\/(0<k/\lastT (-1) O=t)))/\Hid (((0,0)::(0,0)::O)[k+1]? =some (t,v)/\∃y,((0,0)::(0,0)::O)[k]? =some (t-s,y))/\Hid (D=f6 O (fl (N-k) t v s (lastT (-1) O) X))/\wr.ownsRow w.heap.size 56 2 o (k+2) (am ((0,0)::(0,0)::O))/\Sl w a' G (X.map Value.bool)/\Below w.heap.size w wr) (fun _ _ i _=>N-(intOf i).toNat)
 case atStart=>exact⟨0,cap,0,0,0,ao,b,[],by omega,rfl,rfl,by omega,by omega,by omega,hide ⟨rfl,.inl ⟨rfl,rfl⟩⟩,hide ⟨rfl,0,rfl⟩,HD,own,hr,de⟩
 case round=>
  clear HD own de w2 hr
  obtain⟨k,G,t,v,s,a',X,O,hk,rfl,rfl,ht,hv,hs,HO,HQ,HD,own,S,bel⟩:=hrel
  by_cases az:k<N
  .have eP:=HD.out
   clear HD
   rw[show N-k=(N-(k+1))+1 by omega] at eP
   have D1:=fun W h=>tu a' G X W w h S
   have D2:=fun a G W h h0=>tu a G (cz X) W w h h0
   by_cases h1:fB X=0
   .rw[h1] at D1
    by_cases h2:fB (cz X)=0
    .rw[h2] at D2
     have hx:=nr h1
     have hy:=nr h2
     rw[fl,if_neg (fun h=>h h1),if_neg (fun h=>h h2)] at eP
     clear h1 h2
     generalize ck X=x at*
     generalize cz X=Y at*
     generalize ck Y=y at*
     generalize cz Y=Z at*
     obtain⟨a6,c6,rfl,sp,M0,-⟩:=aI.ofOwn own
     obtain⟨b6,o6,rfl,J6⟩:=sp.where (by simp)
     obtain⟨z,y',e0,e1,vC,-⟩:=sp.pt k (by rw[M0];omega)
     obtain⟨t',v',e2,e3,kY,-⟩:=sp.pt (k+1) (by rw[M0];omega)
     obtain⟨kW,yy,TJ⟩:=HQ.out
     rw[kW] at kY
     rw[TJ] at vC
     simp only[Option.some.injEq,Prod.mk.injEq] at vC kY
     obtain⟨rfl,rfl⟩:=kY
     obtain⟨hz,-⟩:=vC
     obtain⟨P,hP⟩:∃P,P=t+(s+x):=⟨_,rfl⟩
     obtain⟨V,hV⟩:∃V,V=v+y:=⟨_,rfl⟩
     rw[<-hP,<-hV] at eP
     have hP2:2*t-z+x=P:=by omega
     have hP3:-5000000<=P/\P<=5000000:=by omega
     have HS:Hid (s+x=P-t/\V=v+y):=hide ⟨by omega,hV⟩
     have hV2:v+y=V:=hV.symm
     obtain⟨zO,SK⟩:=ht
     obtain⟨si,yZ⟩:=hv
     have hza:-100000<=z:=by omega
     have P5:z<=200000:=by omega
     obtain⟨pN,Kq⟩:=hx
     obtain⟨Pm,I'⟩:=hy
     have MP:=hide eP
     clear hz hP hV eP kW TJ sp hs
     have Vd:=fun w4:World=>Ca w4 P V
     go_wp2_with fail
     go_at_call 135
     refine(D1 _ (S.keep bel (Nat.le_refl _))).mono ?_
     rintro e w3 ⟨a3,G3,rfl,S3,T3,b3⟩
     go_wp2_with fail
     go_at_call 135
     refine(D2 _ _ _ S3 T3).mono ?_
     rintro e w4 ⟨a4,G4,rfl,S4,T4,b4⟩
     have bw:=aa b3 b4
     have aC:=aa bel bw
     have E0:=(bw.cell (p:=⟨b6,o6+k*2,none⟩) J6).trans e0
     have E1:=(bw.cell (p:=⟨b6,o6+k*2+1,none⟩) J6).trans e1
     have E2:=(bw.cell (p:=⟨b6,o6+(k+1)*2,none⟩) J6).trans e2
     have E3:=(bw.cell (p:=⟨b6,o6+(k+1)*2+1,none⟩) J6).trans e3
     have jI:=dt own bw
     have hb4:b6<w4.heap.size:=Nat.lt_of_lt_of_le J6 bw.size
     have CP:=Vd w4
     clear e0 e1 e2 e3 S3 T3 b3 S4 b4 bw own bel Vd
     go_wp2_with fail
     go_region
     all_goals go_wp2_with fail
     all_goals
      cases hp:fv (P,V) with
      |false=>
       rw[hp,if_pos rfl] at CP
       have nG:D=([],3):=by have:=MP.out;rw[if_pos hp] at this;exact this
       go_at_call 98
       refine(CP _ _ _ rfl).mono ?_
       rintro e w5 ⟨rfl,rT,-⟩
       go_wp2_with fail
       go_ret2
       exact⟨none,0,by rw[nG];rfl,by rw[nG];exact aI.ofNil _,aa aC rT⟩
      |true=>
       rw[hp,if_neg (by decide)] at CP
       have yR:=oT hp
       simp only at yR
       by_cases dq:(0:Int)<(k:Int)/\P<=t
       .obtain⟨vI,fF⟩:=dq
        have nG:D=([],7):=by
         have h1:=MP.out
         rw[if_neg (by rw[hp];decide),if_pos (by rcases HO.out.2 with⟨h,_⟩| ⟨_,h⟩<;>omega)] at h1
         exact h1
        go_at_call 98
        refine(CP _ _ _ rfl).mono ?_
        rintro e w5 ⟨rfl,rT,p0,p1,f1,f2⟩
        have y1:=f1 _ rfl
        have y2:=f2 _ rfl
        go_wp2_with fail
        go_ret2
        exact⟨none,0,by rw[nG];rfl,by rw[nG];exact aI.ofNil _,aa aC rT⟩
       .have Xp:Hid (D=f6 (O++[(P,V)]) (fl (N-(k+1)) P V (P-t) (lastT (-1) (O++[(P,V)])) Z)):=by
         have h1:=MP.out
         rw[if_neg (by rw[hp];decide),if_neg (by rcases HO.out.2 with⟨_,h⟩| ⟨h,h'⟩<;>omega),xQ,HS.out.1] at h1
         rw[np]
         exact h1
        have XA:Hid (((0,0)::(0,0)::(O++[(P,V)]))[k+1+1]? =some (P,V)/\∃y,((0,0)::(0,0)::(O++[(P,V)]))[k+1]? =some (P-(P-t),y)):=by
         refine hide ⟨?_,v,?_⟩
         .rw[List.getElem?_cons_succ,List.getElem?_cons_succ,List.getElem?_append_right (by rw[HO.out.1];exact Nat.le_refl _),HO.out.1,Nat.sub_self]
          rfl
         .rw[<-List.cons_append,<-List.cons_append,List.getElem?_append_left (by rw[M0];omega),HQ.out.1]
          simp only[Option.some.injEq,Prod.mk.injEq,and_true]
          omega
        have ZA:Hid ((O++[(P,V)]).length=k+1/\((k+1=0/\lastT (-1) (O++[(P,V)])=-1)\/(0<k+1/\lastT (-1) (O++[(P,V)])=P))):=
         hide ⟨by rw[List.length_append,HO.out.1];rfl,.inr ⟨Nat.succ_pos _,np _ _ _⟩⟩
        have Yh:((0:Int)<(k:Int)/\¬P<=t)\/¬(0:Int)<(k:Int):=by omega
        rcases Yh with⟨vI,fF⟩|vI
        all_goals(
         go_at_call 98
         refine(CP _ _ _ rfl).mono ?_
         rintro e w5 ⟨rfl,rT,p0,p1,f1,f2⟩
         have y1:=f1 _ rfl
         have y2:=f2 _ rfl
         have dF:=dt jI rT
         have bE:=aa aC rT
         clear f1 f2 rT jI aC E0 E1 E2 E3
         go_wp2_with (at_builtin;refine aW _ rfl (.tmp 80) (.tmp 82) 42 rfl w.heap.size 56 i0 _ 2 16 Tryz.underlying42 hi bU bi bk rfl (by decide) _ (k+2) _ rfl dF 1 _ _ rfl rfl (by simp[Value.oneCell']) (by decide) (by unfold maxLen;omega) (by omega) bE.size ?_)
         intro v6 w6 ft du uS
         have jo:w6.ownsRow w.heap.size 56 2 v6 (k+1+2) (am ((0,0)::(0,0)::(O++[(P,V)]))):=by
          rw[<-List.cons_append,<-List.cons_append,cq];exact ft
         have dy:=aH bE dF du (Nat.le_refl _) bE.size
         clear ft du uS dF bE
         generalize O++[(P,V)]=O' at*
         go_wp2_with fail
         go_roundw
         case rel=>exact⟨k+1,G4,P,V,P-t,a4,Z,O',by omega,by go_num,rfl,⟨yR.1,yR.2.1⟩,yR.2.2,by omega,ZA,XA,Xp,jo,T4,dy⟩
         case measure=>simp[intOf];omega)
    .rw[fl,if_neg (fun h=>h h1),if_pos h2,f6,if_neg h2] at eP
     generalize ck X=x at*
     generalize cz X=Y at*
     generalize ck Y=y at*
     generalize fB Y=F at*
     generalize cz Y=Z at*
     subst eP
     go_wp2_with fail
     go_at_call 135
     refine(D1 _ (S.keep bel (Nat.le_refl _))).mono ?_
     rintro e w3 ⟨a3,G3,rfl,S3,T3,b3⟩
     go_wp2_with fail
     go_at_call 135
     refine(D2 _ _ _ S3 T3).mono ?_
     rintro e w4 ⟨a4,G4,rfl,S4,T4,b4⟩
     go_wp2_with fail
     go_ret2
     exact⟨none,0,rfl,aI.ofNil _,aa (aa bel b3) b4⟩
   .rw[fl,if_pos h1,f6,if_neg h1] at eP
    generalize ck X=x at*
    generalize fB X=F at*
    generalize cz X=Y at*
    subst eP
    go_wp2_with fail
    go_at_call 135
    refine(D1 _ (S.keep bel (Nat.le_refl _))).mono ?_
    rintro e w3 ⟨a3,G3,rfl,S3,T3,b3⟩
    go_wp2_with fail
    go_ret2
    exact⟨none,0,rfl,aI.ofNil _,aa bel b3⟩
  .obtain rfl:k=N:=by omega
   have eP:=HD.out
   clear HD
   rw[Nat.sub_self,fl] at eP
   obtain⟨a6,c6,rfl,sp,M0,-⟩:=aI.ofOwn own
   obtain⟨b6,o6,rfl,J6⟩:=sp.where (by simp)
   have hc6:k+2<=c6:=by have:=sp.le;rw[M0] at this;exact this
   have hm6:=sp.max
   have YM:=hide sp
   clear sp
   by_cases hz:X.length=0
   .rw[if_pos hz,f6,if_pos rfl,List.append_nil] at eP
    have vE:(X.length:Int)=0:=by omega
    have Oa:=hide eP
    clear eP
    have R7:=hide HO.out.1
    go_wp2_with fail
    .go_ret2
     have XC:O=[]:=List.eq_nil_of_length_eq_zero (by rw[R7.out];omega)
     refine⟨some ⟨b6,o6,none⟩,0,by rw[Oa.out,<-R7.out];rfl,by rw[Oa.out,XC];exact⟨.inl rfl,Nat.le_refl _,by decide,fun e=>by cases e⟩,bel⟩
    .go_ret2
     exact⟨some ⟨b6,o6+4,none⟩,c6-2,by rw[Oa.out,<-R7.out];rfl,by rw[Oa.out];exact YM.out.tail2,bel⟩
   .rw[if_neg hz,f6,if_neg (by decide)] at eP
    subst eP
    have vE:(0:Int)<(X.length:Int):=by omega
    go_wp2_with fail
    go_ret2
    exact⟨none,0,rfl,aI.ofNil _,bel⟩
theorem zu (ao:Option Addr)(len cap:Nat)(n:Int)(w:World)(h:oQ n=false):
  Calls Tryz.prog 103 #[.slice ao len cap,.int .i64 n] w fun e w'=>e=.returned (.tuple #[.slice none 0 0,.int .i64 2])/\w=w':=by
 have i1:=cm n 0 40 w
 rw[show decide (0<=n/\n<=40)=false from h] at i1
 go_enter Tryz.func103,Tryz.ntmps103
 go_wp2_with fail
 go_at_call 36
 refine i1.mono ?_
 rintro e w1 ⟨rfl,rfl⟩
 go_wp2_with fail
 go_ret2
 exact⟨rfl,rfl⟩
theorem mu (ao:Option Addr)(cap:Nat)(b:List Bool)(n:Int)(w:World)(hr:Sl w ao cap (b.map Value.bool)):
  Calls Tryz.prog 103 #[.slice ao b.length cap,.int .i64 n] w fun e w'=>
   ∃a' G,e=.returned (.tuple #[.slice a' (dJ b n).length G,.int .i64 (fO b n)])/\aI w' a' G (dJ b n)/\Below w.heap.size w w':=by
 cases h:oQ n with
 |true=>
  have hn:=(of_decide_eq_true h:0<=n/\n<=40)
  obtain⟨N,rfl⟩:=Int.eq_ofNat_of_zero_le hn.1
  have e1:dJ b N=(fl N 0 0 0 (-1) b).1:=by rw[dJ,if_pos h];rfl
  have e2:fO b N=(fl N 0 0 0 (-1) b).2:=by rw[fO,if_pos h];rfl
  rw[e1,e2]
  exact zx ao cap b N w hr (by omega)
 |false=>
  have e1:dJ b n=[]:=by rw[dJ,h];rfl
  have e2:fO b n=2:=by rw[fO,h];rfl
  rw[e1,e2]
  refine(zu ao b.length cap n w h).mono ?_
  rintro e w' ⟨rfl,rfl⟩
  exact⟨none,0,rfl,aI.ofNil _,Below.refl _ _⟩
end Go.Proofs.YtoonnbhoiocoeaaGreatDoor
