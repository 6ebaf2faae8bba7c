/-
  The reference's UnpackedOf: what it returns, for all bits and every number; nothing that was there is written.
-/
import Derived.Test.YtoonnbhoiocoeaaGreatDoorQ30
set_option maxHeartbeats 40000000
set_option maxRecDepth 100000
set_option linter.unusedVariables false
namespace Go.Proofs.YtoonnbhoiocoeaaGreatDoor
open Go.RowKit
theorem NI (w:World)(l:List Pt)(cs:Array Value)(jd:cs.toList=ar l)(t:TypeId)(n:Nat)(hn:l.length=n)(hm:n<=maxLen):(w.alloc (.cells cs t)).ownsRow w.heap.size t 2 (.slice (some ⟨w.heap.size,0,none⟩) n n) n (ar l):=by
 have hs:cs.size=n*2:=by have:=congrArg List.length jd;rw[aI,hn] at this;simpa using this
 refine⟨by rw[aI,hn],.inr ⟨w.heap.size,n,cs,rfl,Nat.le_refl _,heap_alloc_new w _,Nat.le_refl _,hm,hs,?_⟩⟩
 rw[<-jd,List.take_of_length_le (by simp[hs])]
theorem aV.tail2 {w:World}{b off cap:Nat}{p q:Pt}{l:List Pt}(h:aV w (some ⟨b,off,none⟩) cap (p::q::l)):aV w (some ⟨b,off+4,none⟩) (cap-2) l:=by
 obtain⟨b',lB,e,hb,hc⟩:=h.row.at (by simp[ar])
 simp only[Option.some.injEq,Addr.mk.injEq,and_true] at e
 obtain⟨rfl,rfl⟩:=e
 have h1:=h.le
 have h2:=h.max
 simp only[List.length_cons] at h1
 refine⟨.inr ⟨b,off+4,rfl,hb,fun i v hv=>?_⟩,by omega,by omega,fun e=>by cases e⟩
 rw[Nat.add_assoc,Nat.add_comm 4 i]
 exact hc (i+4) v hv
theorem CM (w4:World)(P V:Int)(W:World)(c1 c2:Array Value)(hW:W=(((w4.alloc (.cells c1 56)).alloc (.cells c2 56)).alloc (.cells #[.int .i64 P,.int .i64 V] 56)).drew):
  Calls Tryz.prog 98 #[.agg #[.int .i64 P,.int .i64 V]] W fun e w5=>e=.returned (.int .i64 (if ft (P,V)=false then 3 else 0))/\Below w4.heap.size w4 w5/\
   w5.cell? ⟨w4.heap.size+1+1,0,none⟩=some (.int .i64 P)/\w5.cell? ⟨w4.heap.size+1+1,1,none⟩=some (.int .i64 V)/\
   (∀u,c1[0]? =some u->w5.cell? ⟨w4.heap.size,0,none⟩=some u)/\(∀u,c2[0]? =some u->w5.cell? ⟨w4.heap.size+1,0,none⟩=some u):=by
 subst hW
 refine(oa P V _).mono ?_
 rintro e w5 ⟨rfl,b5⟩
 have a1:=(Below.refl w4.heap.size w4).alloc (Nat.le_refl _) (.cells c1 56)
 have a2:=(Below.refl (w4.alloc (.cells c1 56)).heap.size (w4.alloc (.cells c1 56))).alloc (Nat.le_refl _) (.cells c2 56)
 have a3:=(Below.refl ((w4.alloc (.cells c1 56)).alloc (.cells c2 56)).heap.size ((w4.alloc (.cells c1 56)).alloc (.cells c2 56))).alloc (Nat.le_refl _) (.cells #[.int .i64 P,.int .i64 V] 56)
 have bA:=ak (ac (ac a1 a2) a3)
 refine⟨rfl,ac bA b5,?_,?_,?_,?_⟩
 .rw[b5.cell (p:=⟨w4.heap.size+1+1,0,none⟩) (by simp)]
  exact World.cell?_alloc_at _ _ _ _ (by simp)
 .rw[b5.cell (p:=⟨w4.heap.size+1+1,1,none⟩) (by simp)]
  exact World.cell?_alloc_at _ _ _ _ (by simp)
 .intro u hu
  rw[b5.cell (p:=⟨w4.heap.size,0,none⟩) (by simp;omega)]
  refine(a3.cell (p:=⟨w4.heap.size,0,none⟩) (by simp;omega)).trans ?_
  refine(a2.cell (p:=⟨w4.heap.size,0,none⟩) (by simp)).trans ?_
  rw[World.cell?_alloc_at (hn:=rfl)]
  exact hu
 intro u hu
 rw[b5.cell (p:=⟨w4.heap.size+1,0,none⟩) (by simp)]
 refine(a3.cell (p:=⟨w4.heap.size+1,0,none⟩) (by simp)).trans ?_
 rw[World.cell?_alloc_at (hn:=by simp)]
 exact hu
theorem zM (ao:Option Addr)(cap:Nat)(b:List Bool)(N:Nat)(w:World)(hr:Sl w ao cap (b.map Value.bool))(hN:N<=40):
  Calls Tryz.prog 103 #[.slice ao b.length cap,.int .i64 N] w fun e w'=>
   ∃a' G,e=.returned (.tuple #[.slice a' (fm N 0 0 0 (-1) b).1.length G,.int .i64 (fm N 0 0 0 (-1) b).2])/\aV w' a' G (fm N 0 0 0 (-1) b).1/\Below w.heap.size w w':=by
 obtain⟨D,hD⟩:∃D,D=fm N 0 0 0 (-1) b:=⟨_,rfl⟩
 rw[<-hD]
 have HD:Hid (D=fY [] (fm (N-0) 0 0 0 (-1) b)):=by
  refine aa ?_
  rw[Nat.sub_zero,<-hD]
  unfold fY
  by_cases h:D.2=0
  .rw[if_pos h];rfl
  rw[if_neg h]
  have:D.1=[]:=by rw[hD] at h⊢;exact Bl _ _ _ _ _ _ h
  exact Prod.ext this rfl
 clear hD
 have i1:=bG (N:Int) 0 40 w
 rw[decide_eq_true (show 0<=(N:Int)/\(N:Int)<=40 by omega)] at i1
 obtain⟨i0,hi,bK,bm,bQ⟩:=info_parts Dc
 go_enter Tryz.func103,Tryz.ntmps103
 go_wp2_with fail
 go_at_call 36
 refine i1.mono ?_
 rintro e w1 ⟨rfl,rfl⟩
 clear i1
 go_wp2_with fail
 have own:=NI w [(0,0),(0,0)] #[.int .i64 0,.int .i64 0,.int .i64 0,.int .i64 0] rfl 56 2 rfl (by unfold maxLen;omega)
 have cq:=(Below.refl w.heap.size w).alloc (Nat.le_refl _) (.cells #[.int .i64 0,.int .i64 0,.int .i64 0,.int .i64 0] 56)
 generalize w.alloc _=w2 at*
 generalize Dt:Value.slice (some ⟨w.heap.size,0,none⟩) 2 2=v0 at*
 clear Dt
 go_loopw [0,6,23] (fun bs o i wr=>∃(k G:Nat) (t v s:Int) (a':Option Addr) (X:List Bool) (O:List Pt),k<=N/\i=.int .i64 k/\bs=.slice a' X.length G/\(0<=t/\t<=100000)/\(-1000000<=v/\v<=1000000)/\(-100000<=s/\s<=100000)/\Hid (O.length=k/\((k=0/\lastT (-1) O=-1)\/(0<k/\lastT (-1) O=t)))/\Hid (((0,0)::(0,0)::O)[k+1]? =some (t,v)/\∃y,((0,0)::(0,0)::O)[k]? =some (t-s,y))/\Hid (D=fY O (fm (N-k) t v s (lastT (-1) O) X))/\wr.ownsRow w.heap.size 56 2 o (k+2) (ar ((0,0)::(0,0)::O))/\Sl w a' G (X.map Value.bool)/\Below w.heap.size w wr) (fun _ _ i _=>N-(intOf i).toNat)
 case atStart=>exact⟨0,cap,0,0,0,ao,b,[],by omega,rfl,rfl,by omega,by omega,by omega,aa ⟨rfl,.inl ⟨rfl,rfl⟩⟩,aa ⟨rfl,0,rfl⟩,HD,own,hr,cq⟩
 case round=>
  clear HD own cq w2 hr
  obtain⟨k,G,t,v,s,a',X,O,hk,rfl,rfl,ht,hv,hs,HO,HQ,HD,own,S,bel⟩:=hrel
  by_cases aE:k<N
  .have eI:=HD.out
   clear HD
   rw[show N-k=(N-(k+1))+1 by omega] at eI
   have D1:=fun W h=>uH a' G X W w h S
   have D2:=fun a G W h h0=>uH a G (cx X) W w h h0
   by_cases h1:fs X=0
   .rw[h1] at D1
    by_cases h2:fs (cx X)=0
    .rw[h2] at D2
     have hx:=nB h1
     have hy:=nB h2
     rw[fm,if_neg (fun h=>h h1),if_neg (fun h=>h h2)] at eI
     clear h1 h2
     generalize ci X=x at*
     generalize cx X=Y at*
     generalize ci Y=y at*
     generalize cx Y=Z at*
     obtain⟨a6,c6,rfl,sp,Pa,-⟩:=aV.ofOwn own
     obtain⟨b6,o6,rfl,J4⟩:=sp.where (by simp)
     obtain⟨z,y',e0,e1,wM,-⟩:=sp.pt k (by rw[Pa];omega)
     obtain⟨t',v',e2,e3,pG,-⟩:=sp.pt (k+1) (by rw[Pa];omega)
     obtain⟨pA,yy,WO⟩:=HQ.out
     rw[pA] at pG
     rw[WO] at wM
     simp only[Option.some.injEq,Prod.mk.injEq] at wM pG
     obtain⟨rfl,rfl⟩:=pG
     obtain⟨hz,-⟩:=wM
     obtain⟨P,hP⟩:∃P,P=t+(s+x):=⟨_,rfl⟩
     obtain⟨V,hV⟩:∃V,V=v+y:=⟨_,rfl⟩
     rw[<-hP,<-hV] at eI
     have hP2:2*t-z+x=P:=by omega
     have hP3:-5000000<=P/\P<=5000000:=by omega
     have HS:Hid (s+x=P-t/\V=v+y):=aa ⟨by omega,hV⟩
     have hV2:v+y=V:=hV.symm
     obtain⟨zR,Uq⟩:=ht
     obtain⟨Dt,Ce⟩:=hv
     have hza:-100000<=z:=by omega
     have hzb:z<=200000:=by omega
     obtain⟨pS,Lt⟩:=hx
     obtain⟨PX,Lk⟩:=hy
     have Mn:=aa eI
     clear hz hP hV eI pA WO sp hs
     have Wv:=fun w4:World=>CM w4 P V
     go_wp2_with fail
     go_at_call 135
     refine(D1 _ (S.keep bel (Nat.le_refl _))).mono ?_
     rintro e w3 ⟨a3,G3,rfl,S3,T3,b3⟩
     go_wp2_with fail
     go_at_call 135
     refine(D2 _ _ _ S3 T3).mono ?_
     rintro e w4 ⟨a4,G4,rfl,S4,T4,b4⟩
     have bw:=ac b3 b4
     have ay:=ac bel bw
     have E0:=(bw.cell (p:=⟨b6,o6+k*2,none⟩) J4).trans e0
     have E1:=(bw.cell (p:=⟨b6,o6+k*2+1,none⟩) J4).trans e1
     have E2:=(bw.cell (p:=⟨b6,o6+(k+1)*2,none⟩) J4).trans e2
     have E3:=(bw.cell (p:=⟨b6,o6+(k+1)*2+1,none⟩) J4).trans e3
     have jR:=dx own bw
     have hb4:b6<w4.heap.size:=Nat.lt_of_lt_of_le J4 bw.size
     have CP:=Wv w4
     clear e0 e1 e2 e3 S3 T3 b3 S4 b4 bw own bel Wv
     go_wp2_with fail
     go_region
     all_goals go_wp2_with fail
     all_goals
      cases hp:ft (P,V) with
      |false=>
       rw[hp,if_pos rfl] at CP
       have nZ:D=([],3):=by have:=Mn.out;rw[if_pos hp] at this;exact this
       go_at_call 98
       refine(CP _ _ _ rfl).mono ?_
       rintro e w5 ⟨rfl,th,-⟩
       go_wp2_with fail
       go_ret2
       exact⟨none,0,by rw[nZ];rfl,by rw[nZ];exact aV.ofNil _,ac ay th⟩
      |true=>
       rw[hp,if_neg (by decide)] at CP
       have Ag:=pC hp
       simp only at Ag
       by_cases jT:(0:Int)<(k:Int)/\P<=t
       .obtain⟨Dn,fE⟩:=jT
        have nZ:D=([],7):=by
         have h1:=Mn.out
         rw[if_neg (by rw[hp];decide),if_pos (by rcases HO.out.2 with⟨h,_⟩| ⟨_,h⟩<;>omega)] at h1
         exact h1
        go_at_call 98
        refine(CP _ _ _ rfl).mono ?_
        rintro e w5 ⟨rfl,th,p0,p1,f1,f2⟩
        have y1:=f1 _ rfl
        have y2:=f2 _ rfl
        go_wp2_with fail
        go_ret2
        exact⟨none,0,by rw[nZ];rfl,by rw[nZ];exact aV.ofNil _,ac ay th⟩
       have Z':Hid (D=fY (O++[(P,V)]) (fm (N-(k+1)) P V (P-t) (lastT (-1) (O++[(P,V)])) Z)):=by
        have h1:=Mn.out
        rw[if_neg (by rw[hp];decide),if_neg (by rcases HO.out.2 with⟨_,h⟩| ⟨h,h'⟩<;>omega),xM,HS.out.1] at h1
        rw[nu]
        exact h1
       have ZF:Hid (((0,0)::(0,0)::(O++[(P,V)]))[k+1+1]? =some (P,V)/\∃y,((0,0)::(0,0)::(O++[(P,V)]))[k+1]? =some (P-(P-t),y)):=by
        refine aa ⟨?_,v,?_⟩
        .rw[List.getElem?_cons_succ,List.getElem?_cons_succ,List.getElem?_append_right (by rw[HO.out.1];exact Nat.le_refl _),HO.out.1,Nat.sub_self]
         rfl
        rw[<-List.cons_append,<-List.cons_append,List.getElem?_append_left (by rw[Pa];omega),HQ.out.1]
        simp only[Option.some.injEq,Prod.mk.injEq,and_true]
        omega
       have HO3:Hid ((O++[(P,V)]).length=k+1/\((k+1=0/\lastT (-1) (O++[(P,V)])=-1)\/(0<k+1/\lastT (-1) (O++[(P,V)])=P))):=
        aa ⟨by rw[List.length_append,HO.out.1];rfl,.inr ⟨Nat.succ_pos _,nu _ _ _⟩⟩
       have YG:((0:Int)<(k:Int)/\¬P<=t)\/¬(0:Int)<(k:Int):=by omega
       rcases YG with⟨Dn,fE⟩|Dn
       all_goals(
        go_at_call 98
        refine(CP _ _ _ rfl).mono ?_
        rintro e w5 ⟨rfl,th,p0,p1,f1,f2⟩
        have y1:=f1 _ rfl
        have y2:=f2 _ rfl
        have dM:=dx jR th
        have br:=ac ay th
        clear f1 f2 th jR ay E0 E1 E2 E3
        go_wp2_with (at_builtin;refine bE _ rfl (.tmp 80) (.tmp 82) 42 rfl w.heap.size 56 i0 _ 2 16 Tryz.underlying42 hi bK bm bQ rfl (by decide) _ (k+2) _ rfl dM 1 _ _ rfl rfl (by simp[Value.oneCell']) (by decide) (by unfold maxLen;omega) (by omega) br.size ?_)
        intro v6 w6 d8 dj vf
        have jw:w6.ownsRow w.heap.size 56 2 v6 (k+1+2) (ar ((0,0)::(0,0)::(O++[(P,V)]))):=by
         rw[<-List.cons_append,<-List.cons_append,dF];exact d8
        have dD:=aG br dM dj (Nat.le_refl _) br.size
        clear d8 dj vf dM br
        generalize O++[(P,V)]=O' at*
        go_wp2_with fail
        go_roundw
        case rel=>exact⟨k+1,G4,P,V,P-t,a4,Z,O',by omega,by go_num,rfl,⟨Ag.1,Ag.2.1⟩,Ag.2.2,by omega,HO3,ZF,Z',jw,T4,dD⟩
        case measure=>simp[intOf];omega)
    rw[fm,if_neg (fun h=>h h1),if_pos h2,fY,if_neg h2] at eI
    generalize ci X=x at*
    generalize cx X=Y at*
    generalize ci Y=y at*
    generalize fs Y=F at*
    generalize cx Y=Z at*
    subst eI
    go_wp2_with fail
    go_at_call 135
    refine(D1 _ (S.keep bel (Nat.le_refl _))).mono ?_
    rintro e w3 ⟨a3,G3,rfl,S3,T3,b3⟩
    go_wp2_with fail
    go_at_call 135
    refine(D2 _ _ _ S3 T3).mono ?_
    rintro e w4 ⟨a4,G4,rfl,S4,T4,b4⟩
    go_wp2_with fail
    go_ret2
    exact⟨none,0,rfl,aV.ofNil _,ac (ac bel b3) b4⟩
   rw[fm,if_pos h1,fY,if_neg h1] at eI
   generalize ci X=x at*
   generalize fs X=F at*
   generalize cx X=Y at*
   subst eI
   go_wp2_with fail
   go_at_call 135
   refine(D1 _ (S.keep bel (Nat.le_refl _))).mono ?_
   rintro e w3 ⟨a3,G3,rfl,S3,T3,b3⟩
   go_wp2_with fail
   go_ret2
   exact⟨none,0,rfl,aV.ofNil _,ac bel b3⟩
  obtain rfl:k=N:=by omega
  have eI:=HD.out
  clear HD
  rw[Nat.sub_self,fm] at eI
  obtain⟨a6,c6,rfl,sp,Pa,-⟩:=aV.ofOwn own
  obtain⟨b6,o6,rfl,J4⟩:=sp.where (by simp)
  have hc6:k+2<=c6:=by have:=sp.le;rw[Pa] at this;exact this
  have hm6:=sp.max
  have YD:=aa sp
  clear sp
  by_cases hz:X.length=0
  .rw[if_pos hz,fY,if_pos rfl,List.append_nil] at eI
   have xj:(X.length:Int)=0:=by omega
   have QY:=aa eI
   clear eI
   have Tm:=aa HO.out.1
   go_wp2_with fail
   .go_ret2
    have YQ:O=[]:=List.eq_nil_of_length_eq_zero (by rw[Tm.out];omega)
    refine⟨some ⟨b6,o6,none⟩,0,by rw[QY.out,<-Tm.out];rfl,by rw[QY.out,YQ];exact⟨.inl rfl,Nat.le_refl _,by decide,fun e=>by cases e⟩,bel⟩
   go_ret2
   exact⟨some ⟨b6,o6+4,none⟩,c6-2,by rw[QY.out,<-Tm.out];rfl,by rw[QY.out];exact YD.out.tail2,bel⟩
  rw[if_neg hz,fY,if_neg (by decide)] at eI
  subst eI
  have xj:(0:Int)<(X.length:Int):=by omega
  go_wp2_with fail
  go_ret2
  exact⟨none,0,rfl,aV.ofNil _,bel⟩
theorem zV (ao:Option Addr)(len cap:Nat)(n:Int)(w:World)(h:pi n=false):
  Calls Tryz.prog 103 #[.slice ao len cap,.int .i64 n] w fun e w'=>e=.returned (.tuple #[.slice none 0 0,.int .i64 2])/\w=w':=by
 have i1:=bG n 0 40 w
 rw[show decide (0<=n/\n<=40)=false from h] at i1
 go_enter Tryz.func103,Tryz.ntmps103
 go_wp2_with fail
 go_at_call 36
 refine i1.mono ?_
 rintro e w1 ⟨rfl,rfl⟩
 go_wp2_with fail
 go_ret2
 exact⟨rfl,rfl⟩
theorem mI (ao:Option Addr)(cap:Nat)(b:List Bool)(n:Int)(w:World)(hr:Sl w ao cap (b.map Value.bool)):
  Calls Tryz.prog 103 #[.slice ao b.length cap,.int .i64 n] w fun e w'=>
   ∃a' G,e=.returned (.tuple #[.slice a' (dS b n).length G,.int .i64 (fL b n)])/\aV w' a' G (dS b n)/\Below w.heap.size w w':=by
 cases h:pi n with
 |true=>
  have hn:=(of_decide_eq_true h:0<=n/\n<=40)
  obtain⟨N,rfl⟩:=Int.eq_ofNat_of_zero_le hn.1
  have e1:dS b N=(fm N 0 0 0 (-1) b).1:=by rw[dS,if_pos h];rfl
  have e2:fL b N=(fm N 0 0 0 (-1) b).2:=by rw[fL,if_pos h];rfl
  rw[e1,e2]
  exact zM ao cap b N w hr (by omega)
 |false=>
  have e1:dS b n=[]:=by rw[dS,h];rfl
  have e2:fL b n=2:=by rw[fL,h];rfl
  rw[e1,e2]
  refine(zV ao b.length cap n w h).mono ?_
  rintro e w' ⟨rfl,rfl⟩
  exact⟨none,0,rfl,aV.ofNil _,Below.refl _ _⟩
end Go.Proofs.YtoonnbhoiocoeaaGreatDoor
