/-
  The reference's answer of chapter 2, Decoded: what it returns; nothing is written.
-/
import Derived.Test.YtoonnbhoiocoeaaGreatDoorP29
import Derived.Test.YtoonnbhoiocoeaaGreatDoorP21
import Derived.Test.YtoonnbhoiocoeaaGreatDoorP03
set_option maxHeartbeats 40000000
set_option maxRecDepth 100000
set_option linter.unusedVariables false
namespace Go.Proofs.YtoonnbhoiocoeaaGreatDoor
open Go.RowKit
def part (b c d:Bool):Nat->Nat
 |0=>0
 |1=>4*b.toNat
 |2=>4*b.toNat+2*c.toNat
 |_=>4*b.toNat+2*c.toNat+d.toNat
theorem K3 (b c d:Bool):part b c d 3<8:=by revert b c d;decide
theorem Ak (b c d:Bool):part b c d 1<=4:=by revert b c d;decide
theorem Ay (b c d:Bool):part b c d 2<=6:=by revert b c d;decide
theorem Uf (j q:Nat):((0:Int)<(j:Int)/\(q:Int)=0)\/((0:Int)<(j:Int)/\¬(q:Int)=0)\/¬(0:Int)<(j:Int):=by omega
theorem Sl.tailA {w:World}{B off G:Nat}{Y:List Bool}(dA:Row w (some ⟨B,off+4,none⟩) (Y.map Value.bool))(fF:Y.length+4<=G)(hG:G<=9223372036854775807):Sl w (some ⟨B,off+4,none⟩) (G-4) (Y.map Value.bool):=
 ⟨dA,by rw[List.length_map];omega,by omega,fun e=>by cases e⟩
theorem Sl.tailB {w:World}{B off G:Nat}{Y:List Bool}(fF:Y.length+4<=G)(hG:G=4):Sl w (some ⟨B,off,none⟩) 0 (Y.map Value.bool):=by
 have hY:Y=[]:=List.eq_nil_of_length_eq_zero (by omega)
 subst hY
 exact⟨.inl rfl,Nat.le_refl _,by decide,fun e=>by cases e⟩
theorem tu (ao:Option Addr)(cap:Nat)(l:List Bool)(w w0:World)(hr:Sl w ao cap (l.map Value.bool))(qr:Sl w0 ao cap (l.map Value.bool)):
  Calls Tryz.prog 135 #[.slice ao l.length cap] w fun e w'=>
   ∃a' G,e=.returned (.tuple #[.int .i64 (ck l),.slice a' (cz l).length G,.int .i64 (fB l)])/\Sl w' a' G ((cz l).map Value.bool)/\Sl w0 a' G ((cz l).map Value.bool)/\Below w.heap.size w w':=by
 unfold ck cz fB
 obtain⟨D,hD⟩:∃D,D=decode 8 0 0 l:=⟨_,rfl⟩
 rw[<-hD]
 go_enter Tryz.func135,Tryz.ntmps135
 go_wp2_with fail
 go_loop [0,5,6,7] (fun s n p i=>∃(j m G pw:Nat) (a':Option Addr) (X:List Bool),Hid (pw=8 ^ j)/\j<=8/\m<=8000000/\s=.slice a' X.length G/\n=.int .i64 m/\p=.int .i64 pw/\i=.int .i64 j/\D=decode (8-j) j m X/\Sl w a' G (X.map Value.bool)/\Sl w0 a' G (X.map Value.bool)) (fun _ _ _ i=>9-(intOf i).toNat)
 case atStart=>exact⟨0,0,cap,1,ao,l,hide rfl,by omega,by omega,rfl,rfl,rfl,rfl,hD,hr,qr⟩
 case round=>
  obtain⟨j,m,G,pw,a',X,HP,hj,hm,rfl,rfl,rfl,rfl,j',hs,iJ⟩:=hrel
  clear hr qr hD
  by_cases az:j<8
  .have EL:¬(j:Int)=8:=by omega
   rw[show 8-j=(8-(j+1))+1 by omega,decode] at j'
   by_cases h4:X.length<4
   .rw[if_pos h4] at j'
    subst j'
    have Gk:(X.length:Int)<4:=by omega
    go_wp2_with fail
    go_ret3
    exact⟨none,0,rfl,Sl.ofNil _,Sl.ofNil _,Below.refl _ _⟩
   .rw[if_neg h4] at j'
    obtain⟨x,b,c,d,Y,rfl⟩:=four X h4
    have Gk:¬((x::b::c::d::Y).length:Int)<4:=by omega
    obtain⟨B,off,rfl,hB,fL⟩:=hs.row.at (by simp)
    obtain⟨B2,ZZ,VQ,Rx,Io⟩:=iJ.row.at (by simp)
    simp only[Option.some.injEq,Addr.mk.injEq,and_true] at VQ
    obtain⟨rfl,rfl⟩:=VQ
    have Oe:Row w0 (some ⟨B,off+4,none⟩) (Y.map Value.bool):=.inr ⟨B,off+4,rfl,Rx,fun i v hv=>by
     rw[Nat.add_assoc,Nat.add_comm 4 i]
     exact Io (i+4) v hv⟩
    clear Io iJ
    have c0:=fL 0 (.bool x) rfl
    rw[Nat.add_zero] at c0
    have c1:=fL 1 (.bool b) rfl
    have c2:=fL 2 (.bool c) rfl
    have c3:=fL 3 (.bool d) rfl
    have fF:=hs.le
    have Kj:=hs.max
    have vY:(x::b::c::d::Y).take 4=[x,b,c,d]:=rfl
    have hdr:(x::b::c::d::Y).drop 4=Y:=rfl
    rw[vY,hdr,Fv] at j'
    have aw:(x::b::c::d::Y).length=Y.length+4:=rfl
    have uM:Row w (some ⟨B,off+4,none⟩) (Y.map Value.bool):=.inr ⟨B,off+4,rfl,hB,fun i v hv=>by
     rw[Nat.add_assoc,Nat.add_comm 4 i]
     exact fL (i+4) v hv⟩
    rw[List.length_map] at fF
    rw[aw] at fF Gk⊢
    clear fL vY hdr aw h4
    have HD:=hide j'
    clear j'
    go_wp2_with fail
    go_loop [8,22] (fun dv i=>∃k:Nat,k<=3/\i=.int .i64 k/\dv=.int .i64 (part b c d k)) (fun _ i=>3-(intOf i).toNat)
    case atStart=>exact⟨0,by omega,rfl,rfl⟩
    case round=>
     obtain⟨k,hk,rfl,rfl⟩:=hrel
     have yV:k=0\/k=1\/k=2\/k=3:=by omega
     rcases yV with rfl|rfl|rfl|rfl
     .clear c0 c2 c3 HD uM
      cases b
      all_goals(
       go_wp2_with fail
       go_round
       case rel=>exact⟨1,by omega,by go_num,by simp[part,wrap64]⟩
       case measure=>simp[intOf])
     .clear c0 c1 c3 HD uM
      cases c
      all_goals(
       have hp:=Ak b false d
       have yR:=Ak b true d
       go_wp2_with fail
       go_round
       case rel=>exact⟨2,by omega,by go_num,by simp[part]⟩
       case measure=>simp[intOf])
     .clear c0 c1 c2 HD uM
      cases d
      all_goals(
       have hp:=Ay b c false
       have yR:=Ay b c true
       go_wp2_with fail
       go_round
       case rel=>exact⟨3,by omega,by go_num,by simp[part]⟩
       case measure=>simp[intOf])
     .have hpl:=K3 b c d
      have Vv:4*b.toNat+2*c.toNat+d.toNat=part b c d 3:=rfl
      rw[Vv] at HD
      generalize part b c d 3=q at*
      clear Vv c1 c2 c3
      have YR:pw<=2097152:=by
       rw[HP.out]
       exact Nat.pow_le_pow_right (n:=8) (j:=7) (by decide) (by omega)
      have Qh:q*pw<=7*2097152:=Nat.mul_le_mul (by omega) YR
      have Nz:(q:Int)*(pw:Int)=((q*pw:Nat):Int):=by rw[Int.natCast_mul]
      rw[<-HP.out] at HD
      have mQ:Hid (pw*8=8 ^ (j+1)):=by
       show _=_
       rw[Nat.pow_succ,HP.out]
      have Vn:(8*x.toNat+q) % 8=q:=by omega
      rw[Vn] at HD
      generalize q*pw=r at*
      clear Vn HP
      have eP:=HD.out
      clear HD
      by_cases h0:0<j/\8*x.toNat+q=0
      .rw[if_pos h0] at eP
       subst eP
       obtain rfl:x=false:=by
        cases x with
        |false=>rfl
        |true=>simp at h0
       obtain rfl:q=0:=by omega
       have oV:(0:Int)<(j:Int):=by omega
       clear h0
       go_wp2_with fail
       go_ret3
       exact⟨none,0,rfl,Sl.ofNil _,Sl.ofNil _,Below.refl _ _⟩
      .rw[if_neg h0] at eP
       by_cases wH:8000000<m+r
       .rw[if_pos wH] at eP
        subst eP
        have CN:(8000000:Int)<(m:Int)+(r:Int):=by omega
        clear wH uM mQ
        cases x
        .by_cases oV:0<j
         .have Wr:(0:Int)<(j:Int):=by omega
          have vC:¬(q:Int)=0:=by simp at h0;omega
          clear h0 oV
          go_wp2_with fail
          all_goals go_ret3
          all_goals exact⟨none,0,rfl,Sl.ofNil _,Sl.ofNil _,Below.refl _ _⟩
         .have Wr:¬(0:Int)<(j:Int):=by omega
          clear h0 oV
          go_wp2_with fail
          all_goals go_ret3
          all_goals exact⟨none,0,rfl,Sl.ofNil _,Sl.ofNil _,Below.refl _ _⟩
        .clear h0
         rcases Uf j q with⟨oV,vC⟩| ⟨oV,vC⟩|oV
         .rw[vC,Int.zero_mul] at Nz
          omega
         all_goals(
          go_wp2_with fail
          all_goals go_ret3
          all_goals exact⟨none,0,rfl,Sl.ofNil _,Sl.ofNil _,Below.refl _ _⟩)
       .rw[if_neg wH] at eP
        have CN:¬(8000000:Int)<(m:Int)+(r:Int):=by omega
        have tA:=hide (Sl.tailA uM fF Kj)
        have tB:=hide (fun h=>Sl.tailB (w:=w) (B:=B) (off:=off) fF h)
        have Tu:=hide (Sl.tailA Oe fF Kj)
        have Q9:=hide (fun h=>Sl.tailB (w:=w0) (B:=B) (off:=off) fF h)
        have WW:Hid (Sl w0 (if G=4 then some ⟨B,off,none⟩ else some ⟨B,off+4,none⟩) (G-4) (Y.map Value.bool)):=by
         show Sl _ _ _ _
         by_cases hG:G=4
         .rw[if_pos hG,hG];exact Q9.out hG
         .rw[if_neg hG];exact Tu.out
        have tC:Hid (Sl w (if G=4 then some ⟨B,off,none⟩ else some ⟨B,off+4,none⟩) (G-4) (Y.map Value.bool)):=by
         show Sl _ _ _ _
         by_cases hG:G=4
         .rw[if_pos hG,hG];exact tB.out hG
         .rw[if_neg hG];exact tA.out
        clear uM wH
        cases x
        .have QS:(decide ((0:Int)<(j:Int))&&((q:Int)==0))=false:=by
          rw[Bool.eq_false_iff];simp at h0⊢;omega
         have Jp:((0:Int)<(j:Int)/\¬(q:Int)=0)\/¬(0:Int)<(j:Int):=by
          simp at h0;omega
         rw[if_pos (by simp;omega)] at eP
         clear QS h0
         by_cases IV:(m+r) % 2=1
         .have SQ:¬((m:Int)+(r:Int)) % 2=0:=by omega
          have hu:fE (m+r)=-(((m:Int)+(r:Int)) / 2+1):=by
           unfold fE
           rw[if_pos IV];omega
          rw[hu] at eP
          subst eP
          clear hu IV mQ
          rcases Jp with⟨oV,vC⟩|oV
          all_goals(
           go_wp2_with fail
           all_goals go_ret3
           all_goals first
            |exact⟨_,_,rfl,tA.out,Tu.out,Below.refl _ _⟩
            |exact⟨_,_,rfl,tB.out (by omega),Q9.out (by omega),Below.refl _ _⟩)
         .have SQ:((m:Int)+(r:Int)) % 2=0:=by omega
          have hu:fE (m+r)=((m:Int)+(r:Int)) / 2:=by
           unfold fE
           rw[if_neg IV];omega
          rw[hu] at eP
          subst eP
          clear hu IV mQ
          rcases Jp with⟨oV,vC⟩|oV
          all_goals(
           go_wp2_with fail
           all_goals go_ret3
           all_goals first
            |exact⟨_,_,rfl,tA.out,Tu.out,Below.refl _ _⟩
            |exact⟨_,_,rfl,tB.out (by omega),Q9.out (by omega),Below.refl _ _⟩)
        .rw[if_neg (by simp)] at eP
         have HD:=hide eP
         clear eP h0
         rcases Uf j q with⟨oV,vC⟩| ⟨oV,vC⟩|oV
         .obtain rfl:q=0:=by omega
          obtain rfl:r=0:=by simp at Nz;omega
          clear Nz vC Qh CN
          have hj9:¬(8000000:Int)<(m:Int):=by omega
          go_wp2_with fail
          all_goals go_round
          all_goals first
           |exact⟨j+1,m,_,pw*8,_,Y,mQ,by omega,by omega,rfl,by go_num,by go_num,by go_num,HD.out,tC.out,WW.out⟩
           | (simp[intOf];omega)
         all_goals(
          go_wp2_with fail
          all_goals go_round)
         all_goals first
          |exact⟨j+1,m+r,_,pw*8,_,Y,mQ,by omega,by omega,rfl,by go_num,by go_num,by go_num,HD.out,tC.out,WW.out⟩
          | (simp[intOf];omega)
  .obtain rfl:j=8:=by omega
   rw[Nat.sub_self,decode] at j'
   subst j'
   go_wp2_with fail
   go_ret3
   exact⟨none,0,rfl,Sl.ofNil _,Sl.ofNil _,Below.refl _ _⟩
end Go.Proofs.YtoonnbhoiocoeaaGreatDoor
namespace Go.Proofs.YtoonnbhoiocoeaaGreatDoor
open Go.RowKit
theorem ny (ao:Option Addr)(cap:Nat)(l:List Pt)(w:World)(hr:aI w ao cap l):
  Calls Tryz.prog 62 #[.slice ao l.length cap] w fun e w'=>e=.returned (.int .i64 (aJ l))/\Below w.heap.size w w':=by
 by_cases lT:40<l.length
 .have Lv:(40:Int)<l.length:=by omega
  have e:aJ l=2:=if_pos lT
  rw[e]
  clear e lT
  go_enter Tryz.func62,Tryz.ntmps62
  go_wp2
  go_ret
  exact⟨rfl,Below.refl _ _⟩
 .have e:aJ l=fs (-1) l:=if_neg lT
  rw[e]
  clear e
  obtain⟨C,hC⟩:∃C,C=fs (-1) l:=⟨_,rfl⟩
  rw[<-hC]
  obtain⟨n,hn⟩:∃n,n=l.length:=⟨_,rfl⟩
  rw[<-hn] at lT⊢
  have HL:=hide hn
  have HC:Hid (C=fs (-1) (l.drop 0)):=by rw[List.drop_zero];exact hC
  clear hn hC
  have Lv:¬(40:Int)<(n:Int):=by omega
  go_enter Tryz.func62,Tryz.ntmps62
  go_wp2
  go_loopw [3,12] (fun la i wr=>∃(k:Nat) (last:Int),k<=n/\i=.int .i64 k/\la=.int .i64 last/\Hid (C=fs last (l.drop k))/\Below w.heap.size w wr) (fun _ i _=>n-(intOf i).toNat)
  case atStart=>exact⟨0,-1,by omega,rfl,rfl,HC,Below.refl _ _⟩
  case round=>
   obtain⟨k,last,hk,rfl,rfl,HR,bel⟩:=hrel
   clear HC
   by_cases az:k<n
   .have hs:=hr.keep bel (Nat.le_refl _)
    obtain⟨b,off,rfl,pL⟩:=hs.where (by intro h;rw[HL.out,h] at az;simp at az)
    obtain⟨x,y,e0,e1,hx,hd⟩:=hs.pt k (by rw[<-HL.out];exact az)
    have Fn:Hid (C=fs last ((x,y)::l.drop (k+1))):=by have:=HR.out;rw[hd] at this;exact this
    clear HR hx hd
    have inr:∀W:World,(wr.alloc (.cells #[.int .i64 x,.int .i64 y] 56))=W->Calls Tryz.prog 98 #[.agg #[.int .i64 x,.int .i64 y]] W fun e w1=>e=.returned (.int .i64 (if fv (x,y)=false then 3 else 0))/\Below w.heap.size w w1/\w1.cell? ⟨wr.heap.size,0,none⟩=some (.int .i64 x):=by
     rintro W rfl
     refine(nK x y _).mono ?_
     rintro e w1 ⟨rfl,b1⟩
     refine⟨rfl,aa (bel.alloc bel.size _) b1,?_⟩
     rw[b1.cell (p:=⟨wr.heap.size,0,none⟩) (by simp),World.cell?_alloc_at (hn:=rfl)]
     rfl
    cases hp:fv (x,y) with
    |false=>
     rw[hp,if_pos rfl] at inr
     go_wp2_with (go_at_call 98;refine(inr _ rfl).mono ?_;rintro e w1 ⟨rfl,b1,-⟩)
     go_ret
     refine⟨ij ?_,b1⟩
     rw[Fn.out,fs,if_pos hp]
    |true=>
     rw[hp,if_neg (by decide)] at inr
     by_cases fF:x<=last
     .go_wp2_with (go_at_call 98;refine(inr _ rfl).mono ?_;rintro e w1 ⟨rfl,b1,c1⟩)
      go_ret
      refine⟨ij ?_,b1⟩
      rw[Fn.out,fs,if_neg (by rw[hp];decide),if_pos fF]
     .go_wp2_with (go_at_call 98;refine(inr _ rfl).mono ?_;rintro e w1 ⟨rfl,b1,c1⟩)
      go_roundw
      case rel=>
       refine⟨k+1,x,by omega,by go_num,rfl,hide ?_,b1⟩
       rw[Fn.out,fs,if_neg (by rw[hp];decide),if_neg (by simp only;omega)]
      case measure=>simp[intOf];omega
   .obtain rfl:k=n:=by omega
    go_wp2_with fail
    go_ret
    refine⟨ij ?_,bel⟩
    rw[HR.out,HL.out,List.drop_length,fs]
theorem wv (ao:Option Addr)(cap:Nat)(l:List Bool)(v:Int)(w:World)(hr:Sl w ao cap (l.map Value.bool))(hl:l.length<=100000)(h:iM v=true):
  Calls Tryz.prog 197 #[.slice ao l.length cap,.int .i64 v] w fun e w'=>
   ∃a' G,e=.returned (.tuple #[.slice a' (l++code 8 (bd v)).length G,.int .i64 0])/\Sl w' a' G ((l++code 8 (bd v)).map Value.bool)/\Below w.heap.size w w':=by
 have p:=Gv ao cap l v w hr (by omega)
 rw[yj,Dg,if_pos h,if_pos h] at p
 exact p
end Go.Proofs.YtoonnbhoiocoeaaGreatDoor
namespace Go.Proofs.YtoonnbhoiocoeaaGreatDoor
open Go.RowKit
def wg (l:List Pt)(k:Nat)(t v s:Int):Prop:=
 (k=0/\t=0/\v=0/\s=0)\/(k=1/\l[0]? =some (t,v)/\s=t)\/∃j y,k=j+2/\l[j+1]? =some (t,v)/\l[j]? =some (t-s,y)
theorem wg.next {l:List Pt}{k:Nat}{t v s x y:Int}(h:wg l k t v s)(hx:l[k]? =some (x,y)):wg l (k+1) x y (x-t):=by
 rcases h with⟨rfl,rfl,rfl,rfl⟩| ⟨rfl,h0,rfl⟩| ⟨j,y',rfl,h1,h0⟩
 .exact .inr (.inl ⟨rfl,hx,by omega⟩)
 .exact .inr (.inr ⟨0,v,rfl,hx,by rw[h0];simp only[Option.some.injEq,Prod.mk.injEq,and_true];omega⟩)
 .exact .inr (.inr ⟨j+1,v,rfl,hx,by rw[h1];simp only[Option.some.injEq,Prod.mk.injEq,and_true];omega⟩)
theorem Sl.drew {w:World}{ao:Option Addr}{cap:Nat}{cs:List Value}(h:Sl w ao cap cs):Sl w.drew ao cap cs:=⟨h.row,h.le,h.max,h.nil⟩
theorem ES (ao:Option Addr)(cap:Nat)(l:List Pt)(w:World)(hr:aI w ao cap l)(h:aJ l=0):
  Calls Tryz.prog 168 #[.slice ao l.length cap] w fun e w'=>
   ∃a' G,e=.returned (.tuple #[.slice a' (pk 0 0 0 l).length G,.int .i64 0])/\Sl w' a' G ((pk 0 0 0 l).map Value.bool)/\Below w.heap.size w w':=by
 have hc:=ny ao cap l w hr
 rw[h] at hc
 obtain⟨lT,Du⟩:=eU h
 obtain⟨P,hP⟩:∃P,P=pk 0 0 0 l:=⟨_,rfl⟩
 rw[<-hP]
 obtain⟨n,hn⟩:∃n,n=l.length:=⟨_,rfl⟩
 rw[<-hn] at lT hc⊢
 have HL:=hide hn
 have HP:Hid (P=[]++pk 0 0 0 (l.drop 0)):=by rw[List.drop_zero];exact hP
 have HC:Hid (fs (-1) (l.drop 0)=0):=by rw[List.drop_zero];exact Du
 clear hn hP Du h
 go_enter Tryz.func168,Tryz.ntmps168
 go_wp2_with fail
 go_at_call 62
 refine hc.mono ?_
 rintro e w1 ⟨rfl,b1⟩
 clear hc
 go_wp2_with fail
 go_loopw [5,17] (fun o i wr=>∃(k G:Nat) (t v s last:Int) (a':Option Addr) (O:List Bool),k<=n/\i=.int .i64 k/\o=.slice a' O.length G/\(0<=t/\t<=100000)/\t<=last+1/\(-1000000<=v/\v<=1000000)/\(0<=s/\s<=100000)/\O.length<=64*k/\Hid (P=O++pk t v s (l.drop k))/\Hid (fs last (l.drop k)=0)/\Hid (wg l k t v s)/\Sl wr a' G (O.map Value.bool)/\Below w.heap.size w wr) (fun _ i _=>n-(intOf i).toNat)
 case atStart=>exact⟨0,0,0,0,0,-1,none,[],by omega,rfl,rfl,by omega,by omega,by omega,by omega,by simp,HP,HC,hide (.inl ⟨rfl,rfl,rfl,rfl⟩),Sl.ofNil _,b1⟩
 case round=>
  clear HP HC b1 w1
  obtain⟨k,G,t,v,s,last,a',O,hk,rfl,rfl,ht,hl,hv,hs,hO,HP,HC,HB,S,bel⟩:=hrel
  by_cases az:k<n
  .have dZ:=hr.keep bel (Nat.le_refl _)
   obtain⟨b,o,rfl,pL⟩:=dZ.where (by intro h;rw[HL.out,h] at az;simp at az)
   obtain⟨x,y,e0,e1,hx,hd⟩:=dZ.pt k (by rw[<-HL.out];exact az)
   have mQ:=HP.out
   have AY:=HC.out
   rw[hd] at mQ AY
   obtain⟨z1,z2,sK,C7,oJ⟩:=qL AY ht hl hv hs
   obtain⟨_,_,M4⟩:=jC AY
   have M':=hide M4
   have RF:=hide (HB.out.next hx)
   rw[pk,<-List.append_assoc,<-List.append_assoc] at mQ
   simp only at mQ z1 z2 sK C7 oJ
   have C1:∀W z,Sl W a' G (O.map Value.bool)->z=x-t-s->Calls Tryz.prog 197 #[.slice a' O.length G,.int .i64 z] W fun e w'=>∃a' G,e=.returned (.tuple #[.slice a' (O++code 8 (bd (x-t-s))).length G,.int .i64 0])/\Sl w' a' G ((O++code 8 (bd (x-t-s))).map Value.bool)/\Below W.heap.size W w':=by
    rintro W z h rfl
    exact wv a' G O _ W h (by omega) z1
   have hO1:(O++code 8 (bd (x-t-s))).length<=64*k+32:=by
    have h1:=fS 8 (bd (x-t-s))
    rw[List.length_append];omega
   generalize O++code 8 (bd (x-t-s))=O1 at*
   have C2:∀a' G W z,Sl W a' G (O1.map Value.bool)->z=y-v->Calls Tryz.prog 197 #[.slice a' O1.length G,.int .i64 z] W fun e w'=>∃a' G,e=.returned (.tuple #[.slice a' (O1++code 8 (bd (y-v))).length G,.int .i64 0])/\Sl w' a' G ((O1++code 8 (bd (y-v))).map Value.bool)/\Below W.heap.size W w':=by
    rintro a' G W z h rfl
    exact wv a' G O1 _ W h (by omega) z2
   have SX:(O1++code 8 (bd (y-v))).length<=64*(k+1):=by
    have h1:=fS 8 (bd (y-v))
    rw[List.length_append];omega
   generalize O1++code 8 (bd (y-v))=O2 at*
   have Mm:=hide mQ
   have HX:=hide hx
   clear HP HC mQ AY M4 hd hx z1 z2
   obtain⟨zO,SK⟩:=ht
   obtain⟨si,yZ⟩:=hv
   obtain⟨iJ,gM⟩:=hs
   have Kq:=sK
   have I':=C7
   have EN:=oJ
   obtain⟨hxa,VD⟩:=Kq
   obtain⟨hya,Ob⟩:=I'
   obtain⟨hsa,hsb⟩:=EN
   rcases HB.out with⟨rfl,rfl,rfl,rfl⟩| ⟨rfl,h0,rfl⟩| ⟨j,y',rfl,h1,h0⟩
   .clear HB
    rw[Nat.zero_mul,Nat.add_zero] at e0 e1
    go_wp2_with fail
    go_region
    all_goals go_wp2_with fail
    all_goals go_at_call 197
    refine(C1 _ _ (S.alloc _).drew (by omega)).mono ?_
    rintro e w3 ⟨a3,G3,rfl,S3,b3⟩
    go_wp2_with fail
    go_at_call 197
    refine(C2 _ _ _ _ S3 (by omega)).mono ?_
    rintro e w4 ⟨a4,G4,rfl,S4,b4⟩
    go_wp2_with fail
    go_roundw
    case rel=>exact⟨0+1,G4,x,y,_,x,a4,O2,by omega,by go_num,rfl,sK,by omega,C7,oJ,SX,Mm,M',RF,S4,aa (aa (ai (bel.alloc bel.size _)) b3) b4⟩
    case measure=>simp[intOf];omega
   .clear HB
    obtain⟨t',v',e2,e3,h2,-⟩:=dZ.pt 0 (by rw[<-HL.out];omega)
    rw[h0] at h2
    simp only[Option.some.injEq,Prod.mk.injEq] at h2
    obtain⟨rfl,rfl⟩:=h2
    clear h0
    rw[Nat.zero_mul,Nat.add_zero] at e2 e3
    go_wp2_with fail
    go_region
    all_goals go_wp2_with fail
    all_goals go_at_call 197
    refine(C1 _ _ (S.alloc _).drew (by omega)).mono ?_
    rintro e w3 ⟨a3,G3,rfl,S3,b3⟩
    go_wp2_with fail
    go_at_call 197
    refine(C2 _ _ _ _ S3 (by omega)).mono ?_
    rintro e w4 ⟨a4,G4,rfl,S4,b4⟩
    go_wp2_with fail
    go_roundw
    case rel=>exact⟨1+1,G4,x,y,_,x,a4,O2,by omega,by go_num,rfl,sK,by omega,C7,oJ,SX,Mm,M',RF,S4,aa (aa (ai (bel.alloc bel.size _)) b3) b4⟩
    case measure=>simp[intOf];omega
   .clear HB
    obtain⟨t',v',e2,e3,h2,-⟩:=dZ.pt (j+1) (by rw[<-HL.out];omega)
    obtain⟨Uk,v'',e4,e5,h3,-⟩:=dZ.pt j (by rw[<-HL.out];omega)
    rw[h1] at h2
    rw[h0] at h3
    simp only[Option.some.injEq,Prod.mk.injEq] at h2 h3
    obtain⟨rfl,rfl⟩:=h2
    obtain⟨hz,rfl⟩:=h3
    have bU:-100000<=Uk:=by omega
    have bi:Uk<=100000:=by omega
    clear h0 h1
    go_wp2_with fail
    go_region
    all_goals go_wp2_with fail
    all_goals go_at_call 197
    refine(C1 _ _ (S.alloc _).drew (by omega)).mono ?_
    rintro e w3 ⟨a3,G3,rfl,S3,b3⟩
    go_wp2_with fail
    go_at_call 197
    refine(C2 _ _ _ _ S3 (by omega)).mono ?_
    rintro e w4 ⟨a4,G4,rfl,S4,b4⟩
    go_wp2_with fail
    go_roundw
    case rel=>exact⟨(j+2)+1,G4,x,y,_,x,a4,O2,by omega,by go_num,rfl,sK,by omega,C7,oJ,SX,Mm,M',RF,S4,aa (aa (ai (bel.alloc bel.size _)) b3) b4⟩
    case measure=>simp[intOf];omega
  .obtain rfl:k=n:=by omega
   have mQ:=HP.out
   rw[HL.out,List.drop_length,pk,List.append_nil] at mQ
   subst mQ
   go_wp2_with fail
   go_ret2
   exact⟨_,_,rfl,S,bel⟩
theorem ER (ao:Option Addr)(cap:Nat)(l:List Pt)(w:World)(hr:aI w ao cap l)(h:¬aJ l=0):
  Calls Tryz.prog 168 #[.slice ao l.length cap] w fun e w'=>e=.returned (.tuple #[.slice none 0 0,.int .i64 (aJ l)])/\Below w.heap.size w w':=by
 have hc:=ny ao cap l w hr
 generalize aJ l=E at*
 go_enter Tryz.func168,Tryz.ntmps168
 go_wp2_with fail
 go_at_call 62
 refine hc.mono ?_
 rintro e w1 ⟨rfl,b1⟩
 go_wp2_with fail
 go_ret2
 exact⟨rfl,b1⟩
theorem tb (ao:Option Addr)(cap:Nat)(l:List Pt)(w:World)(hr:aI w ao cap l):
  Calls Tryz.prog 168 #[.slice ao l.length cap] w fun e w'=>
   ∃a' G,e=.returned (.tuple #[.slice a' (eg l).length G,.int .i64 (aJ l)])/\Sl w' a' G ((eg l).map Value.bool)/\Below w.heap.size w w':=by
 by_cases h:aJ l=0
 .have e:eg l=pk 0 0 0 l:=if_pos h
  rw[e,h]
  exact ES ao cap l w hr h
 .have e:eg l=[]:=if_neg h
  rw[e]
  refine(ER ao cap l w hr h).mono ?_
  rintro e w' ⟨rfl,b⟩
  exact⟨none,0,rfl,Sl.ofNil _,b⟩
end Go.Proofs.YtoonnbhoiocoeaaGreatDoor
