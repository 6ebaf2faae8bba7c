/-
  The reference's answer of chapter 2, Decoded: what it returns; nothing is written.
-/
import Derived.Test.YtoonnbhoiocoeaaGreatDoorQ29
set_option maxHeartbeats 40000000
set_option maxRecDepth 100000
set_option linter.unusedVariables false
namespace Go.Proofs.YtoonnbhoiocoeaaGreatDoor
open Go.RowKit
def part (b c d:Bool):Nat->Nat
 |0=>0
 |1=>4*b.toNat
 |2=>4*b.toNat+2*c.toNat
 |_=>4*b.toNat+2*c.toNat+d.toNat
theorem ND (b c d:Bool):part b c d 3<8:=by revert b c d;decide
theorem AR (b c d:Bool):part b c d 1<=4:=by revert b c d;decide
theorem Ba (b c d:Bool):part b c d 2<=6:=by revert b c d;decide
theorem W7 (j q:Nat):((0:Int)<(j:Int)/\(q:Int)=0)\/((0:Int)<(j:Int)/\¬(q:Int)=0)\/¬(0:Int)<(j:Int):=by omega
theorem Sl.tailA {w:World}{B off G:Nat}{Y:List Bool}(ew:Row w (some ⟨B,off+4,none⟩) (Y.map Value.bool))(fE:Y.length+4<=G)(hG:G<=9223372036854775807):Sl w (some ⟨B,off+4,none⟩) (G-4) (Y.map Value.bool):=
 ⟨ew,by rw[List.length_map];omega,by omega,fun e=>by cases e⟩
theorem Sl.tailB {w:World}{B off G:Nat}{Y:List Bool}(fE:Y.length+4<=G)(hG:G=4):Sl w (some ⟨B,off,none⟩) 0 (Y.map Value.bool):=by
 have hY:Y=[]:=List.eq_nil_of_length_eq_zero (by omega)
 subst hY
 exact⟨.inl rfl,Nat.le_refl _,by decide,fun e=>by cases e⟩
theorem uH (ao:Option Addr)(cap:Nat)(l:List Bool)(w w0:World)(hr:Sl w ao cap (l.map Value.bool))(mz:Sl w0 ao cap (l.map Value.bool)):
  Calls Tryz.prog 135 #[.slice ao l.length cap] w fun e w'=>
   ∃a' G,e=.returned (.tuple #[.int .i64 (ci l),.slice a' (cx l).length G,.int .i64 (fs l)])/\Sl w' a' G ((cx l).map Value.bool)/\Sl w0 a' G ((cx l).map Value.bool)/\Below w.heap.size w w':=by
 unfold ci cx fs
 obtain⟨D,hD⟩:∃D,D=decode 8 0 0 l:=⟨_,rfl⟩
 rw[<-hD]
 go_enter Tryz.func135,Tryz.ntmps135
 go_wp2_with fail
 go_loop [0,5,6,7] (fun s n p i=>∃(j m G pw:Nat) (a':Option Addr) (X:List Bool),Hid (pw=8 ^ j)/\j<=8/\m<=8000000/\s=.slice a' X.length G/\n=.int .i64 m/\p=.int .i64 pw/\i=.int .i64 j/\D=decode (8-j) j m X/\Sl w a' G (X.map Value.bool)/\Sl w0 a' G (X.map Value.bool)) (fun _ _ _ i=>9-(intOf i).toNat)
 case atStart=>exact⟨0,0,cap,1,ao,l,aa rfl,by omega,by omega,rfl,rfl,rfl,rfl,hD,hr,mz⟩
 case round=>
  obtain⟨j,m,G,pw,a',X,HP,hj,hm,rfl,rfl,rfl,rfl,ko,hs,jq⟩:=hrel
  clear hr mz hD
  by_cases aE:j<8
  .have FV:¬(j:Int)=8:=by omega
   rw[show 8-j=(8-(j+1))+1 by omega,decode] at ko
   by_cases h4:X.length<4
   .rw[if_pos h4] at ko
    subst ko
    have GV:(X.length:Int)<4:=by omega
    go_wp2_with fail
    go_ret3
    exact⟨none,0,rfl,Sl.ofNil _,Sl.ofNil _,Below.refl _ _⟩
   rw[if_neg h4] at ko
   obtain⟨x,b,c,d,Y,rfl⟩:=four X h4
   have GV:¬((x::b::c::d::Y).length:Int)<4:=by omega
   obtain⟨B,off,rfl,hB,fH⟩:=hs.row.at (by simp)
   obtain⟨B2,aaX,XV,Sf,Jp⟩:=jq.row.at (by simp)
   simp only[Option.some.injEq,Addr.mk.injEq,and_true] at XV
   obtain⟨rfl,rfl⟩:=XV
   have QK:Row w0 (some ⟨B,off+4,none⟩) (Y.map Value.bool):=.inr ⟨B,off+4,rfl,Sf,fun i v hv=>by
    rw[Nat.add_assoc,Nat.add_comm 4 i]
    exact Jp (i+4) v hv⟩
   clear Jp jq
   have c0:=fH 0 (.bool x) rfl
   rw[Nat.add_zero] at c0
   have c1:=fH 1 (.bool b) rfl
   have c2:=fH 2 (.bool c) rfl
   have c3:=fH 3 (.bool d) rfl
   have fE:=hs.le
   have LF:=hs.max
   have sJ:(x::b::c::d::Y).take 4=[x,b,c,d]:=rfl
   have hdr:(x::b::c::d::Y).drop 4=Y:=rfl
   rw[sJ,hdr,EG] at ko
   have hlen:(x::b::c::d::Y).length=Y.length+4:=rfl
   have uX:Row w (some ⟨B,off+4,none⟩) (Y.map Value.bool):=.inr ⟨B,off+4,rfl,hB,fun i v hv=>by
    rw[Nat.add_assoc,Nat.add_comm 4 i]
    exact fH (i+4) v hv⟩
   rw[List.length_map] at fE
   rw[hlen] at fE GV⊢
   clear fH sJ hdr hlen h4
   have HD:=aa ko
   clear ko
   go_wp2_with fail
   go_loop [8,22] (fun dv i=>∃k:Nat,k<=3/\i=.int .i64 k/\dv=.int .i64 (part b c d k)) (fun _ i=>3-(intOf i).toNat)
   case atStart=>exact⟨0,by omega,rfl,rfl⟩
   case round=>
    obtain⟨k,hk,rfl,rfl⟩:=hrel
    have Ad:k=0\/k=1\/k=2\/k=3:=by omega
    rcases Ad with rfl|rfl|rfl|rfl
    .clear c0 c2 c3 HD uX
     cases b
     all_goals(
      go_wp2_with fail
      go_round
      case rel=>exact⟨1,by omega,by go_num,by simp[part,wrap64]⟩
      case measure=>simp[intOf])
    .clear c0 c1 c3 HD uX
     cases c
     all_goals(
      have hp:=AR b false d
      have Ag:=AR b true d
      go_wp2_with fail
      go_round
      case rel=>exact⟨2,by omega,by go_num,by simp[part]⟩
      case measure=>simp[intOf])
    .clear c0 c1 c2 HD uX
     cases d
     all_goals(
      have hp:=Ba b c false
      have Ag:=Ba b c true
      go_wp2_with fail
      go_round
      case rel=>exact⟨3,by omega,by go_num,by simp[part]⟩
      case measure=>simp[intOf])
    have hpl:=ND b c d
    have Wi:4*b.toNat+2*c.toNat+d.toNat=part b c d 3:=rfl
    rw[Wi] at HD
    generalize part b c d 3=q at*
    clear Wi c1 c2 c3
    have hpw:pw<=2097152:=by
     rw[HP.out]
     exact Nat.pow_le_pow_right (n:=8) (j:=7) (by decide) (by omega)
    have Rl:q*pw<=7*2097152:=Nat.mul_le_mul (by omega) hpw
    have M4:(q:Int)*(pw:Int)=((q*pw:Nat):Int):=by rw[Int.natCast_mul]
    rw[<-HP.out] at HD
    have mX:Hid (pw*8=8 ^ (j+1)):=by
     show _=_
     rw[Nat.pow_succ,HP.out]
    have Vb:(8*x.toNat+q) % 8=q:=by omega
    rw[Vb] at HD
    generalize q*pw=r at*
    clear Vb HP
    have eI:=HD.out
    clear HD
    by_cases h0:0<j/\8*x.toNat+q=0
    .rw[if_pos h0] at eI
     subst eI
     obtain rfl:x=false:=by
      cases x with
      |false=>rfl
      |true=>simp at h0
     obtain rfl:q=0:=by omega
     have pf:(0:Int)<(j:Int):=by omega
     clear h0
     go_wp2_with fail
     go_ret3
     exact⟨none,0,rfl,Sl.ofNil _,Sl.ofNil _,Below.refl _ _⟩
    rw[if_neg h0] at eI
    by_cases yB:8000000<m+r
    .rw[if_pos yB] at eI
     subst eI
     have Dj:(8000000:Int)<(m:Int)+(r:Int):=by omega
     clear yB uX mX
     cases x
     .by_cases pf:0<j
      .have WF:(0:Int)<(j:Int):=by omega
       have wM:¬(q:Int)=0:=by simp at h0;omega
       clear h0 pf
       go_wp2_with fail
       all_goals go_ret3
       all_goals exact⟨none,0,rfl,Sl.ofNil _,Sl.ofNil _,Below.refl _ _⟩
      have WF:¬(0:Int)<(j:Int):=by omega
      clear h0 pf
      go_wp2_with fail
      all_goals go_ret3
      all_goals exact⟨none,0,rfl,Sl.ofNil _,Sl.ofNil _,Below.refl _ _⟩
     clear h0
     rcases W7 j q with⟨pf,wM⟩| ⟨pf,wM⟩|pf
     .rw[wM,Int.zero_mul] at M4
      omega
     all_goals(
      go_wp2_with fail
      all_goals go_ret3
      all_goals exact⟨none,0,rfl,Sl.ofNil _,Sl.ofNil _,Below.refl _ _⟩)
    rw[if_neg yB] at eI
    have Dj:¬(8000000:Int)<(m:Int)+(r:Int):=by omega
    have tA:=aa (Sl.tailA uX fE LF)
    have tB:=aa (fun h=>Sl.tailB (w:=w) (B:=B) (off:=off) fE h)
    have SA:=aa (Sl.tailA QK fE LF)
    have S8:=aa (fun h=>Sl.tailB (w:=w0) (B:=B) (off:=off) fE h)
    have XK:Hid (Sl w0 (if G=4 then some ⟨B,off,none⟩ else some ⟨B,off+4,none⟩) (G-4) (Y.map Value.bool)):=by
     show Sl _ _ _ _
     by_cases hG:G=4
     .rw[if_pos hG,hG];exact S8.out hG
     rw[if_neg hG];exact SA.out
    have tC:Hid (Sl w (if G=4 then some ⟨B,off,none⟩ else some ⟨B,off+4,none⟩) (G-4) (Y.map Value.bool)):=by
     show Sl _ _ _ _
     by_cases hG:G=4
     .rw[if_pos hG,hG];exact tB.out hG
     rw[if_neg hG];exact tA.out
    clear uX yB
    cases x
    .have SH:(decide ((0:Int)<(j:Int))&&((q:Int)==0))=false:=by
      rw[Bool.eq_false_iff];simp at h0⊢;omega
     have XH:((0:Int)<(j:Int)/\¬(q:Int)=0)\/¬(0:Int)<(j:Int):=by
      simp at h0;omega
     rw[if_pos (by simp;omega)] at eI
     clear SH h0
     by_cases JD:(m+r) % 2=1
     .have SQ:¬((m:Int)+(r:Int)) % 2=0:=by omega
      have hu:fw (m+r)=-(((m:Int)+(r:Int)) / 2+1):=by
       unfold fw
       rw[if_pos JD];omega
      rw[hu] at eI
      subst eI
      clear hu JD mX
      rcases XH with⟨pf,wM⟩|pf
      all_goals(
       go_wp2_with fail
       all_goals go_ret3
       all_goals first
        |exact⟨_,_,rfl,tA.out,SA.out,Below.refl _ _⟩
        |exact⟨_,_,rfl,tB.out (by omega),S8.out (by omega),Below.refl _ _⟩)
     have SQ:((m:Int)+(r:Int)) % 2=0:=by omega
     have hu:fw (m+r)=((m:Int)+(r:Int)) / 2:=by
      unfold fw
      rw[if_neg JD];omega
     rw[hu] at eI
     subst eI
     clear hu JD mX
     rcases XH with⟨pf,wM⟩|pf
     all_goals(
      go_wp2_with fail
      all_goals go_ret3
      all_goals first
       |exact⟨_,_,rfl,tA.out,SA.out,Below.refl _ _⟩
       |exact⟨_,_,rfl,tB.out (by omega),S8.out (by omega),Below.refl _ _⟩)
    rw[if_neg (by simp)] at eI
    have HD:=aa eI
    clear eI h0
    rcases W7 j q with⟨pf,wM⟩| ⟨pf,wM⟩|pf
    .obtain rfl:q=0:=by omega
     obtain rfl:r=0:=by simp at M4;omega
     clear M4 wM Rl Dj
     have hj9:¬(8000000:Int)<(m:Int):=by omega
     go_wp2_with fail
     all_goals go_round
     all_goals first
      |exact⟨j+1,m,_,pw*8,_,Y,mX,by omega,by omega,rfl,by go_num,by go_num,by go_num,HD.out,tC.out,XK.out⟩
      | (simp[intOf];omega)
    all_goals(
     go_wp2_with fail
     all_goals go_round)
    all_goals first
     |exact⟨j+1,m+r,_,pw*8,_,Y,mX,by omega,by omega,rfl,by go_num,by go_num,by go_num,HD.out,tC.out,XK.out⟩
     | (simp[intOf];omega)
  obtain rfl:j=8:=by omega
  rw[Nat.sub_self,decode] at ko
  subst ko
  go_wp2_with fail
  go_ret3
  exact⟨none,0,rfl,Sl.ofNil _,Sl.ofNil _,Below.refl _ _⟩
theorem nW (ao:Option Addr)(cap:Nat)(l:List Pt)(w:World)(hr:aV w ao cap l):
  Calls Tryz.prog 62 #[.slice ao l.length cap] w fun e w'=>e=.returned (.int .i64 (aH l))/\Below w.heap.size w w':=by
 by_cases mw:40<l.length
 .have Md:(40:Int)<l.length:=by omega
  have e:aH l=2:=if_pos mw
  rw[e]
  clear e mw
  go_enter Tryz.func62,Tryz.ntmps62
  go_wp2
  go_ret
  exact⟨rfl,Below.refl _ _⟩
 have e:aH l=fp (-1) l:=if_neg mw
 rw[e]
 clear e
 obtain⟨C,hC⟩:∃C,C=fp (-1) l:=⟨_,rfl⟩
 rw[<-hC]
 obtain⟨n,hn⟩:∃n,n=l.length:=⟨_,rfl⟩
 rw[<-hn] at mw⊢
 have HL:=aa hn
 have HC:Hid (C=fp (-1) (l.drop 0)):=by rw[List.drop_zero];exact hC
 clear hn hC
 have Md:¬(40:Int)<(n:Int):=by omega
 go_enter Tryz.func62,Tryz.ntmps62
 go_wp2
 go_loopw [3,12] (fun la i wr=>∃(k:Nat) (last:Int),k<=n/\i=.int .i64 k/\la=.int .i64 last/\Hid (C=fp last (l.drop k))/\Below w.heap.size w wr) (fun _ i _=>n-(intOf i).toNat)
 case atStart=>exact⟨0,-1,by omega,rfl,rfl,HC,Below.refl _ _⟩
 case round=>
  obtain⟨k,last,hk,rfl,rfl,HR,bel⟩:=hrel
  clear HC
  by_cases aE:k<n
  .have hs:=hr.keep bel (Nat.le_refl _)
   obtain⟨b,off,rfl,ld⟩:=hs.where (by intro h;rw[HL.out,h] at aE;simp at aE)
   obtain⟨x,y,e0,e1,hx,hd⟩:=hs.pt k (by rw[<-HL.out];exact aE)
   have FB:Hid (C=fp last ((x,y)::l.drop (k+1))):=by have:=HR.out;rw[hd] at this;exact this
   clear HR hx hd
   have inr:∀W:World,(wr.alloc (.cells #[.int .i64 x,.int .i64 y] 56))=W->Calls Tryz.prog 98 #[.agg #[.int .i64 x,.int .i64 y]] W fun e w1=>e=.returned (.int .i64 (if ft (x,y)=false then 3 else 0))/\Below w.heap.size w w1/\w1.cell? ⟨wr.heap.size,0,none⟩=some (.int .i64 x):=by
    rintro W rfl
    refine(oa x y _).mono ?_
    rintro e w1 ⟨rfl,b1⟩
    refine⟨rfl,ac (bel.alloc bel.size _) b1,?_⟩
    rw[b1.cell (p:=⟨wr.heap.size,0,none⟩) (by simp),World.cell?_alloc_at (hn:=rfl)]
    rfl
   cases hp:ft (x,y) with
   |false=>
    rw[hp,if_pos rfl] at inr
    go_wp2_with (go_at_call 98;refine(inr _ rfl).mono ?_;rintro e w1 ⟨rfl,b1,-⟩)
    go_ret
    refine⟨ju ?_,b1⟩
    rw[FB.out,fp,if_pos hp]
   |true=>
    rw[hp,if_neg (by decide)] at inr
    by_cases fE:x<=last
    .go_wp2_with (go_at_call 98;refine(inr _ rfl).mono ?_;rintro e w1 ⟨rfl,b1,c1⟩)
     go_ret
     refine⟨ju ?_,b1⟩
     rw[FB.out,fp,if_neg (by rw[hp];decide),if_pos fE]
    go_wp2_with (go_at_call 98;refine(inr _ rfl).mono ?_;rintro e w1 ⟨rfl,b1,c1⟩)
    go_roundw
    case rel=>
     refine⟨k+1,x,by omega,by go_num,rfl,aa ?_,b1⟩
     rw[FB.out,fp,if_neg (by rw[hp];decide),if_neg (by simp only;omega)]
    case measure=>simp[intOf];omega
  obtain rfl:k=n:=by omega
  go_wp2_with fail
  go_ret
  refine⟨ju ?_,bel⟩
  rw[HR.out,HL.out,List.drop_length,fp]
theorem yT (ao:Option Addr)(cap:Nat)(l:List Bool)(v:Int)(w:World)(hr:Sl w ao cap (l.map Value.bool))(hl:l.length<=100000)(h:iK v=true):
  Calls Tryz.prog 197 #[.slice ao l.length cap,.int .i64 v] w fun e w'=>
   ∃a' G,e=.returned (.tuple #[.slice a' (l++code 8 (bj v)).length G,.int .i64 0])/\Sl w' a' G ((l++code 8 (bj v)).map Value.bool)/\Below w.heap.size w w':=by
 have p:=IJ ao cap l v w hr (by omega)
 rw[zo,FN,if_pos h,if_pos h] at p
 exact p
def xp (l:List Pt)(k:Nat)(t v s:Int):Prop:=
 (k=0/\t=0/\v=0/\s=0)\/(k=1/\l[0]? =some (t,v)/\s=t)\/∃j y,k=j+2/\l[j+1]? =some (t,v)/\l[j]? =some (t-s,y)
theorem xp.next {l:List Pt}{k:Nat}{t v s x y:Int}(h:xp l k t v s)(hx:l[k]? =some (x,y)):xp l (k+1) x y (x-t):=by
 rcases h with⟨rfl,rfl,rfl,rfl⟩| ⟨rfl,h0,rfl⟩| ⟨j,y',rfl,h1,h0⟩
 .exact .inr (.inl ⟨rfl,hx,by omega⟩)
 .exact .inr (.inr ⟨0,v,rfl,hx,by rw[h0];simp only[Option.some.injEq,Prod.mk.injEq,and_true];omega⟩)
 exact .inr (.inr ⟨j+1,v,rfl,hx,by rw[h1];simp only[Option.some.injEq,Prod.mk.injEq,and_true];omega⟩)
theorem Sl.drew {w:World}{ao:Option Addr}{cap:Nat}{cs:List Value}(h:Sl w ao cap cs):Sl w.drew ao cap cs:=⟨h.row,h.le,h.max,h.nil⟩
theorem ED (ao:Option Addr)(cap:Nat)(l:List Pt)(w:World)(hr:aV w ao cap l)(h:aH l=0):
  Calls Tryz.prog 168 #[.slice ao l.length cap] w fun e w'=>
   ∃a' G,e=.returned (.tuple #[.slice a' (pk 0 0 0 l).length G,.int .i64 0])/\Sl w' a' G ((pk 0 0 0 l).map Value.bool)/\Below w.heap.size w w':=by
 have hc:=nW ao cap l w hr
 rw[h] at hc
 obtain⟨mw,Ex⟩:=eN h
 obtain⟨P,hP⟩:∃P,P=pk 0 0 0 l:=⟨_,rfl⟩
 rw[<-hP]
 obtain⟨n,hn⟩:∃n,n=l.length:=⟨_,rfl⟩
 rw[<-hn] at mw hc⊢
 have HL:=aa hn
 have HP:Hid (P=[]++pk 0 0 0 (l.drop 0)):=by rw[List.drop_zero];exact hP
 have HC:Hid (fp (-1) (l.drop 0)=0):=by rw[List.drop_zero];exact Ex
 clear hn hP Ex h
 go_enter Tryz.func168,Tryz.ntmps168
 go_wp2_with fail
 go_at_call 62
 refine hc.mono ?_
 rintro e w1 ⟨rfl,b1⟩
 clear hc
 go_wp2_with fail
 go_loopw [5,17] (fun o i wr=>∃(k G:Nat) (t v s last:Int) (a':Option Addr) (O:List Bool),k<=n/\i=.int .i64 k/\o=.slice a' O.length G/\(0<=t/\t<=100000)/\t<=last+1/\(-1000000<=v/\v<=1000000)/\(0<=s/\s<=100000)/\O.length<=64*k/\Hid (P=O++pk t v s (l.drop k))/\Hid (fp last (l.drop k)=0)/\Hid (xp l k t v s)/\Sl wr a' G (O.map Value.bool)/\Below w.heap.size w wr) (fun _ i _=>n-(intOf i).toNat)
 case atStart=>exact⟨0,0,0,0,0,-1,none,[],by omega,rfl,rfl,by omega,by omega,by omega,by omega,by simp,HP,HC,aa (.inl ⟨rfl,rfl,rfl,rfl⟩),Sl.ofNil _,b1⟩
 case round=>
  clear HP HC b1 w1
  obtain⟨k,G,t,v,s,last,a',O,hk,rfl,rfl,ht,hl,hv,hs,hO,HP,HC,HB,S,bel⟩:=hrel
  by_cases aE:k<n
  .have dZ:=hr.keep bel (Nat.le_refl _)
   obtain⟨b,o,rfl,ld⟩:=dZ.where (by intro h;rw[HL.out,h] at aE;simp at aE)
   obtain⟨x,y,e0,e1,hx,hd⟩:=dZ.pt k (by rw[<-HL.out];exact aE)
   have mX:=HP.out
   have DY:=HC.out
   rw[hd] at mX DY
   obtain⟨z1,z2,ui,Da,rP⟩:=rx DY ht hl hv hs
   obtain⟨_,_,MC⟩:=jQ DY
   have Mi:=aa MC
   have Tv:=aa (HB.out.next hx)
   rw[pk,<-List.append_assoc,<-List.append_assoc] at mX
   simp only at mX z1 z2 ui Da rP
   have C1:∀W z,Sl W a' G (O.map Value.bool)->z=x-t-s->Calls Tryz.prog 197 #[.slice a' O.length G,.int .i64 z] W fun e w'=>∃a' G,e=.returned (.tuple #[.slice a' (O++code 8 (bj (x-t-s))).length G,.int .i64 0])/\Sl w' a' G ((O++code 8 (bj (x-t-s))).map Value.bool)/\Below W.heap.size W w':=by
    rintro W z h rfl
    exact yT a' G O _ W h (by omega) z1
   have hO1:(O++code 8 (bj (x-t-s))).length<=64*k+32:=by
    have h1:=fT 8 (bj (x-t-s))
    rw[List.length_append];omega
   generalize O++code 8 (bj (x-t-s))=O1 at*
   have C2:∀a' G W z,Sl W a' G (O1.map Value.bool)->z=y-v->Calls Tryz.prog 197 #[.slice a' O1.length G,.int .i64 z] W fun e w'=>∃a' G,e=.returned (.tuple #[.slice a' (O1++code 8 (bj (y-v))).length G,.int .i64 0])/\Sl w' a' G ((O1++code 8 (bj (y-v))).map Value.bool)/\Below W.heap.size W w':=by
    rintro a' G W z h rfl
    exact yT a' G O1 _ W h (by omega) z2
   have TT:(O1++code 8 (bj (y-v))).length<=64*(k+1):=by
    have h1:=fT 8 (bj (y-v))
    rw[List.length_append];omega
   generalize O1++code 8 (bj (y-v))=O2 at*
   have Ms:=aa mX
   have HX:=aa hx
   clear HP HC mX DY MC hd hx z1 z2
   obtain⟨zR,Uq⟩:=ht
   obtain⟨Dt,Ce⟩:=hv
   obtain⟨jq,ij⟩:=hs
   have Lt:=ui
   have Lk:=Da
   have OH:=rP
   obtain⟨hxa,VO⟩:=Lt
   obtain⟨hya,Qv⟩:=Lk
   obtain⟨hsa,hsb⟩:=OH
   rcases HB.out with⟨rfl,rfl,rfl,rfl⟩| ⟨rfl,h0,rfl⟩| ⟨j,y',rfl,h1,h0⟩
   .clear HB
    rw[Nat.zero_mul,Nat.add_zero] at e0 e1
    go_wp2_with fail
    go_region
    all_goals go_wp2_with fail
    all_goals go_at_call 197
    refine(C1 _ _ (S.alloc _).drew (by omega)).mono ?_
    rintro e w3 ⟨a3,G3,rfl,S3,b3⟩
    go_wp2_with fail
    go_at_call 197
    refine(C2 _ _ _ _ S3 (by omega)).mono ?_
    rintro e w4 ⟨a4,G4,rfl,S4,b4⟩
    go_wp2_with fail
    go_roundw
    case rel=>exact⟨0+1,G4,x,y,_,x,a4,O2,by omega,by go_num,rfl,ui,by omega,Da,rP,TT,Ms,Mi,Tv,S4,ac (ac (ak (bel.alloc bel.size _)) b3) b4⟩
    case measure=>simp[intOf];omega
   .clear HB
    obtain⟨t',v',e2,e3,h2,-⟩:=dZ.pt 0 (by rw[<-HL.out];omega)
    rw[h0] at h2
    simp only[Option.some.injEq,Prod.mk.injEq] at h2
    obtain⟨rfl,rfl⟩:=h2
    clear h0
    rw[Nat.zero_mul,Nat.add_zero] at e2 e3
    go_wp2_with fail
    go_region
    all_goals go_wp2_with fail
    all_goals go_at_call 197
    refine(C1 _ _ (S.alloc _).drew (by omega)).mono ?_
    rintro e w3 ⟨a3,G3,rfl,S3,b3⟩
    go_wp2_with fail
    go_at_call 197
    refine(C2 _ _ _ _ S3 (by omega)).mono ?_
    rintro e w4 ⟨a4,G4,rfl,S4,b4⟩
    go_wp2_with fail
    go_roundw
    case rel=>exact⟨1+1,G4,x,y,_,x,a4,O2,by omega,by go_num,rfl,ui,by omega,Da,rP,TT,Ms,Mi,Tv,S4,ac (ac (ak (bel.alloc bel.size _)) b3) b4⟩
    case measure=>simp[intOf];omega
   clear HB
   obtain⟨t',v',e2,e3,h2,-⟩:=dZ.pt (j+1) (by rw[<-HL.out];omega)
   obtain⟨U6,v'',e4,e5,h3,-⟩:=dZ.pt j (by rw[<-HL.out];omega)
   rw[h1] at h2
   rw[h0] at h3
   simp only[Option.some.injEq,Prod.mk.injEq] at h2 h3
   obtain⟨rfl,rfl⟩:=h2
   obtain⟨hz,rfl⟩:=h3
   have bK:-100000<=U6:=by omega
   have bm:U6<=100000:=by omega
   clear h0 h1
   go_wp2_with fail
   go_region
   all_goals go_wp2_with fail
   all_goals go_at_call 197
   refine(C1 _ _ (S.alloc _).drew (by omega)).mono ?_
   rintro e w3 ⟨a3,G3,rfl,S3,b3⟩
   go_wp2_with fail
   go_at_call 197
   refine(C2 _ _ _ _ S3 (by omega)).mono ?_
   rintro e w4 ⟨a4,G4,rfl,S4,b4⟩
   go_wp2_with fail
   go_roundw
   case rel=>exact⟨(j+2)+1,G4,x,y,_,x,a4,O2,by omega,by go_num,rfl,ui,by omega,Da,rP,TT,Ms,Mi,Tv,S4,ac (ac (ak (bel.alloc bel.size _)) b3) b4⟩
   case measure=>simp[intOf];omega
  obtain rfl:k=n:=by omega
  have mX:=HP.out
  rw[HL.out,List.drop_length,pk,List.append_nil] at mX
  subst mX
  go_wp2_with fail
  go_ret2
  exact⟨_,_,rfl,S,bel⟩
theorem Ga (ao:Option Addr)(cap:Nat)(l:List Pt)(w:World)(hr:aV w ao cap l)(h:¬aH l=0):
  Calls Tryz.prog 168 #[.slice ao l.length cap] w fun e w'=>e=.returned (.tuple #[.slice none 0 0,.int .i64 (aH l)])/\Below w.heap.size w w':=by
 have hc:=nW ao cap l w hr
 generalize aH l=E at*
 go_enter Tryz.func168,Tryz.ntmps168
 go_wp2_with fail
 go_at_call 62
 refine hc.mono ?_
 rintro e w1 ⟨rfl,b1⟩
 go_wp2_with fail
 go_ret2
 exact⟨rfl,b1⟩
theorem uj (ao:Option Addr)(cap:Nat)(l:List Pt)(w:World)(hr:aV w ao cap l):
  Calls Tryz.prog 168 #[.slice ao l.length cap] w fun e w'=>
   ∃a' G,e=.returned (.tuple #[.slice a' (ep l).length G,.int .i64 (aH l)])/\Sl w' a' G ((ep l).map Value.bool)/\Below w.heap.size w w':=by
 by_cases h:aH l=0
 .have e:ep l=pk 0 0 0 l:=if_pos h
  rw[e,h]
  exact ED ao cap l w hr h
 have e:ep l=[]:=if_neg h
 rw[e]
 refine(Ga ao cap l w hr h).mono ?_
 rintro e w' ⟨rfl,b⟩
 exact⟨none,0,rfl,Sl.ofNil _,b⟩
end Go.Proofs.YtoonnbhoiocoeaaGreatDoor
