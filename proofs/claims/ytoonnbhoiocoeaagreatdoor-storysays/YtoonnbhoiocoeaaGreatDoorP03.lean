/-
  Package zig: what fold, unfold, Put and Take return; nothing that was there is written.
-/
import Derived.ArgAppend
import Derived.Lib.MinMax
import Derived.Test.YtoonnbhoiocoeaaGreatDoorP02
import Derived.Test.YtoonnbhoiocoeaaGreatDoorP01
set_option maxHeartbeats 40000000
set_option maxRecDepth 100000
set_option linter.unusedVariables false
namespace Go.Proofs.YtoonnbhoiocoeaaGreatDoor
open Go.RowKit
theorem Ju (v:Int)(w:World)(h:iM v=true):
  Calls Tryz.prog 238 #[.int .i64 v] w fun e w'=>e=.returned (.int .i64 (bd v))/\w=w':=by
 have hv:=(of_decide_eq_true h:-4000000<=v/\v<=4000000)
 have h1:=hv.1
 have h2:=hv.2
 clear hv h
 by_cases hn:v<0
 .go_enter Tryz.func238,Tryz.ntmps238
  go_wp2_with fail
  go_ret
  refine⟨ij ?_,rfl⟩
  unfold bd
  rw[if_pos hn];omega
 .go_enter Tryz.func238,Tryz.ntmps238
  go_wp2_with fail
  go_ret
  refine⟨ij ?_,rfl⟩
  unfold bd
  rw[if_neg (by omega)];omega
theorem Fp (n:Nat)(w:World)(h:n<=8000000):
  Calls Tryz.prog 233 #[.int .i64 n] w fun e w'=>e=.returned (.int .i64 (fE n))/\w=w':=by
 by_cases hn:n % 2=1
 .go_enter Tryz.func233,Tryz.ntmps233
  go_wp2_with fail
  go_ret
  refine⟨ij ?_,rfl⟩
  unfold fE
  rw[if_pos hn,Int.tdiv_eq_ediv_of_nonneg (by omega)]
  unfold wrap64;omega
 .go_enter Tryz.func233,Tryz.ntmps233
  go_wp2_with fail
  go_ret
  refine⟨ij ?_,rfl⟩
  unfold fE
  rw[if_neg hn]
theorem Na (d:Nat)(h:d<8):zq (d:Int) (4:Nat)=true:=by
 unfold zq
 apply decide_eq_true
 rw[Int.toNat_natCast];omega
theorem Jd (d:Nat)(h:d<8):zq ((d:Int)+8) (4:Nat)=true:=by
 unfold zq
 apply decide_eq_true
 rw[Int.toNat_natCast];omega
theorem E6 (ao:Option Addr)(cap:Nat)(l:List Bool)(v:Int)(w:World)(hr:Sl w ao cap (l.map Value.bool))(hl:l.length<=140737488355160)(h:iM v=true):
  Calls Tryz.prog 234 #[.slice ao l.length cap,.int .i64 v] w fun e w'=>
   ∃a' G,e=.returned (.tuple #[.slice a' (l++code 8 (bd v)).length G,.int .i64 0])/\Sl w' a' G ((l++code 8 (bd v)).map Value.bool)/\Below w.heap.size w w'/\iD w.heap.size ao a':=by
 have hv:=(of_decide_eq_true h:-4000000<=v/\v<=4000000)
 have h1:=hv.1
 have h2:=hv.2
 have Bj:=uD v h
 have Lu:=fun w=>Ju v w h
 clear hv h
 generalize bd v=N at*
 go_enter Tryz.func234,Tryz.ntmps234
 go_wp2_with (go_at_call 238;refine(Lu _).mono ?_;rintro e w' ⟨rfl,rfl⟩)
 clear h1 h2 Lu
 go_loopw [0,6,17] (fun s n i wr=>∃(j m G:Nat) (a':Option Addr) (X:List Bool),j<=8/\m<=8000000/\X.length=l.length+4*j/\s=.slice a' X.length G/\n=.int .i64 m/\i=.int .i64 j/\X++code (8-j) m=l++code 8 N/\Sl wr a' G (X.map Value.bool)/\Below w.heap.size w wr/\iD w.heap.size ao a') (fun _ _ i _=>8-(intOf i).toNat)
 case atStart=>exact⟨0,N,cap,ao,l,by omega,Bj,by omega,rfl,rfl,rfl,rfl,hr,Below.refl _ _,iD.refl _ _⟩
 case round=>
  obtain⟨j,m,G,a',X,hj,hm,hX,rfl,rfl,rfl,jh,hs,bel,kin⟩:=hrel
  by_cases az:j<8
  .have hf:8-j=(8-(j+1))+1:=by omega
   have EL:(j:Int)<8:=by omega
   rw[hf,code] at jh
   have hd:m % 8<8:=Nat.mod_lt _ (by decide)
   by_cases hz:m / 8=0
   .rw[if_pos hz,decide_eq_false (show¬0<m / 8 by omega),List.append_nil] at jh
    have g1:¬(0:Int)<(m:Int) / 8:=by omega
    have g2:(m:Int) / 8=0:=by omega
    have hP:∀W:World,Sl W a' G (X.map Value.bool)->Calls Tryz.prog 239 #[.slice a' X.length G,.int .i64 ((m:Int) % 8),.int .i64 4] W fun e w'=>∃a' G,e=.returned (.tuple #[.slice a' (l++code 8 N).length G,.int .i64 0])/\Sl w' a' G ((l++code 8 N).map Value.bool)/\Below W.heap.size W w'/\iD W.heap.size none a':=by
     intro W hW
     rw[show(m:Int) % 8=((m % 8:Nat):Int) by omega]
     refine(IG a' G X _ 4 W hW.row (by decide) (Na _ hd) (by omega)).mono ?_
     rintro e w' ⟨rfl,hB,oC⟩
     rw[Lt _ hd,jh] at hB
     have gM:=Sl.ofBlk hB (by rw[List.length_map,<-jh,List.length_append,fT];omega)
     rw[List.length_map] at gM
     have aw:X.length+4=(l++code 8 N).length:=by rw[<-jh,List.length_append,fT]
     rw[aw]
     exact⟨_,_,rfl,gM,oC,iD.new _ _ _⟩
    clear jh hf hr hd hz hX
    go_wp2_with (go_at_call 239;refine(hP _ hs).mono ?_;rintro e w1 ⟨a1,G1,rfl,dZ,aU,sL⟩)
    go_ret2
    exact⟨_,_,by simp,dZ,aa bel aU,sL.fresh bel.size⟩
   .rw[if_neg hz,decide_eq_true (show 0<m / 8 by omega),<-List.append_assoc] at jh
    have g1:(0:Int)<(m:Int) / 8:=by omega
    have g2:¬(m:Int) / 8=0:=by omega
    have hP:∀W:World,Sl W a' G (X.map Value.bool)->Calls Tryz.prog 239 #[.slice a' X.length G,.int .i64 ((m:Int) % 8+8),.int .i64 4] W fun e w'=>∃a' G,e=.returned (.tuple #[.slice a' (X++lk true (m % 8)).length G,.int .i64 0])/\Sl w' a' G ((X++lk true (m % 8)).map Value.bool)/\Below W.heap.size W w'/\iD W.heap.size none a':=by
     intro W hW
     rw[show(m:Int) % 8=((m % 8:Nat):Int) by omega]
     refine(IG a' G X _ 4 W hW.row (by decide) (Jd _ hd) (by omega)).mono ?_
     rintro e w' ⟨rfl,hB,oC⟩
     rw[Jl _ hd] at hB
     have gM:=Sl.ofBlk hB (by rw[List.length_map,List.length_append,fT];omega)
     rw[List.length_map] at gM
     have aw:X.length+4=(X++lk true (m % 8)).length:=by rw[List.length_append,fT]
     rw[aw]
     exact⟨_,_,rfl,gM,oC,iD.new _ _ _⟩
    have HC:Hid (X++lk true (m % 8)++code (8-(j+1)) (m / 8)=l++code 8 N):=jh
    have HX:Hid ((X++lk true (m % 8)).length=l.length+4*(j+1)):=by
     show _=_
     rw[List.length_append,fT];omega
    clear jh hf hr hd hX
    generalize X++lk true (m % 8)=Y at*
    go_wp2_with (go_at_call 239;refine(hP _ hs).mono ?_;rintro e w1 ⟨a1,G1,rfl,dZ,aU,sL⟩)
    go_roundw
    case rel=>exact⟨j+1,m / 8,G1,a1,Y,by omega,by omega,HX.out,rfl,by go_num,by go_num,HC.out,dZ,aa bel aU,sL.fresh bel.size⟩
    case measure=>simp[intOf];omega
  .obtain rfl:j=8:=by omega
   rw[Nat.sub_self,code,List.append_nil] at jh
   subst jh
   go_wp2_with fail
   go_ret2
   exact⟨_,_,rfl,hs,bel,kin⟩
theorem wR (ao:Option Addr)(cap:Nat)(l:List Bool)(w:World)(hr:Sl w ao cap (l.map Value.bool))(hl:l.length<=140737488355328):
  Calls Tryz.prog 207 #[.slice ao l.length cap] w fun e w'=>
   ∃a' G,e=.returned (.tuple #[.int .i64 (ck l),.slice a' (cz l).length G,.int .i64 (fB l)])/\Sl w' a' G ((cz l).map Value.bool)/\Below w.heap.size w w'/\iD w.heap.size ao a':=by
 unfold ck cz fB
 obtain⟨D,hD⟩:∃D,D=decode 8 0 0 l:=⟨_,rfl⟩
 rw[<-hD]
 go_enter Tryz.func207,Tryz.ntmps207
 go_wp2_with fail
 go_loopw [0,5,10] (fun s n i wr=>∃(j m G:Nat) (a':Option Addr) (X:List Bool),j<=8/\m<=8000000/\X.length<=l.length/\s=.slice a' X.length G/\n=.int .i64 m/\i=.int .i64 j/\D=decode (8-j) j m X/\Sl wr a' G (X.map Value.bool)/\Below w.heap.size w wr/\iD w.heap.size ao a') (fun _ _ i _=>8-(intOf i).toNat)
 case atStart=>exact⟨0,0,cap,ao,l,by omega,by omega,by omega,rfl,rfl,rfl,hD,hr,Below.refl _ _,iD.refl _ _⟩
 case round=>
  obtain⟨j,m,G,a',X,hj,hm,hX,rfl,rfl,rfl,j',hs,bel,kin⟩:=hrel
  clear hr hD
  by_cases az:j<8
  .have EL:(j:Int)<8:=by omega
   rw[show 8-j=(8-(j+1))+1 by omega,decode] at j'
   by_cases h4:X.length<4
   .rw[if_pos h4] at j'
    subst j'
    have Gk:(X.length:Int)<4:=by omega
    go_wp2_with (go_at_call 232;refine(F' _ _ _ _ _ (by decide) Gk).mono ?_;rintro e w1 ⟨rfl,rfl⟩)
    go_ret3
    exact⟨none,0,rfl,Sl.ofNil _,bel,iD.nil _ _⟩
   .rw[if_neg h4] at j'
    have hT:∀W:World,Sl W a' G (X.map Value.bool)->Calls Tryz.prog 232 #[.slice a' X.length G,.int .i64 4] W fun e w'=>∃a' G,e=.returned (.tuple #[.int .i64 (numOf (X.take 4)),.slice a' (X.drop 4).length G,.int .i64 0])/\Sl w' a' G ((X.drop 4).map Value.bool)/\Below W.heap.size W w'/\iD W.heap.size none a':=by
     intro W hW
     have fF:=hW.le
     rw[List.length_map] at fF
     refine(Lg a' G X 4 W hW.row (by decide) (by omega) (by omega) fF hW.max).mono ?_
     rintro e w' ⟨rfl,hB,oC⟩
     have gM:=Sl.ofBlk hB (by rw[List.length_map,List.length_drop];omega)
     rw[List.length_map,List.length_drop] at gM
     rw[List.length_drop]
     exact⟨_,_,rfl,gM,oC,iD.new _ _ _⟩
    have Z':numOf (X.take 4)<16:=qx X 4
    have Zo:(X.drop 4).length<=l.length:=by rw[List.length_drop];omega
    generalize numOf (X.take 4)=g at*
    generalize X.drop 4=Y at*
    have HD:=hide j'
    clear j' h4
    by_cases h0:0<j/\g=0
    .obtain⟨oV,rfl⟩:=h0
     have tJ:(0:Int)<(j:Int):=by omega
     have eP:=HD.out
     rw[if_pos ⟨oV,rfl⟩] at eP
     subst eP
     clear HD
     go_wp2_with (go_at_call 232;refine(hT _ hs).mono ?_;rintro e w1 ⟨a1,G1,rfl,dZ,aU,sL⟩)
     go_ret3
     exact⟨none,0,rfl,Sl.ofNil _,aa bel aU,iD.nil _ _⟩
    .have eP:=HD.out
     rw[if_neg h0] at eP
     clear HD
     have nF:(decide ((0:Int)<(j:Int))&&((g:Int)==0))=false:=by
      rw[Bool.eq_false_iff];simp;omega
     have Wl:(8:Nat) ^ j<=8 ^ 7:=Nat.pow_le_pow_right (by decide) (by omega)
     have Qh:g % 8*8 ^ j<=7*8 ^ 7:=Nat.mul_le_mul (by omega) Wl
     have ze:wrap64 ((g:Int) % 8*2 ^ (j*3))=((g % 8*8 ^ j:Nat):Int):=by
      have XL:(2:Int) ^ (j*3)=((8 ^ j:Nat):Int):=by
       rw[Nat.mul_comm,Int.pow_mul]
       simp
      rw[XL,show(g:Int) % 8=((g % 8:Nat):Int) by omega,<-Int.natCast_mul]
      unfold wrap64;omega
     generalize g % 8*8 ^ j=p at*
     clear Wl
     by_cases wH:8000000<m+p
     .rw[if_pos wH] at eP
      subst eP
      have CN:(8000000:Int)<(m:Int)+(p:Int):=by omega
      go_wp2_with (go_at_call 232;refine(hT _ hs).mono ?_;rintro e w1 ⟨a1,G1,rfl,dZ,aU,sL⟩)
      all_goals go_ret3
      all_goals exact⟨none,0,rfl,Sl.ofNil _,aa bel aU,iD.nil _ _⟩
     .rw[if_neg wH] at eP
      have CN:¬(8000000:Int)<(m:Int)+(p:Int):=by omega
      by_cases Rj:g<8
      .rw[if_pos Rj] at eP
       subst eP
       have U3:(g:Int)<8:=by omega
       go_wp2_with (first| (go_at_call 232;refine(hT _ hs).mono ?_;rintro e w1 ⟨a1,G1,rfl,dZ,aU,sL⟩)| (go_at_call 233;rw[show(m:Int)+(p:Int)=((m+p:Nat):Int) from rfl];refine(Fp (m+p) _ (by omega)).mono ?_;rintro e w2 ⟨rfl,rfl⟩))
       all_goals go_ret3
       all_goals exact⟨a1,G1,rfl,dZ,aa bel aU,sL.fresh bel.size⟩
      .rw[if_neg Rj] at eP
       have HD:=hide eP
       have U3:¬(g:Int)<8:=by omega
       clear eP
       go_wp2_with (go_at_call 232;refine(hT _ hs).mono ?_;rintro e w1 ⟨a1,G1,rfl,dZ,aU,sL⟩)
       all_goals go_roundw
       all_goals first
        |exact⟨j+1,m+p,G1,a1,Y,by omega,by omega,Zo,rfl,by go_num,by go_num,HD.out,dZ,aa bel aU,sL.fresh bel.size⟩
        | (simp[intOf];omega)
  .obtain rfl:j=8:=by omega
   rw[Nat.sub_self,decode] at j'
   subst j'
   go_wp2_with fail
   go_ret3
   exact⟨none,0,rfl,Sl.ofNil _,bel,iD.nil _ _⟩
end Go.Proofs.YtoonnbhoiocoeaaGreatDoor
namespace Go.Proofs.YtoonnbhoiocoeaaGreatDoor
open Go.RowKit
def Apart (u v:Value):Prop:=∀g,u.ownBlock=some g->v.ownBlock≠some g
def LJ (w:World)(v v':Value):Prop:=v'.ownBlock=v.ownBlock\/∀g,v'.ownBlock=some g->w.heap.size<=g
theorem Apart.went {w:World}{u v v':Value}(h:Apart u v)(hu:∀g,u.ownBlock=some g->g<w.heap.size)(hw:LJ w v v'):Apart u v':=by
 intro g hg hv
 rcases hw with hw|hw
 .exact h g hg (hw▸hv)
 .have h1:=hu g hg
  have h2:=hw g hv
  omega
theorem dX {P:Program}(w:World){ops:Array Oper}{rest:List Oper}{o:Oper}{a:Act}{Q:Exit->Act->World->Prop}(uc:o.guard=none)(s x:Operand)(t:TypeId)
  (ho:o.op=.call {callee:=.builtin .append,args:=#[s,x],argTypes:=#[t,t]})
  (base:Nat) (e:TypeId) (i:TypeInfo) (z:Value) (size bytes:Nat) (ht:P.underlying t=some (.slice e)) (hi:P.info? e=some i) (hz:i.zero=some z)
  (wK:i.size=size) (OY:i.bytes=bytes) (JX:z.cells.size=size) (dz:0<size)
  (v:Value) (n:Nat) (xs:List Value) (hs:a.eval s=v) (kH:w.ownsRow base e size v n xs)
  (ad:Addr) (m c:Nat) (news:List Value) (hx:a.eval x=.slice (some ad) m c) (hl:news.length=m*size) (lm:∀j u,news[j]? =some u->w.cell? (ad.add j)=some u) (h1:∀u∈news,u.oneCell'=true)
  (hm:0<m) (Hn:n+m<=maxLen) (qV:(n+m)*bytes<=140737488355328) (pB:base<=w.heap.size)
  (h:∀v' w',w'.ownsRow base e size v' (n+m) (xs++news)->w.grownBy w' v.ownBlock->LJ w v v'->wpList P ops Q rest (a.put o.dst v') w'):wpList P ops Q (o::rest) a w:=by
 have Wg:=kH.1
 have up:∀(v':Value) (w':World),w'.ownsRow w.heap.size e size v' (n+m) (xs++news)->w'.ownsRow base e size v' (n+m) (xs++news)/\∀g,v'.ownBlock=some g->w.heap.size<=g:=by
  intro v' w' xE
  refine⟨⟨xE.1,?_⟩,fun g hg=>(xE.lt g hg).1⟩
  rcases xE.2 with h0| ⟨g,cap,cur,q1,q2,q3⟩
  .exact .inl h0
  .exact .inr ⟨g,cap,cur,q1,by omega,q3⟩
 have gr:∀(w':World),w.grownBy w' none->∀row,w.grownBy w' row:=fun w' hg row=>⟨hg.os,hg.tape,hg.output,hg.size,fun k hk _=>hg.block k hk (by simp)⟩
 rcases kH.2 with⟨rfl,rfl⟩| ⟨g,cap,cur,rfl,Te,hh,G0,rW,i',vY⟩
 .refine wpList_append_grows w uc s x t ho e i z size bytes ht hi hz wK OY JX dz none 0 0 xs hs (fun _=>⟨rfl,rfl⟩) Wg (fun b hb=>by cases hb) ad m c news hx hl lm h1 (by omega) Hn qV ?_
  intro v' w' xE rt
  obtain⟨p1,p2⟩:=up v' w' xE
  exact h v' w' p1 (gr w' rt _) (.inr p2)
 .by_cases hr:n+m<=cap
  .refine wpList_append_fits w uc s x t ho base e i size ht hi wK g n cap xs hs kH ad m c news hx hl lm h1 hr ?_
   intro w' xE rt
   exact h _ w' xE rt (.inl rfl)
  .refine wpList_append_grows w uc s x t ho e i z size bytes ht hi hz wK OY JX dz (some ⟨g,0,none⟩) n cap xs hs (fun h=>by cases h) Wg ?_ ad m c news hx hl lm h1 (by omega) Hn qV ?_
   .intro b hb j u hu
    obtain rfl:=Option.some.inj hb
    exact kH.cells (g:=g) rfl j u hu
   .intro v' w' xE rt
    obtain⟨p1,p2⟩:=up v' w' xE
    exact h v' w' p1 (gr w' rt _) (.inr p2)
theorem mi {w w':World}{base:Nat}{e:TypeId}{size n:Nat}{u v:Value}{xs:List Value}(h:w.ownsRow base e size u n xs)(hg:w.grownBy w' v.ownBlock)(ha:Apart u v):w'.ownsRow base e size u n xs:=by
 refine h.kept hg ?_
 cases hu:u.ownBlock with
 |none=>exact .inl rfl
 |some g=>exact .inr (fun e=>ha g hu e.symm)
theorem dt {w w':World}{base:Nat}{e:TypeId}{size n:Nat}{u:Value}{xs:List Value}(h:w.ownsRow base e size u n xs)(hb:Below w.heap.size w w'):w'.ownsRow base e size u n xs:=
 h.kept (row:=none) ⟨hb.os,hb.tape,hb.output,hb.size,fun k hk _=>hb.block k hk⟩ (by
  cases hu:u.ownBlock with
  |none=>exact .inl rfl
  |some g=>exact .inr (by simp))
theorem pH {w:World}{base:Nat}{e:TypeId}{n:Nat}{v:Value}{xs:List Value}(h:w.ownsRow base e 1 v n xs):∃ao cap,v=.slice ao n cap/\Sl w ao cap xs/\xs.length=n:=by
 rcases h.2 with⟨rfl,rfl⟩| ⟨g,cap,cur,rfl,Te,hh,G0,rW,i',vY⟩
 .have hx:xs=[]:=List.eq_nil_of_length_eq_zero (by simpa using h.1)
  subst hx
  exact⟨none,0,rfl,Sl.ofNil w,rfl⟩
 .have:=Dq h
  exact⟨_,_,rfl,this.1,this.2⟩
theorem ac.grown {w w':World}{g:Nat}{cs:List Value}{t:TypeId}{row:Option Nat}(h:ac w g cs t)(hg:w.grownBy w' row)(aF:∀k,row=some k->k≠g):ac w' g cs t:=
 (hg.block g h.lt (fun e=>aF g e.symm rfl)).trans h
theorem ac.alloc {w:World}{g:Nat}{cs:List Value}{t:TypeId}(h:ac w g cs t)(o:Obj):ac (w.alloc o) g cs t:=
 h.keep ((Below.refl w.heap.size w).alloc (Nat.le_refl _) o) h.lt
theorem aW {P:Program}(w0:World){ops:Array Oper}{rest:List Oper}{o:Oper}{a:Act}{Q:Exit->Act->World->Prop}(uc:o.guard=none)(s x:Operand)(t:TypeId)
  (ho:o.op=.call {callee:=.builtin .append,args:=#[s,x],argTypes:=#[t,t]})
  (base:Nat) (e:TypeId) (i:TypeInfo) (z:Value) (size bytes:Nat) (ht:P.underlying t=some (.slice e)) (hi:P.info? e=some i) (hz:i.zero=some z)
  (wK:i.size=size) (OY:i.bytes=bytes) (JX:z.cells.size=size) (dz:0<size)
  (v:Value) (n:Nat) (xs:List Value) (hs:a.eval s=v) (kH:w0.ownsRow base e size v n xs)
  (m:Nat) (news:Array Value) (te:TypeId) (hx:a.eval x=.slice (some ⟨w0.heap.size,0,none⟩) m m) (hl:news.size=m*size) (h1:∀u∈news.toList,u.oneCell'=true)
  (hm:0<m) (Hn:n+m<=maxLen) (qV:(n+m)*bytes<=140737488355328) (pB:base<=w0.heap.size)
  (h:∀v' w',w'.ownsRow base e size v' (n+m) (xs++news.toList)->w0.grownBy w' v.ownBlock->LJ w0 v v'->wpList P ops Q rest (a.put o.dst v') w'):wpList P ops Q (o::rest) a (w0.alloc (.cells news te)):=by
 have lm:∀j u,news.toList[j]? =some u->(w0.alloc (.cells news te)).cell? ((⟨w0.heap.size,0,none⟩:Addr).add j)=some u:=by
  intro j u hu
  rw[Addr.add_lit,Nat.zero_add,World.cell?_alloc_at (hn:=rfl)]
  simpa using hu
 refine dX (w0.alloc (.cells news te)) uc s x t ho base e i z size bytes ht hi hz wK OY JX dz v n xs hs (kH.alloc _) ⟨w0.heap.size,0,none⟩ m m news.toList hx (by simpa using hl) lm h1 hm Hn qV (by simp;omega) ?_
 intro v' w' xE hg hw
 have oC:=(Below.refl w0.heap.size w0).alloc (Nat.le_refl _) (Obj.cells news te)
 refine h v' w' xE ⟨hg.os.trans oC.os,hg.tape.trans oC.tape,hg.output.trans oC.output,Nat.le_trans oC.size hg.size,fun k hk aF=>?_⟩ ?_
 .rw[hg.block k (by simp;omega) aF]
  exact oC.block k hk
 .rcases hw with hw|hw
  .exact .inl hw
  .exact .inr (fun g rt=>by have:=hw g rt;simp at this;omega)
theorem aH {B base:Nat}{w w0 w':World}{e:TypeId}{size n:Nat}{v:Value}{xs:List Value}(h:Below B w w0)(kH:w0.ownsRow base e size v n xs)(hg:w0.grownBy w' v.ownBlock)(hB:B<=base)(hb:B<=w0.heap.size):Below B w w':=
 h.grown hg hb (fun k hk=>Nat.le_trans hB (kH.lt k hk).1)
end Go.Proofs.YtoonnbhoiocoeaaGreatDoor
namespace Go.Proofs.YtoonnbhoiocoeaaGreatDoor
open Go.RowKit
theorem au (w:World)(row:Option Nat):w.grownBy w row:=⟨rfl,rfl,rfl,Nat.le_refl _,fun _ _ _=>rfl⟩
theorem sd {a w:World}{row:Option Nat}(h:a.grownBy w row):a.grownBy w.drew row:=⟨h.os,h.tape,h.output,h.size,h.block⟩
theorem vb {a w:World}{row:Option Nat}(h:a.grownBy w row)(o:Obj):a.grownBy (w.alloc o) row:=by
 have b:=(Below.refl w.heap.size w).alloc (Nat.le_refl _) o
 exact⟨b.os.trans h.os,b.tape.trans h.tape,b.output.trans h.output,Nat.le_trans h.size b.size,fun k hk aF=>(b.block k (Nat.lt_of_lt_of_le hk h.size)).trans (h.block k hk aF)⟩
theorem ak {a w:World}{g:Nat}(h:a.grownBy w (some g))(i:Nat)(u:Value):a.grownBy (w.setCell ⟨g,i,none⟩ u) (some g):=by
 have b:Below 0 w (w.setCell ⟨g,i,none⟩ u):=(Below.refl 0 w).setCell (Nat.zero_le _) u
 exact⟨b.os.trans h.os,b.tape.trans h.tape,b.output.trans h.output,Nat.le_trans h.size b.size,fun k hk aF=>(heap_setCell_other w _ k u (fun e=>aF (by rw[e]))).trans (h.block k hk aF)⟩
def spot (t v s:Int):List Value:=[.int .i64 t,.int .i64 v,.int .i64 s]
theorem ac.drew {w:World}{g:Nat}{cs:List Value}{t:TypeId}(h:ac w g cs t):ac w.drew g cs t:=h
theorem Qb (g:Nat)(t v s x y:Int)(w:World)(hB:ac w g (spot t v s) 218)(ht:0<=t/\t<=100000)(hv:-1000000<=v/\v<=1000000)(hs:0<=s/\s<=100000)(hx:0<=x/\x<=100000)(hy:-1000000<=y/\y<=1000000):
  Calls Tryz.prog 214 #[.pointer (some ⟨g,0,none⟩),.agg #[.int .i64 x,.int .i64 y]] w fun e w'=>
   e=.returned (.tuple #[.int .i64 (x-t-s),.int .i64 (y-v)])/\ac w' g (spot x y (x-t)) 218/\w.grownBy w' (some g):=by
 obtain⟨zO,SK⟩:=ht
 obtain⟨si,yZ⟩:=hv
 obtain⟨iJ,dZ⟩:=hs
 obtain⟨pN,Kq⟩:=hx
 obtain⟨Pm,I'⟩:=hy
 have az:=hB.lt
 have c0:w.cell? ⟨g,0,none⟩=some (.int .i64 t):=hB.cell 0
 have c1:w.cell? ⟨g,1,none⟩=some (.int .i64 v):=hB.cell 1
 have c2:w.cell? ⟨g,2,none⟩=some (.int .i64 s):=hB.cell 2
 have f0:=hB.free 0
 have f1:=hB.free 1
 have f2:=hB.free 2
 go_enter Tryz.func214,Tryz.ntmps214
 go_wp2_with fail
 go_region
 all_goals go_wp2_with fail
 all_goals go_region
 all_goals go_wp2_with fail
 all_goals go_ret2
 exact⟨rfl,((((hB.set 0 _).set 1 _).set 2 _).alloc _).drew.drew,sd (sd (vb (ak (ak (ak (au _ _) 0 _) 1 _) 2 _) _))⟩
theorem OM (g:Nat)(t v s x y:Int)(w:World)(hB:ac w g (spot t v s) 218)(ht:0<=t/\t<=100000)(hv:-1000000<=v/\v<=1000000)(hs:-100000<=s/\s<=100000)(hx:-4000000<=x/\x<=4000000)(hy:-4000000<=y/\y<=4000000):
  Calls Tryz.prog 177 #[.pointer (some ⟨g,0,none⟩),.int .i64 x,.int .i64 y] w fun e w'=>
   e=.returned (.agg #[.int .i64 (t+(s+x)),.int .i64 (v+y)])/\ac w' g (spot (t+(s+x)) (v+y) (s+x)) 218/\w.grownBy w' (some g):=by
 obtain⟨zO,SK⟩:=ht
 obtain⟨si,yZ⟩:=hv
 obtain⟨iJ,dZ⟩:=hs
 obtain⟨pN,Kq⟩:=hx
 obtain⟨Pm,I'⟩:=hy
 have az:=hB.lt
 have c0:w.cell? ⟨g,0,none⟩=some (.int .i64 t):=hB.cell 0
 have c1:w.cell? ⟨g,1,none⟩=some (.int .i64 v):=hB.cell 1
 have c2:w.cell? ⟨g,2,none⟩=some (.int .i64 s):=hB.cell 2
 have f0:=hB.free 0
 have f1:=hB.free 1
 have f2:=hB.free 2
 go_enter Tryz.func177,Tryz.ntmps177
 go_wp2_with fail
 go_region
 all_goals go_wp2_with fail
 exact bodyPost_ret (v:=.agg #[.int .i64 (t+(s+x)),.int .i64 (v+y)]) (by simp[results,Tryz.results177,go_sem]) rfl ⟨rfl,((((hB.set 2 _).set 0 _).set 1 _).alloc _).drew,sd (vb (ak (ak (ak (au _ _) 2 _) 0 _) 1 _) _)⟩
theorem nz {fn:Func}{t u v x:Tmp}(h:fn.results=#[.tmp t,.tmp u,.tmp v,.tmp x])(tmps:Array Value)(P:Program)(w:World):
  (results fn tmps).run P w=.ok (.tuple #[tmps.getD t undef,tmps.getD u undef,tmps.getD v undef,tmps.getD x undef]) w:=by
 simp[results,h]
theorem Fl (ao:Option Addr)(cap:Nat)(l:List Bool)(x y:Int)(w:World)(hr:Sl w ao cap (l.map Value.bool))(hl:l.length<=100000)(h1:iM x=true)(h2:iM y=true):
  Calls Tryz.prog 215 #[.slice ao l.length cap,.int .i64 x,.int .i64 y] w fun e w'=>
   ∃a' G,e=.returned (.tuple #[.slice a' (l++(code 8 (bd x)++code 8 (bd y))).length G,.int .i64 0])/\Sl w' a' G ((l++(code 8 (bd x)++code 8 (bd y))).map Value.bool)/\Below w.heap.size w w'/\iD w.heap.size ao a':=by
 have p1:=fun W h=>E6 ao cap l x W h (by omega) h1
 have aw:(l++code 8 (bd x)).length<=100032:=by have:=fS 8 (bd x);rw[List.length_append];omega
 rw[<-List.append_assoc]
 generalize l++code 8 (bd x)=X at*
 have p2:=fun a G W h=>E6 a G X y W h (by omega) h2
 generalize X++code 8 (bd y)=Y at*
 go_enter Tryz.func215,Tryz.ntmps215
 go_wp2_with fail
 go_at_call 234
 refine(p1 _ hr).mono ?_
 rintro e w1 ⟨a1,G1,rfl,s1,b1,k1⟩
 go_wp2_with fail
 go_at_call 234
 refine(p2 _ _ _ s1).mono ?_
 rintro e w2 ⟨a2,G2,rfl,s2,b2,k2⟩
 go_wp2_with fail
 go_ret2
 exact⟨_,_,rfl,s2,aa b1 b2,k1.trans k2 b1.size⟩
def cU (b:List Bool):Int × Int × List Bool × Int:=
 if fB b≠0 then(0,0,[],fB b) else if fB (cz b)≠0 then(0,0,[],fB (cz b)) else(ck b,ck (cz b),cz (cz b),0)
theorem yS (ao:Option Addr)(cap:Nat)(b:List Bool)(w:World)(hr:Sl w ao cap (b.map Value.bool))(hl:b.length<=140737488355328):
  Calls Tryz.prog 176 #[.slice ao b.length cap] w fun e w'=>
   ∃a' G,e=.returned (.tuple #[.int .i64 (cU b).1,.int .i64 (cU b).2.1,.slice a' (cU b).2.2.1.length G,.int .i64 (cU b).2.2.2])/\Sl w' a' G ((cU b).2.2.1.map Value.bool)/\Below w.heap.size w w'/\iD w.heap.size ao a':=by
 have p1:=wR ao cap b w hr hl
 have aw:=oU b
 have p2:=fun a G W h=>wR a G (cz b) W h (by omega)
 unfold cU
 by_cases h1:fB b=0
 .rw[if_neg (fun h=>h h1)]
  rw[h1] at p1
  by_cases h2:fB (cz b)=0
  .rw[if_neg (fun h=>h h2)]
   rw[h2] at p2
   clear h1 h2 aw
   generalize ck b=n1 at*
   generalize cz b=B1 at*
   generalize ck B1=n2 at*
   generalize cz B1=B2 at*
   go_enter Tryz.func176,Tryz.ntmps176
   go_wp2_with fail
   go_at_call 207
   refine p1.mono ?_
   rintro e w1 ⟨a1,G1,rfl,s1,b1,k1⟩
   go_wp2_with fail
   go_at_call 207
   refine(p2 _ _ _ s1).mono ?_
   rintro e w2 ⟨a2,G2,rfl,s2,b2,k2⟩
   go_wp2_with fail
   refine bodyPost_ret (nz rfl _ _ _) rfl ?_
   exact⟨_,_,rfl,s2,aa b1 b2,k1.trans k2 b1.size⟩
  .rw[if_pos h2]
   clear h1 aw
   generalize ck b=n1 at*
   generalize cz b=B1 at*
   generalize ck B1=n2 at*
   generalize cz B1=B2 at*
   generalize fB B1=F2 at*
   go_enter Tryz.func176,Tryz.ntmps176
   go_wp2_with fail
   go_at_call 207
   refine p1.mono ?_
   rintro e w1 ⟨a1,G1,rfl,s1,b1,k1⟩
   go_wp2_with fail
   go_at_call 207
   refine(p2 _ _ _ s1).mono ?_
   rintro e w2 ⟨a2,G2,rfl,s2,b2,k2⟩
   go_wp2_with fail
   refine bodyPost_ret (nz rfl _ _ _) rfl ?_
   exact⟨none,0,rfl,Sl.ofNil _,aa b1 b2,iD.nil _ _⟩
 .rw[if_pos h1]
  clear p2 aw
  generalize ck b=n1 at*
  generalize cz b=B1 at*
  generalize fB b=F1 at*
  go_enter Tryz.func176,Tryz.ntmps176
  go_wp2_with fail
  go_at_call 207
  refine p1.mono ?_
  rintro e w1 ⟨a1,G1,rfl,s1,b1,k1⟩
  go_wp2_with fail
  refine bodyPost_ret (nz rfl _ _ _) rfl ?_
  exact⟨none,0,rfl,Sl.ofNil _,b1,iD.nil _ _⟩
end Go.Proofs.YtoonnbhoiocoeaaGreatDoor
namespace Go.Proofs.YtoonnbhoiocoeaaGreatDoor
open Go.RowKit
theorem eU {l:List Pt}(h:aJ l=0):l.length<=40/\fs (-1) l=0:=by
 unfold aJ at h
 split at h
 .cases h
 .exact⟨by omega,h⟩
theorem MG (ao:Option Addr)(cap:Nat)(l:List Pt)(w:World)(hr:aI w ao cap l)(h:aJ l=0):
  Calls Tryz.prog 183 #[.slice ao l.length cap] w fun e w'=>
   ∃a' G,e=.returned (.tuple #[.slice a' (pk 0 0 0 l).length G,.int .i64 0])/\Sl w' a' G ((pk 0 0 0 l).map Value.bool)/\Below w.heap.size w w':=by
 have hc:=mN ao cap l w hr
 rw[h] at hc
 obtain⟨lT,Du⟩:=eU h
 obtain⟨P,hP⟩:∃P,P=pk 0 0 0 l:=⟨_,rfl⟩
 rw[<-hP]
 obtain⟨n,hn⟩:∃n,n=l.length:=⟨_,rfl⟩
 rw[<-hn] at lT hc⊢
 have HL:=hide hn
 have HP:Hid (P=[]++pk 0 0 0 (l.drop 0)):=by rw[List.drop_zero];exact hP
 have HC:Hid (fs (-1) (l.drop 0)=0):=by rw[List.drop_zero];exact Du
 clear hn hP Du h
 go_enter Tryz.func183,Tryz.ntmps183
 go_wp2_with fail
 go_at_call 175
 refine hc.mono ?_
 rintro e w1 ⟨rfl,b1⟩
 clear hc
 obtain⟨g,hg⟩:∃g,g=w1.heap.size:=⟨_,rfl⟩
 have Ll:w.heap.size<=g:=by rw[hg];exact b1.size
 go_wp2_with fail
 rw[<-hg]
 have B0:=ac.laid w1 (spot 0 0 0) 218 g hg
 have de:Below w.heap.size w (w1.alloc (.cells (spot 0 0 0).toArray 218)):=b1.alloc b1.size _
 unfold spot at B0 de
 generalize w1.alloc _=w2 at*
 clear b1 hg
 go_loopw [5,19] (fun o i wr=>∃(k G:Nat) (t v s last:Int) (a':Option Addr) (O:List Bool),k<=n/\i=.int .i64 k/\o=.slice a' O.length G/\(0<=t/\t<=100000)/\t<=last+1/\(-1000000<=v/\v<=1000000)/\(0<=s/\s<=100000)/\O.length<=64*k/\Hid (P=O++pk t v s (l.drop k))/\Hid (fs last (l.drop k)=0)/\ac wr g (spot t v s) 218/\Sl wr a' G (O.map Value.bool)/\Off g a'/\Below w.heap.size w wr) (fun _ i _=>n-(intOf i).toNat)
 case atStart=>exact⟨0,0,0,0,0,-1,none,[],by omega,rfl,rfl,by omega,by omega,by omega,by omega,by simp,HP,HC,B0,Sl.ofNil _,Off.nil _,de⟩
 case round=>
  clear HP HC B0 de
  obtain⟨k,G,t,v,s,last,a',O,hk,rfl,rfl,ht,hl,hv,hs,hO,HP,HC,B,S,off,bel⟩:=hrel
  by_cases az:k<n
  .have dZ:=hr.keep bel (Nat.le_refl _)
   obtain⟨b,o,rfl,pL⟩:=dZ.where (by intro h;rw[HL.out,h] at az;simp at az)
   obtain⟨x,y,e0,e1,hx,hd⟩:=dZ.pt k (by rw[<-HL.out];exact az)
   have mQ:=HP.out
   have AY:=HC.out
   rw[hd] at mQ AY
   obtain⟨z1,z2,sK,C7,oJ⟩:=qL AY ht hl hv hs
   obtain⟨_,_,M4⟩:=jC AY
   have M':=hide M4
   rw[pk,<-List.append_assoc] at mQ
   simp only at mQ z1 z2 sK C7 oJ
   have TO:=fun W hB=>Qb g t v s x y W hB ht hv hs sK C7
   have PB:=fun W h=>Fl a' G O (x-t-s) (y-v) W h (by omega) z1 z2
   have XU:(O++(code 8 (bd (x-t-s))++code 8 (bd (y-v)))).length<=64*(k+1):=by
    have h1:=fS 8 (bd (x-t-s))
    have h2:=fS 8 (bd (y-v))
    rw[List.length_append,List.length_append];omega
   have Mm:=hide mQ
   clear HP HC mQ AY M4 hd hx z1 z2
   generalize O++(code 8 (bd (x-t-s))++code 8 (bd (y-v)))=O' at*
   go_wp2_with fail
   go_at_call 214
   refine(TO _ (B.alloc _)).mono ?_
   rintro e w3 ⟨rfl,B3,g3⟩
   have ay:Below w.heap.size w w3:=(bel.alloc bel.size _).grown g3 (by simp;exact Nat.le_succ_of_le bel.size) (fun j hj=>by cases hj;exact Ll)
   have S3:=(S.alloc _).off g3 off
   clear g3
   go_wp2_with fail
   go_at_call 215
   refine(PB _ S3).mono ?_
   rintro e w4 ⟨a4,G4,rfl,S4,b4,k4⟩
   go_wp2_with fail
   go_roundw
   case rel=>exact⟨k+1,G4,x,y,x-t,x,a4,O',by omega,by go_num,rfl,sK,by omega,C7,oJ,XU,Mm,M',B3.keep b4 B3.lt,S4,off.kin k4 B3.lt,aa ay b4⟩
   case measure=>simp[intOf];omega
  .obtain rfl:k=n:=by omega
   have mQ:=HP.out
   rw[HL.out,List.drop_length,pk,List.append_nil] at mQ
   subst mQ
   go_wp2_with fail
   go_ret2
   exact⟨_,_,rfl,S,bel⟩
theorem LM (ao:Option Addr)(cap:Nat)(l:List Pt)(w:World)(hr:aI w ao cap l)(h:¬aJ l=0):
  Calls Tryz.prog 183 #[.slice ao l.length cap] w fun e w'=>e=.returned (.tuple #[.slice none 0 0,.int .i64 (aJ l)])/\Below w.heap.size w w':=by
 have hc:=mN ao cap l w hr
 generalize aJ l=E at*
 go_enter Tryz.func183,Tryz.ntmps183
 go_wp2_with fail
 go_at_call 175
 refine hc.mono ?_
 rintro e w1 ⟨rfl,b1⟩
 go_wp2_with fail
 go_ret2
 exact⟨rfl,b1⟩
theorem zS (ao:Option Addr)(cap:Nat)(l:List Pt)(w:World)(hr:aI w ao cap l):
  Calls Tryz.prog 183 #[.slice ao l.length cap] w fun e w'=>
   ∃a' G,e=.returned (.tuple #[.slice a' (eg l).length G,.int .i64 (aJ l)])/\Sl w' a' G ((eg l).map Value.bool)/\Below w.heap.size w w':=by
 by_cases h:aJ l=0
 .have e:eg l=pk 0 0 0 l:=if_pos h
  rw[e,h]
  exact MG ao cap l w hr h
 .have e:eg l=[]:=if_neg h
  rw[e]
  refine(LM ao cap l w hr h).mono ?_
  rintro e w' ⟨rfl,b⟩
  exact⟨none,0,rfl,Sl.ofNil _,b⟩
theorem za (l:List Pt):(eg l).length<=2560:=by
 unfold eg
 split
 .rename_i h
  have:=r8 0 0 0 l
  have:=(eU h).1
  omega
 .simp
end Go.Proofs.YtoonnbhoiocoeaaGreatDoor
namespace Go.Proofs.YtoonnbhoiocoeaaGreatDoor
open Go.RowKit
theorem IH {v:Int}(r:List Bool)(h:iM v=true):ck (code 8 (bd v)++r)=v/\cz (code 8 (bd v)++r)=r/\fB (code 8 (bd v)++r)=0:=by
 unfold ck cz fB
 rw[Hc v r h]
 exact⟨rfl,rfl,rfl⟩
theorem PN (n:Nat){t v s last:Int}{p:Pt}{r:List Pt}(h:fs last (p::r)=0)(ht:0<=t/\t<=100000)(hl:t<=last+1)(hv:-1000000<=v/\v<=1000000)(hs:0<=s/\s<=100000):
  fl (n+1) t v s last (pk t v s (p::r))=(if(fl n p.1 p.2 (p.1-t) p.1 (pk p.1 p.2 (p.1-t) r)).2=0 then p::(fl n p.1 p.2 (p.1-t) p.1 (pk p.1 p.2 (p.1-t) r)).1 else [],(fl n p.1 p.2 (p.1-t) p.1 (pk p.1 p.2 (p.1-t) r)).2):=by
 obtain⟨z1,z2,_,_,_⟩:=qL h ht hl hv hs
 obtain⟨h1,h2,_⟩:=jC h
 rw[fl,pk,List.append_assoc]
 obtain⟨a1,a2,a3⟩:=IH (code 8 (bd (p.2-v))++pk p.1 p.2 (p.1-t) r) z1
 obtain⟨b1,b2,b3⟩:=IH (pk p.1 p.2 (p.1-t) r) z2
 rw[a3,if_neg (fun h=>h rfl),a2,b3,if_neg (fun h=>h rfl),a1,b1,b2]
 have e1:t+(s+(p.1-t-s))=p.1:=by omega
 have e2:v+(p.2-v)=p.2:=by omega
 have e3:s+(p.1-t-s)=p.1-t:=by omega
 rw[e1,e2,e3,if_neg (by rw[show(p.1,p.2)=p from rfl,h1];decide),if_neg (by omega)]
theorem FF:∀(r:List Pt) (t v s last:Int),fs last r=0->(0<=t/\t<=100000)->t<=last+1->(-1000000<=v/\v<=1000000)->(0<=s/\s<=100000)->fl r.length t v s last (pk t v s r)=(r,0)
 | [],t,v,s,last,_,_,_,_,_=>by simp[fl,pk]
 |p::r,t,v,s,last,h,ht,hl,hv,hs=>by
  rw[List.length_cons,PN r.length h ht hl hv hs]
  obtain⟨_,_,hx,hy,hz⟩:=qL h ht hl hv hs
  rw[FF r p.1 p.2 (p.1-t) p.1 (jC h).2.2 hx (by omega) hy hz]
  rfl
theorem Av (n:Nat):4<=(code 8 n).length:=by
 rw[code]
 simp[lk]
theorem CL {l:List Pt}(h:aJ l=0):dJ (eg l) l.length=l/\fO (eg l) l.length=0:=by
 obtain⟨lT,hc⟩:=eU h
 have hi:oQ (l.length:Int)=true:=decide_eq_true (by omega)
 have e:eg l=pk 0 0 0 l:=if_pos h
 have:=FF l 0 0 0 (-1) hc (by omega) (by omega) (by omega) (by omega)
 unfold dJ fO
 rw[if_pos hi,if_pos hi,e,Int.toNat_natCast,this]
 exact⟨rfl,rfl⟩
theorem AG:∀(n:Nat) (t v s last:Int) (b:List Bool),(fl n t v s last b).2=0->(fl n t v s last b).1.length=n/\fs last (fl n t v s last b).1=0/\pk t v s (fl n t v s last b).1=b
 |0,t,v,s,last,b,h=>by
  rw[fl] at h⊢
  by_cases h0:b.length=0
  .obtain rfl:=List.eq_nil_of_length_eq_zero h0
   exact⟨rfl,rfl,rfl⟩
  .simp only at h
   rw[if_neg h0] at h
   cases h
 |n+1,t,v,s,last,b,h=>by
  rw[fl] at h⊢
  by_cases h1:fB b=0
  .rw[if_neg (fun h=>h h1)] at h⊢
   by_cases h2:fB (cz b)=0
   .rw[if_neg (fun h=>h h2)] at h⊢
    by_cases h3:fv (t+(s+ck b),v+ck (cz b))=false
    .rw[if_pos h3] at h;cases h
    rw[if_neg h3] at h⊢
    by_cases h4:t+(s+ck b)<=last
    .rw[if_pos h4] at h;cases h
    rw[if_neg h4] at h⊢
    simp only at h⊢
    obtain⟨i1,i2,i3⟩:=AG n (t+(s+ck b)) (v+ck (cz b)) (s+ck b) (t+(s+ck b)) (cz (cz b)) h
    rw[if_pos h]
    refine⟨by rw[List.length_cons,i1],?_,?_⟩
    .rw[fs,if_neg h3,if_neg h4];exact i2
    .rw[pk]
     simp only
     have e1:t+(s+ck b)-t-s=ck b:=by omega
     have e2:v+ck (cz b)-v=ck (cz b):=by omega
     have e3:t+(s+ck b)-t=s+ck b:=by omega
     rw[e1,e2,e3,i3,List.append_assoc,(yz _ h2).2,(yz _ h1).2]
   .rw[if_pos h2] at h;exact absurd h h2
  .rw[if_pos h1] at h;exact absurd h h1
theorem unpack_pack {b:List Bool}{n:Int}(h:fO b n=0):aJ (dJ b n)=0/\eg (dJ b n)=b/\((dJ b n).length:Int)=n:=by
 unfold fO at h
 unfold dJ
 cases hi:oQ n with
 |false=>rw[hi] at h;cases h
 |true=>
  have hn:=(of_decide_eq_true hi:0<=n/\n<=40)
  rw[hi,if_pos rfl] at h
  rw[if_pos rfl]
  obtain⟨i1,i2,i3⟩:=AG n.toNat 0 0 0 (-1) b h
  have hc:aJ (fl n.toNat 0 0 0 (-1) b).1=0:=by
   unfold aJ
   rw[if_neg (by omega)]
   exact i2
  refine⟨hc,?_,by rw[i1];omega⟩
  unfold eg
  rw[if_pos hc]
  exact i3
def placeOf:Int->Int->Int->List Pt->Int × Int × Int
 |t,v,s,[]=>(t,v,s)
 |t,_,_,p::r=>placeOf p.1 p.2 (p.1-t) r
theorem xO:∀(a c:List Pt) (t v s:Int),pk t v s (a++c)=pk t v s a++pk (placeOf t v s a).1 (placeOf t v s a).2.1 (placeOf t v s a).2.2 c
 | [],c,t,v,s=>rfl
 |p::r,c,t,v,s=>by
  rw[List.cons_append,pk,pk,placeOf,xO r c p.1 p.2 (p.1-t),List.append_assoc,List.append_assoc,List.append_assoc]
theorem rD:∀(t v s:Int) (l:List Pt),8*l.length<=(pk t v s l).length
 |_,_,_,[]=>by simp[pk]
 |t,v,s,p::r=>by
  have h1:=Av (bd (p.1-t-s))
  have h2:=Av (bd (p.2-v))
  have h3:=rD p.1 p.2 (p.1-t) r
  simp only[pk,List.length_append,List.length_cons]
  omega
theorem m6 {l:List Pt}(h:aJ l=0)(k:Nat):aJ (l.take k)=0:=by
 obtain⟨lT,hc⟩:=eU h
 unfold aJ
 rw[if_neg (by rw[List.length_take];omega)]
 rw[<-List.take_append_drop k l,kv] at hc
 split at hc
 .assumption
 .exact absurd hc (by assumption)
theorem OP {l:List Pt}(h:aJ l=0)(k:Nat):∃c,eg l=eg (l.take k)++c/\8*(l.length-k)<=c.length/\c.length<=64*(l.length-k):=by
 refine⟨pk (placeOf 0 0 0 (l.take k)).1 (placeOf 0 0 0 (l.take k)).2.1 (placeOf 0 0 0 (l.take k)).2.2 (l.drop k),?_,?_,?_⟩
 .unfold eg
  rw[if_pos h,if_pos (m6 h k),<-xO,List.take_append_drop]
 .have:=rD (placeOf 0 0 0 (l.take k)).1 (placeOf 0 0 0 (l.take k)).2.1 (placeOf 0 0 0 (l.take k)).2.2 (l.drop k)
  rw[List.length_drop] at this
  exact this
 .have:=r8 (placeOf 0 0 0 (l.take k)).1 (placeOf 0 0 0 (l.take k)).2.1 (placeOf 0 0 0 (l.take k)).2.2 (l.drop k)
  rw[List.length_drop] at this
  exact this
def steady (t st v:Int):Nat->List Pt
 |0=>[]
 |m+1=>(t,v)::steady (t+st) st v m
end Go.Proofs.YtoonnbhoiocoeaaGreatDoor
namespace Go.Proofs.YtoonnbhoiocoeaaGreatDoor
open Go.RowKit
theorem AN:(Tryz.prog.info? 56).map (fun i=>(i.zero,i.size,i.bytes))=some (some (.agg #[.int .i64 0,.int .i64 0]),2,16):=by kernel_rfl
def km (h:Nat)(ao:Option Addr)(X:List Bool):Prop:=X.length=0\/Off h ao
theorem km.kin {h B:Nat}{ao a':Option Addr}{X Y:List Bool}(hc:km h ao X)(hk:iD B ao a')(hh:h<B)(hl:Y.length<=X.length):km h a' Y:=by
 rcases hc with hc|hc
 .exact .inl (by omega)
 .exact .inr (hc.kin hk hh)
theorem Sl.clear {w w':World}{ao:Option Addr}{cap h:Nat}{X:List Bool}(s:Sl w ao cap (X.map Value.bool))(hg:w.grownBy w' (some h))(hc:km h ao X):Sl w' ao cap (X.map Value.bool):=by
 rcases hc with hc|hc
 .obtain rfl:=List.eq_nil_of_length_eq_zero hc
  exact⟨.inl rfl,s.le,s.max,s.nil⟩
 .exact s.off hg hc
theorem Sl.clearNew {w:World}{ao:Option Addr}{cap h:Nat}{X:List Bool}(s:Sl w ao cap (X.map Value.bool))(hg:w.heap.size<=h):km h ao X:=by
 by_cases hX:X=[]
 .exact .inl (by rw[hX];rfl)
 .exact .inr (s.offNew hg (by simpa using hX))
theorem zN (b:List Bool):(cU b).2.2.1.length<=b.length:=by
 unfold cU
 split
 .simp
 split
 .simp
 .exact Nat.le_trans (oU _) (oU _)
def f6 (O:List Pt)(R:List Pt × Int):List Pt × Int:=(if R.2=0 then O++R.1 else [],R.2)
theorem Li {X:List Bool}(O:List Pt)(m:Nat)(t v s last:Int)(h:¬(cU X).2.2.2=0):f6 O (fl (m+1) t v s last X)=([],(cU X).2.2.2):=by
 unfold cU at h⊢
 rw[fl]
 by_cases h1:fB X≠0
 .rw[if_pos h1] at h⊢
  rw[if_pos h1]
  simp only[f6]
  rw[if_neg h1]
 .rw[if_neg h1] at h⊢
  rw[if_neg h1]
  by_cases h2:fB (cz X)≠0
  .rw[if_pos h2] at h⊢
   rw[if_pos h2]
   simp only[f6]
   rw[if_neg h2]
  .rw[if_neg h2] at h
   exact absurd rfl h
theorem J0 {X:List Bool}(m:Nat)(t v s last:Int)(h:(cU X).2.2.2=0):
  ((-4000000<=(cU X).1/\(cU X).1<=4000000)/\(-4000000<=(cU X).2.1/\(cU X).2.1<=4000000))/\
  fl (m+1) t v s last X=if fv (t+(s+(cU X).1),v+(cU X).2.1)=false then([],3) else if t+(s+(cU X).1)<=last then([],7) else
   (if(fl m (t+(s+(cU X).1)) (v+(cU X).2.1) (s+(cU X).1) (t+(s+(cU X).1)) (cU X).2.2.1).2=0 then(t+(s+(cU X).1),v+(cU X).2.1)::(fl m (t+(s+(cU X).1)) (v+(cU X).2.1) (s+(cU X).1) (t+(s+(cU X).1)) (cU X).2.2.1).1 else [],
    (fl m (t+(s+(cU X).1)) (v+(cU X).2.1) (s+(cU X).1) (t+(s+(cU X).1)) (cU X).2.2.1).2):=by
 rw[fl]
 unfold cU at h⊢
 by_cases h1:fB X≠0
 .rw[if_pos h1] at h
  exact absurd h h1
 .rw[if_neg h1] at h⊢
  rw[if_neg h1]
  by_cases h2:fB (cz X)≠0
  .rw[if_pos h2] at h
   exact absurd h h2
  .rw[if_neg h2] at h⊢
   rw[if_neg h2]
   exact⟨⟨nr (by simpa using h1),nr (by simpa using h2)⟩,rfl⟩
theorem xQ (O:List Pt)(p:Pt)(R:List Pt × Int):f6 O (if R.2=0 then p::R.1 else [],R.2)=f6 (O++[p]) R:=by
 unfold f6
 simp only
 by_cases h:R.2=0
 .rw[if_pos h,if_pos h,if_pos h];simp
 .rw[if_neg h,if_neg h]
def rz (last:Int)(p:Pt):Int:=if fv p=false then 3 else if p.1<=last then 7 else 0
theorem ND (O:List Pt)(p:Pt)(last:Int)(R:List Pt × Int)(h:¬rz last p=0):f6 O (if fv p=false then([],3) else if p.1<=last then([],7) else R)=([],rz last p):=by
 unfold rz at h⊢
 by_cases h1:fv p=false
 .rw[if_pos h1,if_pos h1];rfl
 rw[if_neg h1] at h
 rw[if_neg h1,if_neg h1]
 by_cases h2:p.1<=last
 .rw[if_pos h2,if_pos h2];rfl
 .rw[if_neg h2] at h;exact absurd rfl h
theorem AA {p:Pt}{last:Int}(h:rz last p=0):fv p=true/\¬p.1<=last:=by
 unfold rz at h
 by_cases h1:fv p=false
 .rw[if_pos h1] at h;cases h
 rw[if_neg h1] at h
 by_cases h2:p.1<=last
 .rw[if_pos h2] at h;cases h
 .exact⟨by simpa using h1,h2⟩
theorem CB {O:List Pt}(p:Pt)(hO:O.length<40)(hc:fs (-1) O=0):aJ (O++[p])=rz (lastT (-1) O) p:=by
 unfold aJ
 rw[if_neg (by rw[List.length_append];simp;omega),kv,if_pos hc]
 rfl
theorem JZ {O:List Pt}{p:Pt}(hc:fs (-1) O=0)(h:rz (lastT (-1) O) p=0):fs (-1) (O++[p])=0:=by
 obtain⟨h1,h2⟩:=AA h
 rw[kv,if_pos hc,fs,if_neg (by rw[h1];decide),if_neg h2]
 rfl
theorem IL {w w':World}{base:Nat}{e:TypeId}{size n g:Nat}{u:Value}{xs:List Value}(h:w.ownsRow base e size u n xs)(hg:w.grownBy w' (some g))(hb:g<base):w'.ownsRow base e size u n xs:=
 h.kept hg (by
  cases hu:u.ownBlock with
  |none=>exact .inl rfl
  |some k=>exact .inr (fun e=>by have:=(h.lt k hu).1;have:=Option.some.inj e;omega))
theorem Sl.clearOwn {w w':World}{ao:Option Addr}{cap:Nat}{X:List Bool}{v:Value}(s:Sl w ao cap (X.map Value.bool))(hg:w.grownBy w' v.ownBlock)(hc:∀h,v.ownBlock=some h->km h ao X):Sl w' ao cap (X.map Value.bool):=by
 cases hu:v.ownBlock with
 |none=>
  rw[hu] at hg
  exact s.call ⟨hg.os,hg.tape,hg.output,hg.size,fun k hk=>hg.block k hk (by simp)⟩
 |some h=>
  rw[hu] at hg
  exact s.clear hg (hc h hu)
theorem zZ (n:Nat)(t v s last:Int)(b:List Bool)(h:¬(fl n t v s last b).2=0):(fl n t v s last b).1=[]:=by
 cases n with
 |zero=>rfl
 |succ n=>
  rw[fl] at h⊢
  by_cases h1:fB b≠0
  .rw[if_pos h1]
  rw[if_neg h1] at h⊢
  by_cases h2:fB (cz b)≠0
  .rw[if_pos h2]
  rw[if_neg h2] at h⊢
  by_cases h3:fv (t+(s+ck b),v+ck (cz b))=false
  .rw[if_pos h3]
  rw[if_neg h3] at h⊢
  by_cases h4:t+(s+ck b)<=last
  .rw[if_pos h4]
  rw[if_neg h4] at h⊢
  exact if_neg h
theorem Hh (ao:Option Addr)(cap:Nat)(b:List Bool)(N:Nat)(w:World)(hr:Sl w ao cap (b.map Value.bool))(hl:b.length<=140737488355328)(hN:N<=40):
  Calls Tryz.prog 141 #[.slice ao b.length cap,.int .i64 N] w fun e w'=>
   ∃a' G,e=.returned (.tuple #[.slice a' (fl N 0 0 0 (-1) b).1.length G,.int .i64 (fl N 0 0 0 (-1) b).2])/\aI w' a' G (fl N 0 0 0 (-1) b).1/\Below w.heap.size w w':=by
 obtain⟨D,hD⟩:∃D,D=fl N 0 0 0 (-1) b:=⟨_,rfl⟩
 rw[<-hD]
 have HD:Hid (D=f6 [] (fl (N-0) 0 0 0 (-1) b)):=by
  refine hide ?_
  rw[Nat.sub_zero,<-hD]
  unfold f6
  by_cases h:D.2=0
  .rw[if_pos h];rfl
  .rw[if_neg h]
   have:D.1=[]:=by rw[hD] at h⊢;exact zZ _ _ _ _ _ _ h
   exact Prod.ext this rfl
 clear hD
 have MU:(N:Int)<=40:=by omega
 obtain⟨i0,hi,bU,bi,bk⟩:=info_parts AN
 obtain⟨g,hg⟩:∃g,g=w.heap.size:=⟨_,rfl⟩
 have Ll:w.heap.size<=g:=by omega
 go_enter Tryz.func141,Tryz.ntmps141
 go_wp2_with (at_make;refine wpList_make_own _ rfl (.const (.int .i64 0)) (.tmp 19) 42 rfl (w.heap.size+1) 56 i0 (.agg #[.int .i64 0,.int .i64 0]) 2 Tryz.underlying42 hi bU bi _ _ _ N rfl rfl rfl (by rw[bk];omega) (by unfold maxLen;omega) (by simp) ?_)
 intro w3 own jw
 have ay:Below w.heap.size w w3:=((Below.refl _ _).alloc (Nat.le_refl _) _).grown jw (by simp) (fun k h=>by cases h)
 have B3:ac w3 g (spot 0 0 0) 218:=(ac.laid w (spot 0 0 0) 218 g hg).grown jw (fun k h=>by cases h)
 have S3:=hr.keep ay (Nat.le_refl _)
 have C3:km g ao b:=hr.clearNew Ll
 have D3:∀h,(Value.slice (some ⟨w.heap.size+1,0,none⟩) 0 N).ownBlock=some h->km h ao b:=by
  intro h hh
  cases hh
  exact hr.clearNew (Nat.le_succ _)
 clear jw
 go_wp2_with fail
 rw[<-hg] at own D3⊢
 clear hg
 generalize Value.slice (some ⟨g+1,0,none⟩) 0 N=v0 at*
 go_loopw [0,7,22] (fun bs o i wr=>∃(k G:Nat) (t v s:Int) (a':Option Addr) (X:List Bool) (O:List Pt),k<=N/\i=.int .i64 k/\bs=.slice a' X.length G/\(0<=t/\t<=100000)/\(-1000000<=v/\v<=1000000)/\(-100000<=s/\s<=100000)/\X.length<=b.length/\Hid (O.length=k/\fs (-1) O=0)/\Hid (D=f6 O (fl (N-k) t v s (lastT (-1) O) X))/\ac wr g (spot t v s) 218/\wr.ownsRow (g+1) 56 2 o k (am O)/\Sl wr a' G (X.map Value.bool)/\km g a' X/\(∀h,o.ownBlock=some h->km h a' X)/\Below w.heap.size w wr) (fun _ _ i _=>N-(intOf i).toNat)
 case atStart=>exact⟨0,cap,0,0,0,ao,b,[],by omega,rfl,rfl,by omega,by omega,by omega,Nat.le_refl _,hide ⟨rfl,rfl⟩,HD,B3,own,S3,C3,D3,ay⟩
 case round=>
  clear HD B3 own S3 C3 D3 ay w3
  obtain⟨k,G,t,v,s,a',X,O,hk,rfl,rfl,ht,hv,hs,hX,HO,HD,B,own,S,cg,co,bel⟩:=hrel
  by_cases az:k<N
  .have eP:=HD.out
   clear HD
   rw[show N-k=(N-(k+1))+1 by omega] at eP
   have TB:=fun W h=>yS a' G X W h (by omega)
   have aw:=zN X
   by_cases hF:(cU X).2.2.2=0
   .obtain⟨⟨hx,hy⟩,fe⟩:=J0 (N-(k+1)) t v s (lastT (-1) O) hF
    rw[fe] at eP
    rw[hF] at TB
    clear fe hF
    generalize(cU X).1=x at*
    generalize(cU X).2.1=y at*
    generalize(cU X).2.2.1=Y at*
    have BY:=fun W h=>OM g t v s x y W h ht hv hs hx hy
    have CH:∀a c W,aI W a c (O++[(t+(s+x),v+y)])->Calls Tryz.prog 175 #[.slice a (k+1) c] W fun e w'=>e=.returned (.int .i64 (rz (lastT (-1) O) (t+(s+x),v+y)))/\Below W.heap.size W w':=by
     intro a c W h
     have h2:=mN a c _ W h
     rw[CB _ (by rw[HO.out.1];omega) HO.out.2,List.length_append,HO.out.1] at h2
     exact h2
    by_cases hE:rz (lastT (-1) O) (t+(s+x),v+y)=0
    .obtain⟨hp,Mj⟩:=AA hE
     have yR:=oT hp
     rw[if_neg (by rw[hp];decide),if_neg Mj,xQ] at eP
     rw[hE] at CH
     have HE:=hide (JZ HO.out.2 hE)
     have MP:Hid (D=f6 (O++[(t+(s+x),v+y)]) (fl (N-(k+1)) (t+(s+x)) (v+y) (s+x) (lastT (-1) (O++[(t+(s+x),v+y)])) Y)):=by
      refine hide ?_
      rw[np]
      exact eP
     have Rr:Hid ((O++[(t+(s+x),v+y)]).length=k+1):=by
      refine hide ?_
      rw[List.length_append,HO.out.1]
      rfl
     clear eP hp Mj hE
     go_wp2_with fail
     go_at_call 176
     refine(TB _ S).mono ?_
     rintro e w4 ⟨a4,G4,rfl,S4,b4,k4⟩
     have B4:=B.keep b4 B.lt
     have jI:=dt own b4
     have aC:=aa bel b4
     have UC:km g a4 Y:=cg.kin k4 B.lt aw
     have Uy:∀h,u7.ownBlock=some h->km h a4 Y:=fun h hh=>(co h hh).kin k4 (own.lt h hh).2 aw
     clear k4
     go_wp2_with fail
     go_at_call 177
     refine(BY _ B4).mono ?_
     rintro e w5 ⟨rfl,B5,g5⟩
     have dF:=IL jI g5 (Nat.lt_succ_self _)
     have bE:Below w.heap.size w w5:=aC.grown g5 aC.size (fun j hj=>by cases hj;exact Ll)
     have S5:=S4.clear g5 UC
     clear g5
     go_wp2_with (at_builtin;refine aW _ rfl (.tmp 34) (.tmp 38) 42 rfl (g+1) 56 i0 _ 2 16 Tryz.underlying42 hi bU bi bk rfl (by decide) _ k _ rfl dF 1 _ _ rfl rfl (by simp[Value.oneCell']) (by decide) (by unfold maxLen;omega) (by omega) B5.lt ?_)
     intro v6 w6 ft du uS
     have jo:w6.ownsRow (g+1) 56 2 v6 (k+1) (am (O++[(t+(s+x),v+y)])):=by rw[cq];exact ft
     have dy:=aH bE dF du (by omega) bE.size
     have B6:=B5.grown du (fun j hj=>by have:=(dF.lt j hj).1;omega)
     have S6:=S5.clearOwn du Uy
     have Zz:∀h,v6.ownBlock=some h->km h a4 Y:=by
      intro h hh
      rcases uS with e|e
      .exact Uy h (e▸hh)
      .exact S5.clearNew (e h hh)
     obtain⟨a6,c6,rfl,ML,-,-⟩:=aI.ofOwn jo
     clear ft du uS
     generalize O++[(t+(s+x),v+y)]=O' at*
     go_wp2_with fail
     go_at_call 175
     refine(CH _ _ _ ML).mono ?_
     rintro e w7 ⟨rfl,b7⟩
     go_wp2_with fail
     go_roundw
     case rel=>exact⟨k+1,G4,t+(s+x),v+y,s+x,a4,Y,O',by omega,by go_num,rfl,⟨yR.1,yR.2.1⟩,yR.2.2,by omega,by omega,hide ⟨Rr.out,HE.out⟩,MP,B6.keep b7 B6.lt,dt jo b7,S6.call b7,UC,Zz,aa dy b7⟩
     case measure=>simp[intOf];omega
    .rw[ND _ _ _ _ hE] at eP
     generalize rz (lastT (-1) O) (t+(s+x),v+y)=E at*
     subst eP
     go_wp2_with fail
     go_at_call 176
     refine(TB _ S).mono ?_
     rintro e w4 ⟨a4,G4,rfl,S4,b4,k4⟩
     have B4:=B.keep b4 B.lt
     have jI:=dt own b4
     have aC:=aa bel b4
     clear S4 k4
     go_wp2_with fail
     go_at_call 177
     refine(BY _ B4).mono ?_
     rintro e w5 ⟨rfl,B5,g5⟩
     have dF:=IL jI g5 (Nat.lt_succ_self _)
     have bE:Below w.heap.size w w5:=aC.grown g5 aC.size (fun j hj=>by cases hj;exact Ll)
     clear g5
     go_wp2_with (at_builtin;refine aW _ rfl (.tmp 34) (.tmp 38) 42 rfl (g+1) 56 i0 _ 2 16 Tryz.underlying42 hi bU bi bk rfl (by decide) _ k _ rfl dF 1 _ _ rfl rfl (by simp[Value.oneCell']) (by decide) (by unfold maxLen;omega) (by omega) B5.lt ?_)
     intro v6 w6 ft du uS
     have jo:w6.ownsRow (g+1) 56 2 v6 (k+1) (am (O++[(t+(s+x),v+y)])):=by rw[cq];exact ft
     obtain⟨a6,c6,rfl,ML,-,-⟩:=aI.ofOwn jo
     have dy:=aH bE dF du (by omega) bE.size
     clear ft jo du uS
     go_wp2_with fail
     go_at_call 175
     refine(CH _ _ _ ML).mono ?_
     rintro e w7 ⟨rfl,b7⟩
     go_wp2_with fail
     go_ret2
     exact⟨none,0,rfl,aI.ofNil _,aa dy b7⟩
   .rw[Li _ _ _ _ _ _ hF] at eP
    generalize(cU X).1=x at*
    generalize(cU X).2.1=y at*
    generalize(cU X).2.2.1=Y at*
    generalize(cU X).2.2.2=F at*
    subst eP
    go_wp2_with fail
    go_at_call 176
    refine(TB _ S).mono ?_
    rintro e w4 ⟨a4,G4,rfl,S4,b4,k4⟩
    go_wp2_with fail
    go_ret2
    exact⟨none,0,rfl,aI.ofNil _,aa bel b4⟩
  .obtain rfl:k=N:=by omega
   have eP:=HD.out
   rw[Nat.sub_self,fl] at eP
   by_cases hz:X.length=0
   .rw[if_pos hz,f6,if_pos rfl,List.append_nil] at eP
    obtain⟨a6,c6,rfl,ML,hl6,-⟩:=aI.ofOwn own
    have vE:(X.length:Int)=0:=by omega
    subst eP
    go_wp2_with fail
    go_ret2
    exact⟨a6,c6,rfl,ML,bel⟩
   .rw[if_neg hz,f6,if_neg (by decide)] at eP
    subst eP
    have vE:(0:Int)<(X.length:Int):=by omega
    go_wp2_with fail
    go_ret2
    exact⟨none,0,rfl,aI.ofNil _,bel⟩
theorem GZ (ao:Option Addr)(len cap:Nat)(n:Int)(w:World)(h:oQ n=false):
  Calls Tryz.prog 141 #[.slice ao len cap,.int .i64 n] w fun e w'=>e=.returned (.tuple #[.slice none 0 0,.int .i64 2])/\w=w':=by
 have hn:=(of_decide_eq_false h:¬(0<=n/\n<=40))
 clear h
 by_cases h0:n<0
 .go_enter Tryz.func141,Tryz.ntmps141
  go_wp2_with fail
  go_ret2
  exact⟨rfl,rfl⟩
 .have h1:40<n:=by omega
  have h2:¬n<0:=h0
  go_enter Tryz.func141,Tryz.ntmps141
  go_wp2_with fail
  go_ret2
  exact⟨rfl,rfl⟩
theorem qb (ao:Option Addr)(cap:Nat)(b:List Bool)(n:Int)(w:World)(hr:Sl w ao cap (b.map Value.bool))(hl:b.length<=140737488355328):
  Calls Tryz.prog 141 #[.slice ao b.length cap,.int .i64 n] w fun e w'=>
   ∃a' G,e=.returned (.tuple #[.slice a' (dJ b n).length G,.int .i64 (fO b n)])/\aI w' a' G (dJ b n)/\Below w.heap.size w w':=by
 cases h:oQ n with
 |true=>
  have hn:=(of_decide_eq_true h:0<=n/\n<=40)
  obtain⟨N,rfl⟩:=Int.eq_ofNat_of_zero_le hn.1
  have e1:dJ b N=(fl N 0 0 0 (-1) b).1:=by rw[dJ,if_pos h];rfl
  have e2:fO b N=(fl N 0 0 0 (-1) b).2:=by rw[fO,if_pos h];rfl
  rw[e1,e2]
  exact Hh ao cap b N w hr hl (by omega)
 |false=>
  have e1:dJ b n=[]:=by rw[dJ,h];rfl
  have e2:fO b n=2:=by rw[fO,h];rfl
  rw[e1,e2]
  refine(GZ ao b.length cap n w h).mono ?_
  rintro e w' ⟨rfl,rfl⟩
  exact⟨none,0,rfl,aI.ofNil _,Below.refl _ _⟩
theorem vu:∀(n:Nat) (t v s last:Int) (b:List Bool),(fl n t v s last b).1.length<=n
 |0,_,_,_,_,_=>Nat.le_refl _
 |n+1,t,v,s,last,b=>by
  rw[fl]
  have h:=vu n (t+(s+ck b)) (v+ck (cz b)) (s+ck b) (t+(s+ck b)) (cz (cz b))
  by_cases h1:fB b≠0
  .rw[if_pos h1];exact Nat.zero_le _
  rw[if_neg h1]
  by_cases h2:fB (cz b)≠0
  .rw[if_pos h2];exact Nat.zero_le _
  rw[if_neg h2]
  by_cases h3:fv (t+(s+ck b),v+ck (cz b))=false
  .rw[if_pos h3];exact Nat.zero_le _
  rw[if_neg h3]
  by_cases h4:t+(s+ck b)<=last
  .rw[if_pos h4];exact Nat.zero_le _
  rw[if_neg h4]
  simp only
  split
  .simp only[List.length_cons];omega
  .exact Nat.zero_le _
theorem pr (b:List Bool)(n:Int):(dJ b n).length<=40:=by
 unfold dJ
 cases h:oQ n with
 |true=>
  have hn:=(of_decide_eq_true h:0<=n/\n<=40)
  rw[if_pos rfl]
  have:=vu n.toNat 0 0 0 (-1) b
  omega
 |false=>exact Nat.zero_le _
end Go.Proofs.YtoonnbhoiocoeaaGreatDoor
namespace Go.Proofs.YtoonnbhoiocoeaaGreatDoor
open Go.RowKit
theorem dG (w:World)(a b:Obj):Below w.heap.size w ((w.alloc a).alloc b):=
 ((Below.refl _ _).alloc (Nat.le_refl _) _).alloc (by simp) _
theorem pC (w:World)(a b c:Obj):Below w.heap.size w (((w.alloc a).alloc b).alloc c):=
 (dG w a b).alloc (by simp;omega) _
theorem ac.alc {w:World}{g:Nat}{cs:List Value}{t:TypeId}(h:ac w g cs t)(o:Obj):ac (w.alloc o) g cs t:=
 h.keep ((Below.refl w.heap.size w).alloc (Nat.le_refl _) o) h.lt
theorem ac.other {w:World}{g g':Nat}{cs:List Value}{t:TypeId}(h:ac w g cs t)(i:Nat)(u:Value)(aF:g'≠g):ac (w.setCell ⟨g',i,none⟩ u) g cs t:=
 (heap_setCell_other w _ g u (fun e=>aF e.symm)).trans h
theorem ac.drewS {w:World}{g:Nat}{cs:List Value}{t:TypeId}(h:ac w g cs t):ac w.drew g cs t:=h
end Go.Proofs.YtoonnbhoiocoeaaGreatDoor
