/-
  Package zig: what fold, unfold, Put and Take return; nothing that was there is written.
-/
import Derived.ArgAppend
import Derived.Lib.MinMax
import Derived.Test.YtoonnbhoiocoeaaGreatDoorQ02
set_option maxHeartbeats 40000000
set_option maxRecDepth 100000
set_option linter.unusedVariables false
namespace Go.Proofs.YtoonnbhoiocoeaaGreatDoor
open Go.RowKit
theorem LC (v:Int)(w:World)(h:iK v=true):
  Calls Tryz.prog 238 #[.int .i64 v] w fun e w'=>e=.returned (.int .i64 (bj v))/\w=w':=by
 have hv:=(of_decide_eq_true h:-4000000<=v/\v<=4000000)
 have h1:=hv.1
 have h2:=hv.2
 clear hv h
 by_cases hn:v<0
 .go_enter Tryz.func238,Tryz.ntmps238
  go_wp2_with fail
  go_ret
  refine⟨ju ?_,rfl⟩
  unfold bj
  rw[if_pos hn];omega
 go_enter Tryz.func238,Tryz.ntmps238
 go_wp2_with fail
 go_ret
 refine⟨ju ?_,rfl⟩
 unfold bj
 rw[if_neg (by omega)];omega
theorem E6 (n:Nat)(w:World)(h:n<=8000000):
  Calls Tryz.prog 233 #[.int .i64 n] w fun e w'=>e=.returned (.int .i64 (fw n))/\w=w':=by
 by_cases hn:n % 2=1
 .go_enter Tryz.func233,Tryz.ntmps233
  go_wp2_with fail
  go_ret
  refine⟨ju ?_,rfl⟩
  unfold fw
  rw[if_pos hn,Int.tdiv_eq_ediv_of_nonneg (by omega)]
  unfold wrap64;omega
 go_enter Tryz.func233,Tryz.ntmps233
 go_wp2_with fail
 go_ret
 refine⟨ju ?_,rfl⟩
 unfold fw
 rw[if_neg hn]
theorem N9 (d:Nat)(h:d<8):Ao (d:Int) (4:Nat)=true:=by
 unfold Ao
 apply decide_eq_true
 rw[Int.toNat_natCast];omega
theorem Km (d:Nat)(h:d<8):Ao ((d:Int)+8) (4:Nat)=true:=by
 unfold Ao
 apply decide_eq_true
 rw[Int.toNat_natCast];omega
theorem FO (ao:Option Addr)(cap:Nat)(l:List Bool)(v:Int)(w:World)(hr:Sl w ao cap (l.map Value.bool))(hl:l.length<=140737488355160)(h:iK v=true):
  Calls Tryz.prog 234 #[.slice ao l.length cap,.int .i64 v] w fun e w'=>
   ∃a' G,e=.returned (.tuple #[.slice a' (l++code 8 (bj v)).length G,.int .i64 0])/\Sl w' a' G ((l++code 8 (bj v)).map Value.bool)/\Below w.heap.size w w'/\iH w.heap.size ao a':=by
 have hv:=(of_decide_eq_true h:-4000000<=v/\v<=4000000)
 have h1:=hv.1
 have h2:=hv.2
 have Cg:=vw v h
 have N2:=fun w=>LC v w h
 clear hv h
 generalize bj v=N at*
 go_enter Tryz.func234,Tryz.ntmps234
 go_wp2_with (go_at_call 238;refine(N2 _).mono ?_;rintro e w' ⟨rfl,rfl⟩)
 clear h1 h2 N2
 go_loopw [0,6,17] (fun s n i wr=>∃(j m G:Nat) (a':Option Addr) (X:List Bool),j<=8/\m<=8000000/\X.length=l.length+4*j/\s=.slice a' X.length G/\n=.int .i64 m/\i=.int .i64 j/\X++code (8-j) m=l++code 8 N/\Sl wr a' G (X.map Value.bool)/\Below w.heap.size w wr/\iH w.heap.size ao a') (fun _ _ i _=>8-(intOf i).toNat)
 case atStart=>exact⟨0,N,cap,ao,l,by omega,Cg,by omega,rfl,rfl,rfl,rfl,hr,Below.refl _ _,iH.refl _ _⟩
 case round=>
  obtain⟨j,m,G,a',X,hj,hm,hX,rfl,rfl,rfl,jj,hs,bel,kin⟩:=hrel
  by_cases aE:j<8
  .have hf:8-j=(8-(j+1))+1:=by omega
   have FV:(j:Int)<8:=by omega
   rw[hf,code] at jj
   have hd:m % 8<8:=Nat.mod_lt _ (by decide)
   by_cases hz:m / 8=0
   .rw[if_pos hz,decide_eq_false (show¬0<m / 8 by omega),List.append_nil] at jj
    have g1:¬(0:Int)<(m:Int) / 8:=by omega
    have g2:(m:Int) / 8=0:=by omega
    have hP:∀W:World,Sl W a' G (X.map Value.bool)->Calls Tryz.prog 239 #[.slice a' X.length G,.int .i64 ((m:Int) % 8),.int .i64 4] W fun e w'=>∃a' G,e=.returned (.tuple #[.slice a' (l++code 8 N).length G,.int .i64 0])/\Sl w' a' G ((l++code 8 N).map Value.bool)/\Below W.heap.size W w'/\iH W.heap.size none a':=by
     intro W hW
     rw[show(m:Int) % 8=((m % 8:Nat):Int) by omega]
     refine(JO a' G X _ 4 W hW.row (by decide) (N9 _ hd) (by omega)).mono ?_
     rintro e w' ⟨rfl,hB,oC⟩
     rw[OL _ hd,jj] at hB
     have ij:=Sl.ofBlk hB (by rw[List.length_map,<-jj,List.length_append,fW];omega)
     rw[List.length_map] at ij
     have hlen:X.length+4=(l++code 8 N).length:=by rw[<-jj,List.length_append,fW]
     rw[hlen]
     exact⟨_,_,rfl,ij,oC,iH.new _ _ _⟩
    clear jj hf hr hd hz hX
    go_wp2_with (go_at_call 239;refine(hP _ hs).mono ?_;rintro e w1 ⟨a1,G1,rfl,dZ,aY,ue⟩)
    go_ret2
    exact⟨_,_,by simp,dZ,ac bel aY,ue.fresh bel.size⟩
   rw[if_neg hz,decide_eq_true (show 0<m / 8 by omega),<-List.append_assoc] at jj
   have g1:(0:Int)<(m:Int) / 8:=by omega
   have g2:¬(m:Int) / 8=0:=by omega
   have hP:∀W:World,Sl W a' G (X.map Value.bool)->Calls Tryz.prog 239 #[.slice a' X.length G,.int .i64 ((m:Int) % 8+8),.int .i64 4] W fun e w'=>∃a' G,e=.returned (.tuple #[.slice a' (X++me true (m % 8)).length G,.int .i64 0])/\Sl w' a' G ((X++me true (m % 8)).map Value.bool)/\Below W.heap.size W w'/\iH W.heap.size none a':=by
    intro W hW
    rw[show(m:Int) % 8=((m % 8:Nat):Int) by omega]
    refine(JO a' G X _ 4 W hW.row (by decide) (Km _ hd) (by omega)).mono ?_
    rintro e w' ⟨rfl,hB,oC⟩
    rw[Lq _ hd] at hB
    have ij:=Sl.ofBlk hB (by rw[List.length_map,List.length_append,fW];omega)
    rw[List.length_map] at ij
    have hlen:X.length+4=(X++me true (m % 8)).length:=by rw[List.length_append,fW]
    rw[hlen]
    exact⟨_,_,rfl,ij,oC,iH.new _ _ _⟩
   have HC:Hid (X++me true (m % 8)++code (8-(j+1)) (m / 8)=l++code 8 N):=jj
   have HX:Hid ((X++me true (m % 8)).length=l.length+4*(j+1)):=by
    show _=_
    rw[List.length_append,fW];omega
   clear jj hf hr hd hX
   generalize X++me true (m % 8)=Y at*
   go_wp2_with (go_at_call 239;refine(hP _ hs).mono ?_;rintro e w1 ⟨a1,G1,rfl,dZ,aY,ue⟩)
   go_roundw
   case rel=>exact⟨j+1,m / 8,G1,a1,Y,by omega,by omega,HX.out,rfl,by go_num,by go_num,HC.out,dZ,ac bel aY,ue.fresh bel.size⟩
   case measure=>simp[intOf];omega
  obtain rfl:j=8:=by omega
  rw[Nat.sub_self,code,List.append_nil] at jj
  subst jj
  go_wp2_with fail
  go_ret2
  exact⟨_,_,rfl,hs,bel,kin⟩
theorem x5 (ao:Option Addr)(cap:Nat)(l:List Bool)(w:World)(hr:Sl w ao cap (l.map Value.bool))(hl:l.length<=140737488355328):
  Calls Tryz.prog 207 #[.slice ao l.length cap] w fun e w'=>
   ∃a' G,e=.returned (.tuple #[.int .i64 (ci l),.slice a' (cx l).length G,.int .i64 (fs l)])/\Sl w' a' G ((cx l).map Value.bool)/\Below w.heap.size w w'/\iH w.heap.size ao a':=by
 unfold ci cx fs
 obtain⟨D,hD⟩:∃D,D=decode 8 0 0 l:=⟨_,rfl⟩
 rw[<-hD]
 go_enter Tryz.func207,Tryz.ntmps207
 go_wp2_with fail
 go_loopw [0,5,10] (fun s n i wr=>∃(j m G:Nat) (a':Option Addr) (X:List Bool),j<=8/\m<=8000000/\X.length<=l.length/\s=.slice a' X.length G/\n=.int .i64 m/\i=.int .i64 j/\D=decode (8-j) j m X/\Sl wr a' G (X.map Value.bool)/\Below w.heap.size w wr/\iH w.heap.size ao a') (fun _ _ i _=>8-(intOf i).toNat)
 case atStart=>exact⟨0,0,cap,ao,l,by omega,by omega,by omega,rfl,rfl,rfl,hD,hr,Below.refl _ _,iH.refl _ _⟩
 case round=>
  obtain⟨j,m,G,a',X,hj,hm,hX,rfl,rfl,rfl,ko,hs,bel,kin⟩:=hrel
  clear hr hD
  by_cases aE:j<8
  .have FV:(j:Int)<8:=by omega
   rw[show 8-j=(8-(j+1))+1 by omega,decode] at ko
   by_cases h4:X.length<4
   .rw[if_pos h4] at ko
    subst ko
    have GV:(X.length:Int)<4:=by omega
    go_wp2_with (go_at_call 232;refine(HJ _ _ _ _ _ (by decide) GV).mono ?_;rintro e w1 ⟨rfl,rfl⟩)
    go_ret3
    exact⟨none,0,rfl,Sl.ofNil _,bel,iH.nil _ _⟩
   rw[if_neg h4] at ko
   have hT:∀W:World,Sl W a' G (X.map Value.bool)->Calls Tryz.prog 232 #[.slice a' X.length G,.int .i64 4] W fun e w'=>∃a' G,e=.returned (.tuple #[.int .i64 (numOf (X.take 4)),.slice a' (X.drop 4).length G,.int .i64 0])/\Sl w' a' G ((X.drop 4).map Value.bool)/\Below W.heap.size W w'/\iH W.heap.size none a':=by
    intro W hW
    have fE:=hW.le
    rw[List.length_map] at fE
    refine(Nl a' G X 4 W hW.row (by decide) (by omega) (by omega) fE hW.max).mono ?_
    rintro e w' ⟨rfl,hB,oC⟩
    have ij:=Sl.ofBlk hB (by rw[List.length_map,List.length_drop];omega)
    rw[List.length_map,List.length_drop] at ij
    rw[List.length_drop]
    exact⟨_,_,rfl,ij,oC,iH.new _ _ _⟩
   have aaR:numOf (X.take 4)<16:=qB X 4
   have Zp:(X.drop 4).length<=l.length:=by rw[List.length_drop];omega
   generalize numOf (X.take 4)=g at*
   generalize X.drop 4=Y at*
   have HD:=aa ko
   clear ko h4
   by_cases h0:0<j/\g=0
   .obtain⟨pf,rfl⟩:=h0
    have EL:(0:Int)<(j:Int):=by omega
    have eI:=HD.out
    rw[if_pos ⟨pf,rfl⟩] at eI
    subst eI
    clear HD
    go_wp2_with (go_at_call 232;refine(hT _ hs).mono ?_;rintro e w1 ⟨a1,G1,rfl,dZ,aY,ue⟩)
    go_ret3
    exact⟨none,0,rfl,Sl.ofNil _,ac bel aY,iH.nil _ _⟩
   have eI:=HD.out
   rw[if_neg h0] at eI
   clear HD
   have tM:(decide ((0:Int)<(j:Int))&&((g:Int)==0))=false:=by
    rw[Bool.eq_false_iff];simp;omega
   have W8:(8:Nat) ^ j<=8 ^ 7:=Nat.pow_le_pow_right (by decide) (by omega)
   have Rl:g % 8*8 ^ j<=7*8 ^ 7:=Nat.mul_le_mul (by omega) W8
   have Cw:wrap64 ((g:Int) % 8*2 ^ (j*3))=((g % 8*8 ^ j:Nat):Int):=by
    have Y9:(2:Int) ^ (j*3)=((8 ^ j:Nat):Int):=by
     rw[Nat.mul_comm,Int.pow_mul]
     simp
    rw[Y9,show(g:Int) % 8=((g % 8:Nat):Int) by omega,<-Int.natCast_mul]
    unfold wrap64;omega
   generalize g % 8*8 ^ j=p at*
   clear W8
   by_cases yB:8000000<m+p
   .rw[if_pos yB] at eI
    subst eI
    have Dj:(8000000:Int)<(m:Int)+(p:Int):=by omega
    go_wp2_with (go_at_call 232;refine(hT _ hs).mono ?_;rintro e w1 ⟨a1,G1,rfl,dZ,aY,ue⟩)
    all_goals go_ret3
    all_goals exact⟨none,0,rfl,Sl.ofNil _,ac bel aY,iH.nil _ _⟩
   rw[if_neg yB] at eI
   have Dj:¬(8000000:Int)<(m:Int)+(p:Int):=by omega
   by_cases SU:g<8
   .rw[if_pos SU] at eI
    subst eI
    have Vo:(g:Int)<8:=by omega
    go_wp2_with (first| (go_at_call 232;refine(hT _ hs).mono ?_;rintro e w1 ⟨a1,G1,rfl,dZ,aY,ue⟩)| (go_at_call 233;rw[show(m:Int)+(p:Int)=((m+p:Nat):Int) from rfl];refine(E6 (m+p) _ (by omega)).mono ?_;rintro e w2 ⟨rfl,rfl⟩))
    all_goals go_ret3
    all_goals exact⟨a1,G1,rfl,dZ,ac bel aY,ue.fresh bel.size⟩
   rw[if_neg SU] at eI
   have HD:=aa eI
   have Vo:¬(g:Int)<8:=by omega
   clear eI
   go_wp2_with (go_at_call 232;refine(hT _ hs).mono ?_;rintro e w1 ⟨a1,G1,rfl,dZ,aY,ue⟩)
   all_goals go_roundw
   all_goals first
    |exact⟨j+1,m+p,G1,a1,Y,by omega,by omega,Zp,rfl,by go_num,by go_num,HD.out,dZ,ac bel aY,ue.fresh bel.size⟩
    | (simp[intOf];omega)
  obtain rfl:j=8:=by omega
  rw[Nat.sub_self,decode] at ko
  subst ko
  go_wp2_with fail
  go_ret3
  exact⟨none,0,rfl,Sl.ofNil _,bel,iH.nil _ _⟩
def Apart (u v:Value):Prop:=∀g,u.ownBlock=some g->v.ownBlock≠some g
def Rb (w:World)(v v':Value):Prop:=v'.ownBlock=v.ownBlock\/∀g,v'.ownBlock=some g->w.heap.size<=g
theorem ed {P:Program}(w:World){ops:Array Oper}{rest:List Oper}{o:Oper}{a:Act}{Q:Exit->Act->World->Prop}(vt:o.guard=none)(s x:Operand)(t:TypeId)
  (ho:o.op=.call {callee:=.builtin .append,args:=#[s,x],argTypes:=#[t,t]})
  (base:Nat) (e:TypeId) (i:TypeInfo) (z:Value) (size bytes:Nat) (ht:P.underlying t=some (.slice e)) (hi:P.info? e=some i) (hz:i.zero=some z)
  (xZ:i.size=size) (Pg:i.bytes=bytes) (J3:z.cells.size=size) (dW:0<size)
  (v:Value) (n:Nat) (xs:List Value) (hs:a.eval s=v) (lf:w.ownsRow base e size v n xs)
  (ad:Addr) (m c:Nat) (news:List Value) (hx:a.eval x=.slice (some ad) m c) (hl:news.length=m*size) (mb:∀j u,news[j]? =some u->w.cell? (ad.add j)=some u) (h1:∀u∈news,u.oneCell'=true)
  (hm:0<m) (IH:n+m<=maxLen) (qX:(n+m)*bytes<=140737488355328) (oZ:base<=w.heap.size)
  (h:∀v' w',w'.ownsRow base e size v' (n+m) (xs++news)->w.grownBy w' v.ownBlock->Rb w v v'->wpList P ops Q rest (a.put o.dst v') w'):wpList P ops Q (o::rest) a w:=by
 have WY:=lf.1
 have up:∀(v':Value) (w':World),w'.ownsRow w.heap.size e size v' (n+m) (xs++news)->w'.ownsRow base e size v' (n+m) (xs++news)/\∀g,v'.ownBlock=some g->w.heap.size<=g:=by
  intro v' w' yU
  refine⟨⟨yU.1,?_⟩,fun g hg=>(yU.lt g hg).1⟩
  rcases yU.2 with h0| ⟨g,cap,cur,q1,q2,q3⟩
  .exact .inl h0
  exact .inr ⟨g,cap,cur,q1,by omega,q3⟩
 have gr:∀(w':World),w.grownBy w' none->∀row,w.grownBy w' row:=fun w' hg row=>⟨hg.os,hg.tape,hg.output,hg.size,fun k hk _=>hg.block k hk (by simp)⟩
 rcases lf.2 with⟨rfl,rfl⟩| ⟨g,cap,cur,rfl,So,hh,LT,tj,jd,sJ⟩
 .refine wpList_append_grows w vt s x t ho e i z size bytes ht hi hz xZ Pg J3 dW none 0 0 xs hs (fun _=>⟨rfl,rfl⟩) WY (fun b hb=>by cases hb) ad m c news hx hl mb h1 (by omega) IH qX ?_
  intro v' w' yU rK
  obtain⟨p1,p2⟩:=up v' w' yU
  exact h v' w' p1 (gr w' rK _) (.inr p2)
 by_cases hr:n+m<=cap
 .refine wpList_append_fits w vt s x t ho base e i size ht hi xZ g n cap xs hs lf ad m c news hx hl mb h1 hr ?_
  intro w' yU rK
  exact h _ w' yU rK (.inl rfl)
 refine wpList_append_grows w vt s x t ho e i z size bytes ht hi hz xZ Pg J3 dW (some ⟨g,0,none⟩) n cap xs hs (fun h=>by cases h) WY ?_ ad m c news hx hl mb h1 (by omega) IH qX ?_
 .intro b hb j u hu
  obtain rfl:=Option.some.inj hb
  exact lf.cells (g:=g) rfl j u hu
 intro v' w' yU rK
 obtain⟨p1,p2⟩:=up v' w' yU
 exact h v' w' p1 (gr w' rK _) (.inr p2)
theorem rj {w w':World}{base:Nat}{e:TypeId}{size n:Nat}{u v:Value}{xs:List Value}(h:w.ownsRow base e size u n xs)(hg:w.grownBy w' v.ownBlock)(ha:Apart u v):w'.ownsRow base e size u n xs:=by
 refine h.kept hg ?_
 cases hu:u.ownBlock with
 |none=>exact .inl rfl
 |some g=>exact .inr (fun e=>ha g hu e.symm)
theorem dx {w w':World}{base:Nat}{e:TypeId}{size n:Nat}{u:Value}{xs:List Value}(h:w.ownsRow base e size u n xs)(hb:Below w.heap.size w w'):w'.ownsRow base e size u n xs:=
 h.kept (row:=none) ⟨hb.os,hb.tape,hb.output,hb.size,fun k hk _=>hb.block k hk⟩ (by
  cases hu:u.ownBlock with
  |none=>exact .inl rfl
  |some g=>exact .inr (by simp))
theorem pd {w:World}{base:Nat}{e:TypeId}{n:Nat}{v:Value}{xs:List Value}(h:w.ownsRow base e 1 v n xs):∃ao cap,v=.slice ao n cap/\Sl w ao cap xs/\xs.length=n:=by
 rcases h.2 with⟨rfl,rfl⟩| ⟨g,cap,cur,rfl,So,hh,LT,tj,jd,sJ⟩
 .have hx:xs=[]:=List.eq_nil_of_length_eq_zero (by simpa using h.1)
  subst hx
  exact⟨none,0,rfl,Sl.ofNil w,rfl⟩
 have:=Gc h
 exact⟨_,_,rfl,this.1,this.2⟩
theorem ag.grown {w w':World}{g:Nat}{cs:List Value}{t:TypeId}{row:Option Nat}(h:ag w g cs t)(hg:w.grownBy w' row)(aF:∀k,row=some k->k≠g):ag w' g cs t:=
 (hg.block g h.lt (fun e=>aF g e.symm rfl)).trans h
theorem ag.alloc {w:World}{g:Nat}{cs:List Value}{t:TypeId}(h:ag w g cs t)(o:Obj):ag (w.alloc o) g cs t:=
 h.keep ((Below.refl w.heap.size w).alloc (Nat.le_refl _) o) h.lt
theorem bE {P:Program}(w0:World){ops:Array Oper}{rest:List Oper}{o:Oper}{a:Act}{Q:Exit->Act->World->Prop}(vt:o.guard=none)(s x:Operand)(t:TypeId)
  (ho:o.op=.call {callee:=.builtin .append,args:=#[s,x],argTypes:=#[t,t]})
  (base:Nat) (e:TypeId) (i:TypeInfo) (z:Value) (size bytes:Nat) (ht:P.underlying t=some (.slice e)) (hi:P.info? e=some i) (hz:i.zero=some z)
  (xZ:i.size=size) (Pg:i.bytes=bytes) (J3:z.cells.size=size) (dW:0<size)
  (v:Value) (n:Nat) (xs:List Value) (hs:a.eval s=v) (lf:w0.ownsRow base e size v n xs)
  (m:Nat) (news:Array Value) (te:TypeId) (hx:a.eval x=.slice (some ⟨w0.heap.size,0,none⟩) m m) (hl:news.size=m*size) (h1:∀u∈news.toList,u.oneCell'=true)
  (hm:0<m) (IH:n+m<=maxLen) (qX:(n+m)*bytes<=140737488355328) (oZ:base<=w0.heap.size)
  (h:∀v' w',w'.ownsRow base e size v' (n+m) (xs++news.toList)->w0.grownBy w' v.ownBlock->Rb w0 v v'->wpList P ops Q rest (a.put o.dst v') w'):wpList P ops Q (o::rest) a (w0.alloc (.cells news te)):=by
 have mb:∀j u,news.toList[j]? =some u->(w0.alloc (.cells news te)).cell? ((⟨w0.heap.size,0,none⟩:Addr).add j)=some u:=by
  intro j u hu
  rw[Addr.add_lit,Nat.zero_add,World.cell?_alloc_at (hn:=rfl)]
  simpa using hu
 refine ed (w0.alloc (.cells news te)) vt s x t ho base e i z size bytes ht hi hz xZ Pg J3 dW v n xs hs (lf.alloc _) ⟨w0.heap.size,0,none⟩ m m news.toList hx (by simpa using hl) mb h1 hm IH qX (by simp;omega) ?_
 intro v' w' yU hg hw
 have oC:=(Below.refl w0.heap.size w0).alloc (Nat.le_refl _) (Obj.cells news te)
 refine h v' w' yU ⟨hg.os.trans oC.os,hg.tape.trans oC.tape,hg.output.trans oC.output,Nat.le_trans oC.size hg.size,fun k hk aF=>?_⟩ ?_
 .rw[hg.block k (by simp;omega) aF]
  exact oC.block k hk
 rcases hw with hw|hw
 .exact .inl hw
 exact .inr (fun g rK=>by have:=hw g rK;simp at this;omega)
theorem aG {B base:Nat}{w w0 w':World}{e:TypeId}{size n:Nat}{v:Value}{xs:List Value}(h:Below B w w0)(lf:w0.ownsRow base e size v n xs)(hg:w0.grownBy w' v.ownBlock)(hB:B<=base)(hb:B<=w0.heap.size):Below B w w':=
 h.grown hg hb (fun k hk=>Nat.le_trans hB (lf.lt k hk).1)
theorem au (w:World)(row:Option Nat):w.grownBy w row:=⟨rfl,rfl,rfl,Nat.le_refl _,fun _ _ _=>rfl⟩
theorem sq {a w:World}{row:Option Nat}(h:a.grownBy w row):a.grownBy w.drew row:=⟨h.os,h.tape,h.output,h.size,h.block⟩
theorem wi {a w:World}{row:Option Nat}(h:a.grownBy w row)(o:Obj):a.grownBy (w.alloc o) row:=by
 have b:=(Below.refl w.heap.size w).alloc (Nat.le_refl _) o
 exact⟨b.os.trans h.os,b.tape.trans h.tape,b.output.trans h.output,Nat.le_trans h.size b.size,fun k hk aF=>(b.block k (Nat.lt_of_lt_of_le hk h.size)).trans (h.block k hk aF)⟩
theorem al {a w:World}{g:Nat}(h:a.grownBy w (some g))(i:Nat)(u:Value):a.grownBy (w.setCell ⟨g,i,none⟩ u) (some g):=by
 have b:Below 0 w (w.setCell ⟨g,i,none⟩ u):=(Below.refl 0 w).setCell (Nat.zero_le _) u
 exact⟨b.os.trans h.os,b.tape.trans h.tape,b.output.trans h.output,Nat.le_trans h.size b.size,fun k hk aF=>(heap_setCell_other w _ k u (fun e=>aF (by rw[e]))).trans (h.block k hk aF)⟩
def spot (t v s:Int):List Value:=[.int .i64 t,.int .i64 v,.int .i64 s]
theorem ag.drew {w:World}{g:Nat}{cs:List Value}{t:TypeId}(h:ag w g cs t):ag w.drew g cs t:=h
theorem PW (g:Nat)(t v s x y:Int)(w:World)(hB:ag w g (spot t v s) 218)(ht:0<=t/\t<=100000)(hv:-1000000<=v/\v<=1000000)(hs:0<=s/\s<=100000)(hx:0<=x/\x<=100000)(hy:-1000000<=y/\y<=1000000):
  Calls Tryz.prog 214 #[.pointer (some ⟨g,0,none⟩),.agg #[.int .i64 x,.int .i64 y]] w fun e w'=>
   e=.returned (.tuple #[.int .i64 (x-t-s),.int .i64 (y-v)])/\ag w' g (spot x y (x-t)) 218/\w.grownBy w' (some g):=by
 obtain⟨zR,Uq⟩:=ht
 obtain⟨Dt,Ce⟩:=hv
 obtain⟨jq,dZ⟩:=hs
 obtain⟨pS,Lt⟩:=hx
 obtain⟨PX,Lk⟩:=hy
 have aE:=hB.lt
 have c0:w.cell? ⟨g,0,none⟩=some (.int .i64 t):=hB.cell 0
 have c1:w.cell? ⟨g,1,none⟩=some (.int .i64 v):=hB.cell 1
 have c2:w.cell? ⟨g,2,none⟩=some (.int .i64 s):=hB.cell 2
 obtain⟨f0,f1,f2⟩:=hB.f3
 go_enter Tryz.func214,Tryz.ntmps214
 go_wp2_with fail
 go_region
 all_goals go_wp2_with fail
 all_goals go_region
 all_goals go_wp2_with fail
 all_goals go_ret2
 exact⟨rfl,((((hB.set 0 _).set 1 _).set 2 _).alloc _).drew.drew,sq (sq (wi (al (al (al (au _ _) 0 _) 1 _) 2 _) _))⟩
theorem P5 (g:Nat)(t v s x y:Int)(w:World)(hB:ag w g (spot t v s) 218)(ht:0<=t/\t<=100000)(hv:-1000000<=v/\v<=1000000)(hs:-100000<=s/\s<=100000)(hx:-4000000<=x/\x<=4000000)(hy:-4000000<=y/\y<=4000000):
  Calls Tryz.prog 177 #[.pointer (some ⟨g,0,none⟩),.int .i64 x,.int .i64 y] w fun e w'=>
   e=.returned (.agg #[.int .i64 (t+(s+x)),.int .i64 (v+y)])/\ag w' g (spot (t+(s+x)) (v+y) (s+x)) 218/\w.grownBy w' (some g):=by
 obtain⟨zR,Uq⟩:=ht
 obtain⟨Dt,Ce⟩:=hv
 obtain⟨jq,dZ⟩:=hs
 obtain⟨pS,Lt⟩:=hx
 obtain⟨PX,Lk⟩:=hy
 have aE:=hB.lt
 have c0:w.cell? ⟨g,0,none⟩=some (.int .i64 t):=hB.cell 0
 have c1:w.cell? ⟨g,1,none⟩=some (.int .i64 v):=hB.cell 1
 have c2:w.cell? ⟨g,2,none⟩=some (.int .i64 s):=hB.cell 2
 obtain⟨f0,f1,f2⟩:=hB.f3
 go_enter Tryz.func177,Tryz.ntmps177
 go_wp2_with fail
 go_region
 all_goals go_wp2_with fail
 exact bodyPost_ret (v:=.agg #[.int .i64 (t+(s+x)),.int .i64 (v+y)]) (by simp[results,Tryz.results177,go_sem]) rfl ⟨rfl,((((hB.set 2 _).set 0 _).set 1 _).alloc _).drew,sq (wi (al (al (al (au _ _) 2 _) 0 _) 1 _) _)⟩
theorem nP {fn:Func}{t u v x:Tmp}(h:fn.results=#[.tmp t,.tmp u,.tmp v,.tmp x])(tmps:Array Value)(P:Program)(w:World):
  (results fn tmps).run P w=.ok (.tuple #[tmps.getD t undef,tmps.getD u undef,tmps.getD v undef,tmps.getD x undef]) w:=by
 simp[results,h]
theorem Fe (ao:Option Addr)(cap:Nat)(l:List Bool)(x y:Int)(w:World)(hr:Sl w ao cap (l.map Value.bool))(hl:l.length<=100000)(h1:iK x=true)(h2:iK y=true):
  Calls Tryz.prog 215 #[.slice ao l.length cap,.int .i64 x,.int .i64 y] w fun e w'=>
   ∃a' G,e=.returned (.tuple #[.slice a' (l++(code 8 (bj x)++code 8 (bj y))).length G,.int .i64 0])/\Sl w' a' G ((l++(code 8 (bj x)++code 8 (bj y))).map Value.bool)/\Below w.heap.size w w'/\iH w.heap.size ao a':=by
 have p1:=fun W h=>FO ao cap l x W h (by omega) h1
 have hlen:(l++code 8 (bj x)).length<=100032:=by have:=fT 8 (bj x);rw[List.length_append];omega
 rw[<-List.append_assoc]
 generalize l++code 8 (bj x)=X at*
 have p2:=fun a G W h=>FO a G X y W h (by omega) h2
 generalize X++code 8 (bj y)=Y at*
 go_enter Tryz.func215,Tryz.ntmps215
 go_wp2_with fail
 go_at_call 234
 refine(p1 _ hr).mono ?_
 rintro e w1 ⟨a1,G1,rfl,s1,b1,k1⟩
 go_wp2_with fail
 go_at_call 234
 refine(p2 _ _ _ s1).mono ?_
 rintro e w2 ⟨a2,G2,rfl,s2,b2,k2⟩
 go_wp2_with fail
 go_ret2
 exact⟨_,_,rfl,s2,ac b1 b2,k1.trans k2 b1.size⟩
def de (b:List Bool):Int × Int × List Bool × Int:=
 if fs b≠0 then(0,0,[],fs b) else if fs (cx b)≠0 then(0,0,[],fs (cx b)) else(ci b,ci (cx b),cx (cx b),0)
theorem AB (ao:Option Addr)(cap:Nat)(b:List Bool)(w:World)(hr:Sl w ao cap (b.map Value.bool))(hl:b.length<=140737488355328):
  Calls Tryz.prog 176 #[.slice ao b.length cap] w fun e w'=>
   ∃a' G,e=.returned (.tuple #[.int .i64 (de b).1,.int .i64 (de b).2.1,.slice a' (de b).2.2.1.length G,.int .i64 (de b).2.2.2])/\Sl w' a' G ((de b).2.2.1.map Value.bool)/\Below w.heap.size w w'/\iH w.heap.size ao a':=by
 have p1:=x5 ao cap b w hr hl
 have hlen:=oU b
 have p2:=fun a G W h=>x5 a G (cx b) W h (by omega)
 unfold de
 by_cases h1:fs b=0
 .rw[if_neg (fun h=>h h1)]
  rw[h1] at p1
  by_cases h2:fs (cx b)=0
  .rw[if_neg (fun h=>h h2)]
   rw[h2] at p2
   clear h1 h2 hlen
   generalize ci b=n1 at*
   generalize cx b=B1 at*
   generalize ci B1=n2 at*
   generalize cx B1=B2 at*
   go_enter Tryz.func176,Tryz.ntmps176
   go_wp2_with fail
   go_at_call 207
   refine p1.mono ?_
   rintro e w1 ⟨a1,G1,rfl,s1,b1,k1⟩
   go_wp2_with fail
   go_at_call 207
   refine(p2 _ _ _ s1).mono ?_
   rintro e w2 ⟨a2,G2,rfl,s2,b2,k2⟩
   go_wp2_with fail
   refine bodyPost_ret (nP rfl _ _ _) rfl ?_
   exact⟨_,_,rfl,s2,ac b1 b2,k1.trans k2 b1.size⟩
  rw[if_pos h2]
  clear h1 hlen
  generalize ci b=n1 at*
  generalize cx b=B1 at*
  generalize ci B1=n2 at*
  generalize cx B1=B2 at*
  generalize fs B1=F2 at*
  go_enter Tryz.func176,Tryz.ntmps176
  go_wp2_with fail
  go_at_call 207
  refine p1.mono ?_
  rintro e w1 ⟨a1,G1,rfl,s1,b1,k1⟩
  go_wp2_with fail
  go_at_call 207
  refine(p2 _ _ _ s1).mono ?_
  rintro e w2 ⟨a2,G2,rfl,s2,b2,k2⟩
  go_wp2_with fail
  refine bodyPost_ret (nP rfl _ _ _) rfl ?_
  exact⟨none,0,rfl,Sl.ofNil _,ac b1 b2,iH.nil _ _⟩
 rw[if_pos h1]
 clear p2 hlen
 generalize ci b=n1 at*
 generalize cx b=B1 at*
 generalize fs b=F1 at*
 go_enter Tryz.func176,Tryz.ntmps176
 go_wp2_with fail
 go_at_call 207
 refine p1.mono ?_
 rintro e w1 ⟨a1,G1,rfl,s1,b1,k1⟩
 go_wp2_with fail
 refine bodyPost_ret (nP rfl _ _ _) rfl ?_
 exact⟨none,0,rfl,Sl.ofNil _,b1,iH.nil _ _⟩
theorem eN {l:List Pt}(h:aH l=0):l.length<=40/\fp (-1) l=0:=by
 unfold aH at h
 split at h
 .cases h
 exact⟨by omega,h⟩
theorem NA (ao:Option Addr)(cap:Nat)(l:List Pt)(w:World)(hr:aV w ao cap l)(h:aH l=0):
  Calls Tryz.prog 183 #[.slice ao l.length cap] w fun e w'=>
   ∃a' G,e=.returned (.tuple #[.slice a' (pk 0 0 0 l).length G,.int .i64 0])/\Sl w' a' G ((pk 0 0 0 l).map Value.bool)/\Below w.heap.size w w':=by
 have hc:=mU ao cap l w hr
 rw[h] at hc
 obtain⟨mw,Ex⟩:=eN h
 obtain⟨P,hP⟩:∃P,P=pk 0 0 0 l:=⟨_,rfl⟩
 rw[<-hP]
 obtain⟨n,hn⟩:∃n,n=l.length:=⟨_,rfl⟩
 rw[<-hn] at mw hc⊢
 have HL:=aa hn
 have HP:Hid (P=[]++pk 0 0 0 (l.drop 0)):=by rw[List.drop_zero];exact hP
 have HC:Hid (fp (-1) (l.drop 0)=0):=by rw[List.drop_zero];exact Ex
 clear hn hP Ex h
 go_enter Tryz.func183,Tryz.ntmps183
 go_wp2_with fail
 go_at_call 175
 refine hc.mono ?_
 rintro e w1 ⟨rfl,b1⟩
 clear hc
 obtain⟨g,hg⟩:∃g,g=w1.heap.size:=⟨_,rfl⟩
 have MJ:w.heap.size<=g:=by rw[hg];exact b1.size
 go_wp2_with fail
 rw[<-hg]
 have B0:=ag.laid w1 (spot 0 0 0) 218 g hg
 have cq:Below w.heap.size w (w1.alloc (.cells (spot 0 0 0).toArray 218)):=b1.alloc b1.size _
 unfold spot at B0 cq
 generalize w1.alloc _=w2 at*
 clear b1 hg
 go_loopw [5,19] (fun o i wr=>∃(k G:Nat) (t v s last:Int) (a':Option Addr) (O:List Bool),k<=n/\i=.int .i64 k/\o=.slice a' O.length G/\(0<=t/\t<=100000)/\t<=last+1/\(-1000000<=v/\v<=1000000)/\(0<=s/\s<=100000)/\O.length<=64*k/\Hid (P=O++pk t v s (l.drop k))/\Hid (fp last (l.drop k)=0)/\ag wr g (spot t v s) 218/\Sl wr a' G (O.map Value.bool)/\Off g a'/\Below w.heap.size w wr) (fun _ i _=>n-(intOf i).toNat)
 case atStart=>exact⟨0,0,0,0,0,-1,none,[],by omega,rfl,rfl,by omega,by omega,by omega,by omega,by simp,HP,HC,B0,Sl.ofNil _,Off.nil _,cq⟩
 case round=>
  clear HP HC B0 cq
  obtain⟨k,G,t,v,s,last,a',O,hk,rfl,rfl,ht,hl,hv,hs,hO,HP,HC,B,S,off,bel⟩:=hrel
  by_cases aE:k<n
  .have dZ:=hr.keep bel (Nat.le_refl _)
   obtain⟨b,o,rfl,ld⟩:=dZ.where (by intro h;rw[HL.out,h] at aE;simp at aE)
   obtain⟨x,y,e0,e1,hx,hd⟩:=dZ.pt k (by rw[<-HL.out];exact aE)
   have mX:=HP.out
   have DY:=HC.out
   rw[hd] at mX DY
   obtain⟨z1,z2,ui,Da,rP⟩:=rx DY ht hl hv hs
   obtain⟨_,_,MC⟩:=jQ DY
   have Mi:=aa MC
   rw[pk,<-List.append_assoc] at mX
   simp only at mX z1 z2 ui Da rP
   have TO:=fun W hB=>PW g t v s x y W hB ht hv hs ui Da
   have PB:=fun W h=>Fe a' G O (x-t-s) (y-v) W h (by omega) z1 z2
   have hO':(O++(code 8 (bj (x-t-s))++code 8 (bj (y-v)))).length<=64*(k+1):=by
    have h1:=fT 8 (bj (x-t-s))
    have h2:=fT 8 (bj (y-v))
    rw[List.length_append,List.length_append];omega
   have Ms:=aa mX
   clear HP HC mX DY MC hd hx z1 z2
   generalize O++(code 8 (bj (x-t-s))++code 8 (bj (y-v)))=O' at*
   go_wp2_with fail
   go_at_call 214
   refine(TO _ (B.alloc _)).mono ?_
   rintro e w3 ⟨rfl,B3,g3⟩
   have aC:Below w.heap.size w w3:=(bel.alloc bel.size _).grown g3 (by simp;exact Nat.le_succ_of_le bel.size) (fun j hj=>by cases hj;exact MJ)
   have S3:=(S.alloc _).off g3 off
   clear g3
   go_wp2_with fail
   go_at_call 215
   refine(PB _ S3).mono ?_
   rintro e w4 ⟨a4,G4,rfl,S4,b4,k4⟩
   go_wp2_with fail
   go_roundw
   case rel=>exact⟨k+1,G4,x,y,x-t,x,a4,O',by omega,by go_num,rfl,ui,by omega,Da,rP,hO',Ms,Mi,B3.keep b4 B3.lt,S4,off.kin k4 B3.lt,ac aC b4⟩
   case measure=>simp[intOf];omega
  obtain rfl:k=n:=by omega
  have mX:=HP.out
  rw[HL.out,List.drop_length,pk,List.append_nil] at mX
  subst mX
  go_wp2_with fail
  go_ret2
  exact⟨_,_,rfl,S,bel⟩
theorem MD (ao:Option Addr)(cap:Nat)(l:List Pt)(w:World)(hr:aV w ao cap l)(h:¬aH l=0):
  Calls Tryz.prog 183 #[.slice ao l.length cap] w fun e w'=>e=.returned (.tuple #[.slice none 0 0,.int .i64 (aH l)])/\Below w.heap.size w w':=by
 have hc:=mU ao cap l w hr
 generalize aH l=E at*
 go_enter Tryz.func183,Tryz.ntmps183
 go_wp2_with fail
 go_at_call 175
 refine hc.mono ?_
 rintro e w1 ⟨rfl,b1⟩
 go_wp2_with fail
 go_ret2
 exact⟨rfl,b1⟩
theorem A' (ao:Option Addr)(cap:Nat)(l:List Pt)(w:World)(hr:aV w ao cap l):
  Calls Tryz.prog 183 #[.slice ao l.length cap] w fun e w'=>
   ∃a' G,e=.returned (.tuple #[.slice a' (ep l).length G,.int .i64 (aH l)])/\Sl w' a' G ((ep l).map Value.bool)/\Below w.heap.size w w':=by
 by_cases h:aH l=0
 .have e:ep l=pk 0 0 0 l:=if_pos h
  rw[e,h]
  exact NA ao cap l w hr h
 have e:ep l=[]:=if_neg h
 rw[e]
 refine(MD ao cap l w hr h).mono ?_
 rintro e w' ⟨rfl,b⟩
 exact⟨none,0,rfl,Sl.ofNil _,b⟩
theorem Ah (l:List Pt):(ep l).length<=2560:=by
 unfold ep
 split
 .rename_i h
  have:=sO 0 0 0 l
  have:=(eN h).1
  omega
 simp
theorem JW {v:Int}(r:List Bool)(h:iK v=true):ci (code 8 (bj v)++r)=v/\cx (code 8 (bj v)++r)=r/\fs (code 8 (bj v)++r)=0:=by
 unfold ci cx fs
 rw[GW v r h]
 exact⟨rfl,rfl,rfl⟩
theorem Qo (n:Nat){t v s last:Int}{p:Pt}{r:List Pt}(h:fp last (p::r)=0)(ht:0<=t/\t<=100000)(hl:t<=last+1)(hv:-1000000<=v/\v<=1000000)(hs:0<=s/\s<=100000):
  fm (n+1) t v s last (pk t v s (p::r))=(if(fm n p.1 p.2 (p.1-t) p.1 (pk p.1 p.2 (p.1-t) r)).2=0 then p::(fm n p.1 p.2 (p.1-t) p.1 (pk p.1 p.2 (p.1-t) r)).1 else [],(fm n p.1 p.2 (p.1-t) p.1 (pk p.1 p.2 (p.1-t) r)).2):=by
 obtain⟨z1,z2,_,_,_⟩:=rx h ht hl hv hs
 obtain⟨h1,h2,_⟩:=jQ h
 rw[fm,pk,List.append_assoc]
 obtain⟨a1,a2,a3⟩:=JW (code 8 (bj (p.2-v))++pk p.1 p.2 (p.1-t) r) z1
 obtain⟨b1,b2,b3⟩:=JW (pk p.1 p.2 (p.1-t) r) z2
 rw[a3,if_neg (fun h=>h rfl),a2,b3,if_neg (fun h=>h rfl),a1,b1,b2]
 have e1:t+(s+(p.1-t-s))=p.1:=by omega
 have e2:v+(p.2-v)=p.2:=by omega
 have e3:s+(p.1-t-s)=p.1-t:=by omega
 rw[e1,e2,e3,if_neg (by rw[show(p.1,p.2)=p from rfl,h1];decide),if_neg (by omega)]
theorem Ea:∀(r:List Pt) (t v s last:Int),fp last r=0->(0<=t/\t<=100000)->t<=last+1->(-1000000<=v/\v<=1000000)->(0<=s/\s<=100000)->fm r.length t v s last (pk t v s r)=(r,0)
 | [],t,v,s,last,_,_,_,_,_=>by simp[fm,pk]
 |p::r,t,v,s,last,h,ht,hl,hv,hs=>by
  rw[List.length_cons,Qo r.length h ht hl hv hs]
  obtain⟨_,_,hx,hy,hz⟩:=rx h ht hl hv hs
  rw[Ea r p.1 p.2 (p.1-t) p.1 (jQ h).2.2 hx (by omega) hy hz]
  rfl
theorem Bw (n:Nat):4<=(code 8 n).length:=by
 rw[code]
 simp[me]
theorem CW {l:List Pt}(h:aH l=0):dS (ep l) l.length=l/\fL (ep l) l.length=0:=by
 obtain⟨mw,hc⟩:=eN h
 have hi:pi (l.length:Int)=true:=decide_eq_true (by omega)
 have e:ep l=pk 0 0 0 l:=if_pos h
 have:=Ea l 0 0 0 (-1) hc (by omega) (by omega) (by omega) (by omega)
 unfold dS fL
 rw[if_pos hi,if_pos hi,e,Int.toNat_natCast,this]
 exact⟨rfl,rfl⟩
theorem Bp:∀(n:Nat) (t v s last:Int) (b:List Bool),(fm n t v s last b).2=0->(fm n t v s last b).1.length=n/\fp last (fm n t v s last b).1=0/\pk t v s (fm n t v s last b).1=b
 |0,t,v,s,last,b,h=>by
  rw[fm] at h⊢
  by_cases h0:b.length=0
  .obtain rfl:=List.eq_nil_of_length_eq_zero h0
   exact⟨rfl,rfl,rfl⟩
  .simp only at h
   rw[if_neg h0] at h
   cases h
 |n+1,t,v,s,last,b,h=>by
  rw[fm] at h⊢
  by_cases h1:fs b=0
  .rw[if_neg (fun h=>h h1)] at h⊢
   by_cases h2:fs (cx b)=0
   .rw[if_neg (fun h=>h h2)] at h⊢
    by_cases h3:ft (t+(s+ci b),v+ci (cx b))=false
    .rw[if_pos h3] at h;cases h
    rw[if_neg h3] at h⊢
    by_cases h4:t+(s+ci b)<=last
    .rw[if_pos h4] at h;cases h
    rw[if_neg h4] at h⊢
    simp only at h⊢
    obtain⟨i1,i2,i3⟩:=Bp n (t+(s+ci b)) (v+ci (cx b)) (s+ci b) (t+(s+ci b)) (cx (cx b)) h
    rw[if_pos h]
    refine⟨by rw[List.length_cons,i1],?_,?_⟩
    .rw[fp,if_neg h3,if_neg h4];exact i2
    rw[pk]
    simp only
    have e1:t+(s+ci b)-t-s=ci b:=by omega
    have e2:v+ci (cx b)-v=ci (cx b):=by omega
    have e3:t+(s+ci b)-t=s+ci b:=by omega
    rw[e1,e2,e3,i3,List.append_assoc,(ym _ h2).2,(ym _ h1).2]
   rw[if_pos h2] at h;exact absurd h h2
  rw[if_pos h1] at h;exact absurd h h1
theorem unpack_pack {b:List Bool}{n:Int}(h:fL b n=0):aH (dS b n)=0/\ep (dS b n)=b/\((dS b n).length:Int)=n:=by
 unfold fL at h
 unfold dS
 cases hi:pi n with
 |false=>rw[hi] at h;cases h
 |true=>
  have hn:=(of_decide_eq_true hi:0<=n/\n<=40)
  rw[hi,if_pos rfl] at h
  rw[if_pos rfl]
  obtain⟨i1,i2,i3⟩:=Bp n.toNat 0 0 0 (-1) b h
  have hc:aH (fm n.toNat 0 0 0 (-1) b).1=0:=by
   unfold aH
   rw[if_neg (by omega)]
   exact i2
  refine⟨hc,?_,by rw[i1];omega⟩
  unfold ep
  rw[if_pos hc]
  exact i3
def placeOf:Int->Int->Int->List Pt->Int × Int × Int
 |t,v,s,[]=>(t,v,s)
 |t,_,_,p::r=>placeOf p.1 p.2 (p.1-t) r
theorem yE:∀(a c:List Pt) (t v s:Int),pk t v s (a++c)=pk t v s a++pk (placeOf t v s a).1 (placeOf t v s a).2.1 (placeOf t v s a).2.2 c
 | [],c,t,v,s=>rfl
 |p::r,c,t,v,s=>by
  rw[List.cons_append,pk,pk,placeOf,yE r c p.1 p.2 (p.1-t),List.append_assoc,List.append_assoc,List.append_assoc]
theorem rY:∀(t v s:Int) (l:List Pt),8*l.length<=(pk t v s l).length
 |_,_,_,[]=>by simp[pk]
 |t,v,s,p::r=>by
  have h1:=Bw (bj (p.1-t-s))
  have h2:=Bw (bj (p.2-v))
  have h3:=rY p.1 p.2 (p.1-t) r
  simp only[pk,List.length_append,List.length_cons]
  omega
theorem nJ {l:List Pt}(h:aH l=0)(k:Nat):aH (l.take k)=0:=by
 obtain⟨mw,hc⟩:=eN h
 unfold aH
 rw[if_neg (by rw[List.length_take];omega)]
 rw[<-List.take_append_drop k l,k8] at hc
 split at hc
 .assumption
 exact absurd hc (by assumption)
theorem Pk {l:List Pt}(h:aH l=0)(k:Nat):∃c,ep l=ep (l.take k)++c/\8*(l.length-k)<=c.length/\c.length<=64*(l.length-k):=by
 refine⟨pk (placeOf 0 0 0 (l.take k)).1 (placeOf 0 0 0 (l.take k)).2.1 (placeOf 0 0 0 (l.take k)).2.2 (l.drop k),?_,?_,?_⟩
 .unfold ep
  rw[if_pos h,if_pos (nJ h k),<-yE,List.take_append_drop]
 .have:=rY (placeOf 0 0 0 (l.take k)).1 (placeOf 0 0 0 (l.take k)).2.1 (placeOf 0 0 0 (l.take k)).2.2 (l.drop k)
  rw[List.length_drop] at this
  exact this
 have:=sO (placeOf 0 0 0 (l.take k)).1 (placeOf 0 0 0 (l.take k)).2.1 (placeOf 0 0 0 (l.take k)).2.2 (l.drop k)
 rw[List.length_drop] at this
 exact this
def steady (t st v:Int):Nat->List Pt
 |0=>[]
 |m+1=>(t,v)::steady (t+st) st v m
theorem Dc:(Tryz.prog.info? 56).map (fun i=>(i.zero,i.size,i.bytes))=some (some (.agg #[.int .i64 0,.int .i64 0]),2,16):=by kernel_rfl
def kY (h:Nat)(ao:Option Addr)(X:List Bool):Prop:=X.length=0\/Off h ao
theorem kY.kin {h B:Nat}{ao a':Option Addr}{X Y:List Bool}(hc:kY h ao X)(hk:iH B ao a')(hh:h<B)(hl:Y.length<=X.length):kY h a' Y:=by
 rcases hc with hc|hc
 .exact .inl (by omega)
 exact .inr (hc.kin hk hh)
theorem Sl.clear {w w':World}{ao:Option Addr}{cap h:Nat}{X:List Bool}(s:Sl w ao cap (X.map Value.bool))(hg:w.grownBy w' (some h))(hc:kY h ao X):Sl w' ao cap (X.map Value.bool):=by
 rcases hc with hc|hc
 .obtain rfl:=List.eq_nil_of_length_eq_zero hc
  exact⟨.inl rfl,s.le,s.max,s.nil⟩
 exact s.off hg hc
theorem Sl.clearNew {w:World}{ao:Option Addr}{cap h:Nat}{X:List Bool}(s:Sl w ao cap (X.map Value.bool))(hg:w.heap.size<=h):kY h ao X:=by
 by_cases hX:X=[]
 .exact .inl (by rw[hX];rfl)
 exact .inr (s.offNew hg (by simpa using hX))
theorem Ac (b:List Bool):(de b).2.2.1.length<=b.length:=by
 unfold de
 split
 .simp
 split
 .simp
 exact Nat.le_trans (oU _) (oU _)
def fY (O:List Pt)(R:List Pt × Int):List Pt × Int:=(if R.2=0 then O++R.1 else [],R.2)
theorem N4 {X:List Bool}(O:List Pt)(m:Nat)(t v s last:Int)(h:¬(de X).2.2.2=0):fY O (fm (m+1) t v s last X)=([],(de X).2.2.2):=by
 unfold de at h⊢
 rw[fm]
 by_cases h1:fs X≠0
 .rw[if_pos h1] at h⊢
  rw[if_pos h1]
  simp only[fY]
  rw[if_neg h1]
 rw[if_neg h1] at h⊢
 rw[if_neg h1]
 by_cases h2:fs (cx X)≠0
 .rw[if_pos h2] at h⊢
  rw[if_pos h2]
  simp only[fY]
  rw[if_neg h2]
 rw[if_neg h2] at h
 exact absurd rfl h
theorem KS {X:List Bool}(m:Nat)(t v s last:Int)(h:(de X).2.2.2=0):
  ((-4000000<=(de X).1/\(de X).1<=4000000)/\(-4000000<=(de X).2.1/\(de X).2.1<=4000000))/\
  fm (m+1) t v s last X=if ft (t+(s+(de X).1),v+(de X).2.1)=false then([],3) else if t+(s+(de X).1)<=last then([],7) else
   (if(fm m (t+(s+(de X).1)) (v+(de X).2.1) (s+(de X).1) (t+(s+(de X).1)) (de X).2.2.1).2=0 then(t+(s+(de X).1),v+(de X).2.1)::(fm m (t+(s+(de X).1)) (v+(de X).2.1) (s+(de X).1) (t+(s+(de X).1)) (de X).2.2.1).1 else [],
    (fm m (t+(s+(de X).1)) (v+(de X).2.1) (s+(de X).1) (t+(s+(de X).1)) (de X).2.2.1).2):=by
 rw[fm]
 unfold de at h⊢
 by_cases h1:fs X≠0
 .rw[if_pos h1] at h
  exact absurd h h1
 rw[if_neg h1] at h⊢
 rw[if_neg h1]
 by_cases h2:fs (cx X)≠0
 .rw[if_pos h2] at h
  exact absurd h h2
 rw[if_neg h2] at h⊢
 rw[if_neg h2]
 exact⟨⟨nB (by simpa using h1),nB (by simpa using h2)⟩,rfl⟩
theorem xM (O:List Pt)(p:Pt)(R:List Pt × Int):fY O (if R.2=0 then p::R.1 else [],R.2)=fY (O++[p]) R:=by
 unfold fY
 simp only
 by_cases h:R.2=0
 .rw[if_pos h,if_pos h,if_pos h];simp
 rw[if_neg h,if_neg h]
def rV (last:Int)(p:Pt):Int:=if ft p=false then 3 else if p.1<=last then 7 else 0
theorem MK (O:List Pt)(p:Pt)(last:Int)(R:List Pt × Int)(h:¬rV last p=0):fY O (if ft p=false then([],3) else if p.1<=last then([],7) else R)=([],rV last p):=by
 unfold rV at h⊢
 by_cases h1:ft p=false
 .rw[if_pos h1,if_pos h1];rfl
 rw[if_neg h1] at h
 rw[if_neg h1,if_neg h1]
 by_cases h2:p.1<=last
 .rw[if_pos h2,if_pos h2];rfl
 rw[if_neg h2] at h;exact absurd rfl h
theorem AZ {p:Pt}{last:Int}(h:rV last p=0):ft p=true/\¬p.1<=last:=by
 unfold rV at h
 by_cases h1:ft p=false
 .rw[if_pos h1] at h;cases h
 rw[if_neg h1] at h
 by_cases h2:p.1<=last
 .rw[if_pos h2] at h;cases h
 exact⟨by simpa using h1,h2⟩
theorem CA {O:List Pt}(p:Pt)(hO:O.length<40)(hc:fp (-1) O=0):aH (O++[p])=rV (lastT (-1) O) p:=by
 unfold aH
 rw[if_neg (by rw[List.length_append];simp;omega),k8,if_pos hc]
 rfl
theorem LX {O:List Pt}{p:Pt}(hc:fp (-1) O=0)(h:rV (lastT (-1) O) p=0):fp (-1) (O++[p])=0:=by
 obtain⟨h1,h2⟩:=AZ h
 rw[k8,if_pos hc,fp,if_neg (by rw[h1];decide),if_neg h2]
 rfl
theorem JG {w w':World}{base:Nat}{e:TypeId}{size n g:Nat}{u:Value}{xs:List Value}(h:w.ownsRow base e size u n xs)(hg:w.grownBy w' (some g))(hb:g<base):w'.ownsRow base e size u n xs:=
 h.kept hg (by
  cases hu:u.ownBlock with
  |none=>exact .inl rfl
  |some k=>exact .inr (fun e=>by have:=(h.lt k hu).1;have:=Option.some.inj e;omega))
theorem Sl.clearOwn {w w':World}{ao:Option Addr}{cap:Nat}{X:List Bool}{v:Value}(s:Sl w ao cap (X.map Value.bool))(hg:w.grownBy w' v.ownBlock)(hc:∀h,v.ownBlock=some h->kY h ao X):Sl w' ao cap (X.map Value.bool):=by
 cases hu:v.ownBlock with
 |none=>
  rw[hu] at hg
  exact s.call ⟨hg.os,hg.tape,hg.output,hg.size,fun k hk=>hg.block k hk (by simp)⟩
 |some h=>
  rw[hu] at hg
  exact s.clear hg (hc h hu)
theorem Bl (n:Nat)(t v s last:Int)(b:List Bool)(h:¬(fm n t v s last b).2=0):(fm n t v s last b).1=[]:=by
 cases n with
 |zero=>rfl
 |succ n=>
  rw[fm] at h⊢
  by_cases h1:fs b≠0
  .rw[if_pos h1]
  rw[if_neg h1] at h⊢
  by_cases h2:fs (cx b)≠0
  .rw[if_pos h2]
  rw[if_neg h2] at h⊢
  by_cases h3:ft (t+(s+ci b),v+ci (cx b))=false
  .rw[if_pos h3]
  rw[if_neg h3] at h⊢
  by_cases h4:t+(s+ci b)<=last
  .rw[if_pos h4]
  rw[if_neg h4] at h⊢
  exact if_neg h
theorem Gw (ao:Option Addr)(cap:Nat)(b:List Bool)(N:Nat)(w:World)(hr:Sl w ao cap (b.map Value.bool))(hl:b.length<=140737488355328)(hN:N<=40):
  Calls Tryz.prog 141 #[.slice ao b.length cap,.int .i64 N] w fun e w'=>
   ∃a' G,e=.returned (.tuple #[.slice a' (fm N 0 0 0 (-1) b).1.length G,.int .i64 (fm N 0 0 0 (-1) b).2])/\aV w' a' G (fm N 0 0 0 (-1) b).1/\Below w.heap.size w w':=by
 obtain⟨D,hD⟩:∃D,D=fm N 0 0 0 (-1) b:=⟨_,rfl⟩
 rw[<-hD]
 have HD:Hid (D=fY [] (fm (N-0) 0 0 0 (-1) b)):=by
  refine aa ?_
  rw[Nat.sub_zero,<-hD]
  unfold fY
  by_cases h:D.2=0
  .rw[if_pos h];rfl
  rw[if_neg h]
  have:D.1=[]:=by rw[hD] at h⊢;exact Bl _ _ _ _ _ _ h
  exact Prod.ext this rfl
 clear hD
 have Mx:(N:Int)<=40:=by omega
 obtain⟨i0,hi,bK,bm,bQ⟩:=info_parts Dc
 obtain⟨g,hg⟩:∃g,g=w.heap.size:=⟨_,rfl⟩
 have MJ:w.heap.size<=g:=by omega
 go_enter Tryz.func141,Tryz.ntmps141
 go_wp2_with (at_make;refine wpList_make_own _ rfl (.const (.int .i64 0)) (.tmp 19) 42 rfl (w.heap.size+1) 56 i0 (.agg #[.int .i64 0,.int .i64 0]) 2 Tryz.underlying42 hi bK bm _ _ _ N rfl rfl rfl (by rw[bQ];omega) (by unfold maxLen;omega) (by simp) ?_)
 intro w3 own jD
 have aC:Below w.heap.size w w3:=((Below.refl _ _).alloc (Nat.le_refl _) _).grown jD (by simp) (fun k h=>by cases h)
 have B3:ag w3 g (spot 0 0 0) 218:=(ag.laid w (spot 0 0 0) 218 g hg).grown jD (fun k h=>by cases h)
 have S3:=hr.keep aC (Nat.le_refl _)
 have C3:kY g ao b:=hr.clearNew MJ
 have D3:∀h,(Value.slice (some ⟨w.heap.size+1,0,none⟩) 0 N).ownBlock=some h->kY h ao b:=by
  intro h hh
  cases hh
  exact hr.clearNew (Nat.le_succ _)
 clear jD
 go_wp2_with fail
 rw[<-hg] at own D3⊢
 clear hg
 generalize Value.slice (some ⟨g+1,0,none⟩) 0 N=v0 at*
 go_loopw [0,7,22] (fun bs o i wr=>∃(k G:Nat) (t v s:Int) (a':Option Addr) (X:List Bool) (O:List Pt),k<=N/\i=.int .i64 k/\bs=.slice a' X.length G/\(0<=t/\t<=100000)/\(-1000000<=v/\v<=1000000)/\(-100000<=s/\s<=100000)/\X.length<=b.length/\Hid (O.length=k/\fp (-1) O=0)/\Hid (D=fY O (fm (N-k) t v s (lastT (-1) O) X))/\ag wr g (spot t v s) 218/\wr.ownsRow (g+1) 56 2 o k (ar O)/\Sl wr a' G (X.map Value.bool)/\kY g a' X/\(∀h,o.ownBlock=some h->kY h a' X)/\Below w.heap.size w wr) (fun _ _ i _=>N-(intOf i).toNat)
 case atStart=>exact⟨0,cap,0,0,0,ao,b,[],by omega,rfl,rfl,by omega,by omega,by omega,Nat.le_refl _,aa ⟨rfl,rfl⟩,HD,B3,own,S3,C3,D3,aC⟩
 case round=>
  clear HD B3 own S3 C3 D3 aC w3
  obtain⟨k,G,t,v,s,a',X,O,hk,rfl,rfl,ht,hv,hs,hX,HO,HD,B,own,S,cg,co,bel⟩:=hrel
  by_cases aE:k<N
  .have eI:=HD.out
   clear HD
   rw[show N-k=(N-(k+1))+1 by omega] at eI
   have TB:=fun W h=>AB a' G X W h (by omega)
   have hlen:=Ac X
   by_cases hF:(de X).2.2.2=0
   .obtain⟨⟨hx,hy⟩,hstep⟩:=KS (N-(k+1)) t v s (lastT (-1) O) hF
    rw[hstep] at eI
    rw[hF] at TB
    clear hstep hF
    generalize(de X).1=x at*
    generalize(de X).2.1=y at*
    generalize(de X).2.2.1=Y at*
    have BY:=fun W h=>P5 g t v s x y W h ht hv hs hx hy
    have CH:∀a c W,aV W a c (O++[(t+(s+x),v+y)])->Calls Tryz.prog 175 #[.slice a (k+1) c] W fun e w'=>e=.returned (.int .i64 (rV (lastT (-1) O) (t+(s+x),v+y)))/\Below W.heap.size W w':=by
     intro a c W h
     have h2:=mU a c _ W h
     rw[CA _ (by rw[HO.out.1];omega) HO.out.2,List.length_append,HO.out.1] at h2
     exact h2
    by_cases hE:rV (lastT (-1) O) (t+(s+x),v+y)=0
    .obtain⟨hp,Nz⟩:=AZ hE
     have Ag:=pC hp
     rw[if_neg (by rw[hp];decide),if_neg Nz,xM] at eI
     rw[hE] at CH
     have HE:=aa (LX HO.out.2 hE)
     have Mn:Hid (D=fY (O++[(t+(s+x),v+y)]) (fm (N-(k+1)) (t+(s+x)) (v+y) (s+x) (lastT (-1) (O++[(t+(s+x),v+y)])) Y)):=by
      refine aa ?_
      rw[nu]
      exact eI
     have TE:Hid ((O++[(t+(s+x),v+y)]).length=k+1):=by
      refine aa ?_
      rw[List.length_append,HO.out.1]
      rfl
     clear eI hp Nz hE
     go_wp2_with fail
     go_at_call 176
     refine(TB _ S).mono ?_
     rintro e w4 ⟨a4,G4,rfl,S4,b4,k4⟩
     have B4:=B.keep b4 B.lt
     have jR:=dx own b4
     have ay:=ac bel b4
     have Vq:kY g a4 Y:=cg.kin k4 B.lt hlen
     have Vj:∀h,u7.ownBlock=some h->kY h a4 Y:=fun h hh=>(co h hh).kin k4 (own.lt h hh).2 hlen
     clear k4
     go_wp2_with fail
     go_at_call 177
     refine(BY _ B4).mono ?_
     rintro e w5 ⟨rfl,B5,g5⟩
     have dM:=JG jR g5 (Nat.lt_succ_self _)
     have br:Below w.heap.size w w5:=ay.grown g5 ay.size (fun j hj=>by cases hj;exact MJ)
     have S5:=S4.clear g5 Vq
     clear g5
     go_wp2_with (at_builtin;refine bE _ rfl (.tmp 34) (.tmp 38) 42 rfl (g+1) 56 i0 _ 2 16 Tryz.underlying42 hi bK bm bQ rfl (by decide) _ k _ rfl dM 1 _ _ rfl rfl (by simp[Value.oneCell']) (by decide) (by unfold maxLen;omega) (by omega) B5.lt ?_)
     intro v6 w6 d8 dj vf
     have jw:w6.ownsRow (g+1) 56 2 v6 (k+1) (ar (O++[(t+(s+x),v+y)])):=by rw[dF];exact d8
     have dD:=aG br dM dj (by omega) br.size
     have B6:=B5.grown dj (fun j hj=>by have:=(dM.lt j hj).1;omega)
     have S6:=S5.clearOwn dj Vj
     have YH:∀h,v6.ownBlock=some h->kY h a4 Y:=by
      intro h hh
      rcases vf with e|e
      .exact Vj h (e▸hh)
      exact S5.clearNew (e h hh)
     obtain⟨a6,c6,rfl,Oe,-,-⟩:=aV.ofOwn jw
     clear d8 dj vf
     generalize O++[(t+(s+x),v+y)]=O' at*
     go_wp2_with fail
     go_at_call 175
     refine(CH _ _ _ Oe).mono ?_
     rintro e w7 ⟨rfl,b7⟩
     go_wp2_with fail
     go_roundw
     case rel=>exact⟨k+1,G4,t+(s+x),v+y,s+x,a4,Y,O',by omega,by go_num,rfl,⟨Ag.1,Ag.2.1⟩,Ag.2.2,by omega,by omega,aa ⟨TE.out,HE.out⟩,Mn,B6.keep b7 B6.lt,dx jw b7,S6.call b7,Vq,YH,ac dD b7⟩
     case measure=>simp[intOf];omega
    rw[MK _ _ _ _ hE] at eI
    generalize rV (lastT (-1) O) (t+(s+x),v+y)=E at*
    subst eI
    go_wp2_with fail
    go_at_call 176
    refine(TB _ S).mono ?_
    rintro e w4 ⟨a4,G4,rfl,S4,b4,k4⟩
    have B4:=B.keep b4 B.lt
    have jR:=dx own b4
    have ay:=ac bel b4
    clear S4 k4
    go_wp2_with fail
    go_at_call 177
    refine(BY _ B4).mono ?_
    rintro e w5 ⟨rfl,B5,g5⟩
    have dM:=JG jR g5 (Nat.lt_succ_self _)
    have br:Below w.heap.size w w5:=ay.grown g5 ay.size (fun j hj=>by cases hj;exact MJ)
    clear g5
    go_wp2_with (at_builtin;refine bE _ rfl (.tmp 34) (.tmp 38) 42 rfl (g+1) 56 i0 _ 2 16 Tryz.underlying42 hi bK bm bQ rfl (by decide) _ k _ rfl dM 1 _ _ rfl rfl (by simp[Value.oneCell']) (by decide) (by unfold maxLen;omega) (by omega) B5.lt ?_)
    intro v6 w6 d8 dj vf
    have jw:w6.ownsRow (g+1) 56 2 v6 (k+1) (ar (O++[(t+(s+x),v+y)])):=by rw[dF];exact d8
    obtain⟨a6,c6,rfl,Oe,-,-⟩:=aV.ofOwn jw
    have dD:=aG br dM dj (by omega) br.size
    clear d8 jw dj vf
    go_wp2_with fail
    go_at_call 175
    refine(CH _ _ _ Oe).mono ?_
    rintro e w7 ⟨rfl,b7⟩
    go_wp2_with fail
    go_ret2
    exact⟨none,0,rfl,aV.ofNil _,ac dD b7⟩
   rw[N4 _ _ _ _ _ _ hF] at eI
   generalize(de X).1=x at*
   generalize(de X).2.1=y at*
   generalize(de X).2.2.1=Y at*
   generalize(de X).2.2.2=F at*
   subst eI
   go_wp2_with fail
   go_at_call 176
   refine(TB _ S).mono ?_
   rintro e w4 ⟨a4,G4,rfl,S4,b4,k4⟩
   go_wp2_with fail
   go_ret2
   exact⟨none,0,rfl,aV.ofNil _,ac bel b4⟩
  obtain rfl:k=N:=by omega
  have eI:=HD.out
  rw[Nat.sub_self,fm] at eI
  by_cases hz:X.length=0
  .rw[if_pos hz,fY,if_pos rfl,List.append_nil] at eI
   obtain⟨a6,c6,rfl,Oe,hl6,-⟩:=aV.ofOwn own
   have xj:(X.length:Int)=0:=by omega
   subst eI
   go_wp2_with fail
   go_ret2
   exact⟨a6,c6,rfl,Oe,bel⟩
  rw[if_neg hz,fY,if_neg (by decide)] at eI
  subst eI
  have xj:(0:Int)<(X.length:Int):=by omega
  go_wp2_with fail
  go_ret2
  exact⟨none,0,rfl,aV.ofNil _,bel⟩
theorem Hg (ao:Option Addr)(len cap:Nat)(n:Int)(w:World)(h:pi n=false):
  Calls Tryz.prog 141 #[.slice ao len cap,.int .i64 n] w fun e w'=>e=.returned (.tuple #[.slice none 0 0,.int .i64 2])/\w=w':=by
 have hn:=(of_decide_eq_false h:¬(0<=n/\n<=40))
 clear h
 by_cases h0:n<0
 .go_enter Tryz.func141,Tryz.ntmps141
  go_wp2_with fail
  go_ret2
  exact⟨rfl,rfl⟩
 have h1:40<n:=by omega
 have h2:¬n<0:=h0
 go_enter Tryz.func141,Tryz.ntmps141
 go_wp2_with fail
 go_ret2
 exact⟨rfl,rfl⟩
theorem qC (ao:Option Addr)(cap:Nat)(b:List Bool)(n:Int)(w:World)(hr:Sl w ao cap (b.map Value.bool))(hl:b.length<=140737488355328):
  Calls Tryz.prog 141 #[.slice ao b.length cap,.int .i64 n] w fun e w'=>
   ∃a' G,e=.returned (.tuple #[.slice a' (dS b n).length G,.int .i64 (fL b n)])/\aV w' a' G (dS b n)/\Below w.heap.size w w':=by
 cases h:pi n with
 |true=>
  have hn:=(of_decide_eq_true h:0<=n/\n<=40)
  obtain⟨N,rfl⟩:=Int.eq_ofNat_of_zero_le hn.1
  have e1:dS b N=(fm N 0 0 0 (-1) b).1:=by rw[dS,if_pos h];rfl
  have e2:fL b N=(fm N 0 0 0 (-1) b).2:=by rw[fL,if_pos h];rfl
  rw[e1,e2]
  exact Gw ao cap b N w hr hl (by omega)
 |false=>
  have e1:dS b n=[]:=by rw[dS,h];rfl
  have e2:fL b n=2:=by rw[fL,h];rfl
  rw[e1,e2]
  refine(Hg ao b.length cap n w h).mono ?_
  rintro e w' ⟨rfl,rfl⟩
  exact⟨none,0,rfl,aV.ofNil _,Below.refl _ _⟩
theorem vS:∀(n:Nat) (t v s last:Int) (b:List Bool),(fm n t v s last b).1.length<=n
 |0,_,_,_,_,_=>Nat.le_refl _
 |n+1,t,v,s,last,b=>by
  rw[fm]
  have h:=vS n (t+(s+ci b)) (v+ci (cx b)) (s+ci b) (t+(s+ci b)) (cx (cx b))
  by_cases h1:fs b≠0
  .rw[if_pos h1];exact Nat.zero_le _
  rw[if_neg h1]
  by_cases h2:fs (cx b)≠0
  .rw[if_pos h2];exact Nat.zero_le _
  rw[if_neg h2]
  by_cases h3:ft (t+(s+ci b),v+ci (cx b))=false
  .rw[if_pos h3];exact Nat.zero_le _
  rw[if_neg h3]
  by_cases h4:t+(s+ci b)<=last
  .rw[if_pos h4];exact Nat.zero_le _
  rw[if_neg h4]
  simp only
  split
  .simp only[List.length_cons];omega
  exact Nat.zero_le _
theorem oS (b:List Bool)(n:Int):(dS b n).length<=40:=by
 unfold dS
 cases h:pi n with
 |true=>
  have hn:=(of_decide_eq_true h:0<=n/\n<=40)
  rw[if_pos rfl]
  have:=vS n.toNat 0 0 0 (-1) b
  omega
 |false=>exact Nat.zero_le _
theorem dN (w:World)(a b:Obj):Below w.heap.size w ((w.alloc a).alloc b):=
 ((Below.refl _ _).alloc (Nat.le_refl _) _).alloc (by simp) _
theorem k6 (w:World)(a b c:Obj):Below w.heap.size w (((w.alloc a).alloc b).alloc c):=
 (dN w a b).alloc (by simp;omega) _
theorem ag.alc {w:World}{g:Nat}{cs:List Value}{t:TypeId}(h:ag w g cs t)(o:Obj):ag (w.alloc o) g cs t:=
 h.keep ((Below.refl w.heap.size w).alloc (Nat.le_refl _) o) h.lt
theorem ag.other {w:World}{g g':Nat}{cs:List Value}{t:TypeId}(h:ag w g cs t)(i:Nat)(u:Value)(aF:g'≠g):ag (w.setCell ⟨g',i,none⟩ u) g cs t:=
 (heap_setCell_other w _ g u (fun e=>aF e.symm)).trans h
theorem ag.drewS {w:World}{g:Nat}{cs:List Value}{t:TypeId}(h:ag w g cs t):ag w.drew g cs t:=h
structure Sm where
 n:Int
 lo:Int
 hi:Int
 tot:Int
def p9 (v:Int):Sm:=⟨1,v,v,v⟩
end Go.Proofs.YtoonnbhoiocoeaaGreatDoor
