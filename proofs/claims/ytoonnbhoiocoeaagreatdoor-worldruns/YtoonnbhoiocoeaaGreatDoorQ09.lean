/-
  Texts cut at blanks, as plain lists: strings.Split and strings.Cut at one blank; what is cut and what is laid together. No program is named.
-/
import Derived.Test.YtoonnbhoiocoeaaGreatDoorQ08
set_option maxHeartbeats 40000000
set_option maxRecDepth 100000
set_option linter.unusedVariables false
namespace Go.Proofs.YtoonnbhoiocoeaaGreatDoor
open Go.Lib (index splitK count)
def sp:List UInt8->List (List UInt8)
 | []=>[[]]
 |c::r=>if c=32 then []::sp r else(c::(sp r).headD [])::(sp r).tail
theorem Oi (l:List UInt8):sp l≠[]:=by
 cases l with
 |nil=>simp[sp]
 |cons c r=>unfold sp;split<;>simp
theorem ux:∀l:List UInt8,(∀c∈l,c≠32)->sp l=[l]
 | [],_=>rfl
 |c::r,h=>by
  rw[sp,if_neg (h c List.mem_cons_self),ux r (fun x hx=>h x (List.mem_cons_of_mem _ hx))]
  rfl
theorem ug:∀(p q:List UInt8),(∀c∈p,c≠32)->sp (p++32::q)=p::sp q
 | [],q,_=>by rw[List.nil_append,sp,if_pos rfl]
 |c::r,q,h=>by
  rw[List.cons_append,sp,if_neg (h c List.mem_cons_self),ug r q (fun x hx=>h x (List.mem_cons_of_mem _ hx))]
  rfl
theorem mr:∀l:List UInt8,(index l [32]=-1/\∀c∈l,c≠32)\/(∃p q,l=p++32::q/\(∀c∈p,c≠32)/\index l [32]=p.length)
 | []=>.inl ⟨rfl,fun c h=>by simp at h⟩
 |c::r=>by
  by_cases hc:c=32
  .subst hc
   exact .inr ⟨[],r,rfl,fun c h=>by simp at h,by simp[index]⟩
  have hp:([32]:List UInt8).isPrefixOf (c::r)=false:=by simp[List.isPrefixOf,Ne.symm hc]
  rcases mr r with⟨h1,h2⟩| ⟨p,q,rfl,h2,h3⟩
  .left
   refine⟨by rw[index,hp,h1];rfl,fun x hx=>?_⟩
   rcases List.mem_cons.1 hx with rfl|hx
   .exact hc
   exact h2 x hx
  right
  refine⟨c::p,q,rfl,fun x hx=>?_,?_⟩
  .rcases List.mem_cons.1 hx with rfl|hx
   .exact hc
   exact h2 x hx
  rw[index,hp,h3]
  have:((p.length:Int)==-1)=false:=by simp
  simp[this]
theorem Kl:∀(n:Nat) (l:List UInt8),l.length<=n->splitK [32] 0 (count l [32]) l=sp l:=by
 intro n
 induction n with
 |zero=>
  intro l h
  obtain rfl:=List.length_eq_zero_iff.1 (Nat.le_zero.1 h)
  rw[Lib.count_miss rfl]
  rfl
 |succ n ih=>
  intro l h
  rcases mr l with⟨h1,h2⟩| ⟨p,q,rfl,h2,h3⟩
  .rw[Lib.count_miss h1,ux l h2]
   rfl
  have hd:(p++32::q).drop (p.length+1)=q:=by
   rw[show p.length+1=(p++[32]).length by simp,show p++32::q=(p++[32])++q by simp,List.drop_left]
  rw[Lib.count_hit (by simp) h3,Nat.add_comm 1,splitK,h3,ug p q h2]
  have aF:((p.length:Int)==-1)=false:=by simp
  rw[aF]
  simp only[Bool.false_eq_true,if_false,Int.toNat_natCast,List.length_cons,List.length_nil,Nat.zero_add,Nat.add_zero]
  rw[hd,ih q (by simp at h;omega),List.take_left]
theorem LE (s:ByteArray):(nC s).map bytes=sp (bytes s):=by
 unfold nC
 have h:=Lib.splitB_data blank 0 (Lib.countB s blank) s
 exact h.trans (Kl _ (bytes s) (Nat.le_refl _))
theorem qT (s:ByteArray):jn s=hI (sp (bytes s)):=by
 unfold jn
 rw[LE]
def r8:List (List UInt8)->List UInt8
 | []=>[]
 |w::r=>w++r.flatMap (fun x=>32::x)
theorem Me:∀l:List UInt8,r8 (sp l)=l
 | []=>rfl
 |c::r=>by
  have ih:=Me r
  obtain⟨w,ws,hw⟩:=List.exists_cons_of_ne_nil (Oi r)
  rw[hw] at ih
  unfold sp
  split
  .rename_i h
   subst h
   rw[hw,r8,List.nil_append,List.flatMap_cons,<-ih]
   simp[r8]
  rw[hw,<-ih]
  simp[r8]
theorem N7:∀(ws:List (List UInt8)) (w:List UInt8),(∀x∈w::ws,∀c∈x,c≠32)->sp (r8 (w::ws))=w::ws
 | [],w,h=>by
  rw[r8,List.flatMap_nil,List.append_nil]
  exact ux w (h w List.mem_cons_self)
 |x::r,w,h=>by
  have ih:=N7 r x (fun y hy=>h y (List.mem_cons_of_mem _ hy))
  rw[r8] at ih
  rw[r8,List.flatMap_cons,List.cons_append,ug w _ (h w List.mem_cons_self),ih]
open Go.Lib (parseUint10 decDigits itoa atoiAll parseMag)
theorem At (l m:List UInt8):∀acc v,parseUint10 acc l=.ok v->parseUint10 acc (l++m)=parseUint10 v m:=by
 induction l with
 |nil=>
  intro acc v h
  simp only[parseUint10] at h
  injection h with h
  subst h
  rfl
 |cons c r ih=>
  intro acc v h
  simp only[parseUint10] at h
  simp only[List.cons_append,parseUint10]
  split at h
  .rename_i h1
   rw[if_pos h1]
   split at h
   .cases h
   rename_i h2
   rw[if_neg h2]
   split at h
   .cases h
   rename_i h3
   rw[if_neg h3]
   exact ih _ v h
  cases h
theorem mu {d:Nat}(h:d<10):(UInt8.ofNat (48+d)).toNat=48+d:=by
 rw[UInt8.toNat_ofNat']
 omega
theorem yP (u:Nat)(h:u<18446744073709551616):parseUint10 0 (decDigits u)=.ok u:=by
 induction u using Nat.strongRecOn with
 |_ u ih=>
  rw[decDigits]
  split
  .rename_i h1
   simp only[parseUint10,mu h1]
   rw[if_pos (by omega),if_neg (by omega),if_neg (by omega)]
   simp
  rename_i h1
  rw[At _ _ 0 (u / 10) (ih (u / 10) (by omega) (by omega))]
  simp only[parseUint10,mu (show u % 10<10 by omega)]
  rw[if_pos (by omega),if_neg (by omega),if_neg (by omega)]
  congr 1
  omega
theorem li (u:Nat):∀c∈decDigits u,48<=c.toNat/\c.toNat<=57:=by
 induction u using Nat.strongRecOn with
 |_ u ih=>
  intro c hc
  rw[decDigits] at hc
  split at hc
  .rename_i h1
   obtain rfl:=List.mem_singleton.1 hc
   rw[mu h1]
   omega
  rename_i h1
  rcases List.mem_append.1 hc with hc|hc
  .exact ih (u / 10) (by omega) c hc
  obtain rfl:=List.mem_singleton.1 hc
  rw[mu (show u % 10<10 by omega)]
  omega
theorem Dm (u:Nat):decDigits u≠[]:=by
 rw[decDigits]
 split<;>simp
theorem El (n:Int):∀c∈itoa n,c≠32:=by
 intro c hc e
 subst e
 unfold itoa at hc
 split at hc
 .rcases List.mem_cons.1 hc with h|h
  .cases h
  have:=li _ _ h
  simp at this
 have:=li _ _ hc
 simp at this
theorem Iu (n:Int)(h0:-9223372036854775808<=n)(h1:n<=9223372036854775807):atoiAll (itoa n)=.ok n:=by
 unfold itoa
 split
 .rename_i hn
  have hm:parseMag (decDigits n.natAbs)=.ok n.natAbs:=by
   unfold parseMag
   rw[if_neg (Dm _)]
   exact yP _ (by omega)
  unfold atoiAll
  have Z3:(45:UInt8).toNat=45:=rfl
  simp only[Z3,or_true,if_true,hm,not_true,false_and,if_false,true_and]
  rw[if_neg (by omega)]
  congr 1
  omega
 rename_i hn
 obtain⟨c,r,SW⟩:=List.exists_cons_of_ne_nil (Dm n.toNat)
 have hd:=li n.toNat c (by rw[SW];exact List.mem_cons_self)
 have hm:parseMag (c::r)=.ok n.toNat:=by
  rw[<-SW]
  unfold parseMag
  rw[if_neg (Dm _)]
  exact yP _ (by omega)
 rw[SW]
 unfold atoiAll
 have n1:¬c.toNat=43:=by omega
 have n2:¬c.toNat=45:=by omega
 simp only[n1,n2,or_self,if_false,hm,not_false_eq_true,true_and,false_and]
 rw[if_neg (by omega)]
 congr 1
 omega
theorem zx (n:Int)(h0:-9223372036854775808<=n)(h1:n<=9223372036854775807):dQ (itoa n)=some n:=by
 unfold dQ
 rw[Iu n h0 h1]
 simp
theorem p8:∀l:List Int,(∀n∈l,-9223372036854775808<=n/\n<=9223372036854775807)->bu (l.map itoa)=some l
 | [],_=>rfl
 |n::r,h=>by
  obtain⟨h0,h1⟩:=h n List.mem_cons_self
  rw[List.map_cons,bu,zx n h0 h1,p8 r (fun m hm=>h m (List.mem_cons_of_mem _ hm))]
  rfl
theorem qG:∀(ws:List (List UInt8)) (ns:List Int),bu ws=some ns->ws=ns.map itoa
 | [],ns,h=>by
  simp only[bu,Option.some.injEq] at h
  subst h
  rfl
 |w::r,ns,h=>by
  simp only[bu] at h
  cases hx:dQ w with
  |none=>rw[hx] at h;cases h
  |some v=>
   rw[hx] at h
   simp only[Option.bind_some] at h
   cases hr:bu r with
   |none=>rw[hr] at h;cases h
   |some vr=>
    rw[hr] at h
    simp only[Option.map_some,Option.some.injEq] at h
    subst h
    rw[List.map_cons,<-qG r vr hr]
    unfold dQ at hx
    split at hx
    .split at hx
     .rename_i h2
      simp only[Option.some.injEq] at hx
      subst hx
      rw[h2]
     cases hx
    cases hx
theorem yk (l:List Int):cV l=(l.map itoa).flatMap (fun x=>32::x):=by
 unfold cV
 rw[List.flatMap_map]
open Go.Lib (itoa)
theorem K3 (l:List UInt8):bytes ⟨l.toArray⟩=l:=by simp[bytes]
theorem wv:∀l:List Nt,fq (dI l)=l
 | []=>rfl
 |x::r=>by
  have ih:=wv r
  unfold dI at ih⊢
  rw[List.flatMap_cons]
  simp only[List.cons_append,List.nil_append,fq,ih]
theorem vO:∀(m:Nat) (ns:List Int),ns.length=m*3->dI (fq ns)=ns
 |0,[],_=>rfl
 |0,_::_,h=>by simp at h
 |m+1,[],h=>by simp at h
 |m+1,[_],h=>by simp at h;omega
 |m+1,[_,_],h=>by simp at h;omega
 |m+1,a::b::c::r,h=>by
  have ih:=vO m r (by simp at h;omega)
  unfold dI at ih⊢
  rw[fq,List.flatMap_cons,ih]
  rfl
theorem Cr (w:List UInt8)(ns:List Int)(hw:∀c∈w,c≠32):sp (w++cV ns)=w::ns.map itoa:=by
 have h:=N7 (ns.map itoa) w (fun x hx=>by
  rcases List.mem_cons.1 hx with rfl|hx
  .exact hw
  obtain⟨n,_,rfl⟩:=List.mem_map.1 hx
  exact El n)
 rw[r8,<-yk] at h
 exact h
theorem nk (w:List UInt8)(ns:List Int)(hw:∀c∈w,c≠32)(hb:∀n∈ns,-9223372036854775808<=n/\n<=9223372036854775807):
  jn ⟨(w++cV ns).toArray⟩=(if w=fS/\ns.length % 3=0 then some ⟨1,0,0,fq ns⟩ else if w=jm/\ns.length=2 then some ⟨2,ns.getD 0 0,ns.getD 1 0,[]⟩ else if w=f'/\ns.length=2 then some ⟨3,ns.getD 0 0,ns.getD 1 0,[]⟩ else if w=jo/\ns.length=1 then some ⟨4,0,ns.getD 0 0,[]⟩ else none):=by
 rw[qT,K3,Cr w ns hw]
 simp only[hI,p8 ns hb,Option.bind_some]
theorem sV {r:Rc}(h:aP r=0):jn ⟨(bY r).toArray⟩=some r/\(bY r).length<=60000:=by
 by_cases h1:r.k=1
 .obtain⟨e1,e2,e3,e4⟩:=qW h h1
  have eT:bY r=fS++cV (dI r.e):=by unfold bY;rw[if_pos h,if_pos h1]
  have hl:=jg (dI r.e) (qh e4)
  rw[gE] at hl
  rw[eT]
  refine⟨?_,by rw[List.length_append];have:fS.length=5:=rfl;omega⟩
  rw[nk fS _ (by decide) (qh e4),if_pos ⟨rfl,by rw[gE];omega⟩,wv]
  obtain⟨k,s,m,l⟩:=r
  simp only at*
  subst h1
  subst e1
  subst e2
  rfl
 obtain⟨hk,e1,e2,e3,e4,e5,e6⟩:=nH h h1
 obtain⟨k,s,m,l⟩:=r
 simp only at*
 subst e1
 have jJ:∀n∈[s,m],-9223372036854775808<=n/\n<=9223372036854775807:=by
  intro n hn
  simp at hn
  omega
 have m7:∀n∈[m],-9223372036854775808<=n/\n<=9223372036854775807:=by
  intro n hn
  simp at hn
  omega
 have l2:=jg [s,m] jJ
 have l1:=jg [m] m7
 simp only[List.length_cons,List.length_nil] at l1 l2
 rcases hk with rfl|rfl|rfl
 .have eT:bY ⟨2,s,m,[]⟩=jm++cV [s,m]:=by unfold bY;rw[if_pos h];rfl
  rw[eT]
  refine⟨?_,by rw[List.length_append];have:jm.length=4:=rfl;omega⟩
  rw[nk jm _ (by decide) jJ]
  rfl
 .have eT:bY ⟨3,s,m,[]⟩=f'++cV [s,m]:=by unfold bY;rw[if_pos h];rfl
  rw[eT]
  refine⟨?_,by rw[List.length_append];have:f'.length=5:=rfl;omega⟩
  rw[nk f' _ (by decide) jJ]
  rfl
 obtain rfl:=e2 rfl
 have eT:bY ⟨4,0,m,[]⟩=jo++cV [m]:=by unfold bY;rw[if_pos h];rfl
 rw[eT]
 refine⟨?_,by rw[List.length_append];have:jo.length=4:=rfl;omega⟩
 rw[nk jo _ (by decide) m7]
 rfl
theorem Gf {s:ByteArray}{r:Rc}(h:jn s=some r)(h0:aP r=0):bY r=bytes s:=by
 rw[qT] at h
 have hj:=Me (bytes s)
 obtain⟨w,ws,hw⟩:=List.exists_cons_of_ne_nil (Oi (bytes s))
 rw[hw] at h hj
 rw[r8] at hj
 simp only[hI] at h
 cases hr:bu ws with
 |none=>rw[hr] at h;cases h
 |some ns=>
  rw[hr] at h
  simp only[Option.bind_some] at h
  have W4:=qG ws ns hr
  rw[W4,<-yk] at hj
  split at h
  .rename_i hc
   obtain⟨rfl,h3⟩:=hc
   simp only[Option.some.injEq] at h
   subst h
   unfold bY
   rw[if_pos h0,if_pos rfl,vO (ns.length / 3) ns (by omega)]
   exact hj
  split at h
  .rename_i hc
   obtain⟨rfl,h2⟩:=hc
   match ns,h2 with
   | [a,b],_=>
    simp only[Option.some.injEq] at h
    subst h
    unfold bY
    rw[if_pos h0]
    exact hj
  split at h
  .rename_i hc
   obtain⟨rfl,h2⟩:=hc
   match ns,h2 with
   | [a,b],_=>
    simp only[Option.some.injEq] at h
    subst h
    unfold bY
    rw[if_pos h0]
    exact hj
  split at h
  .rename_i hc
   obtain⟨rfl,h2⟩:=hc
   match ns,h2 with
   | [a],_=>
    simp only[Option.some.injEq] at h
    subst h
    unfold bY
    rw[if_pos h0]
    exact hj
  cases h
open Go.Lib (itoa decDigits)
theorem Hy (n:Int):∀c∈itoa n,c≠10:=by
 intro c hc he
 subst he
 unfold itoa at hc
 split at hc
 .rcases List.mem_cons.1 hc with h|h
  .exact absurd h (by decide)
  have:=li _ _ h
  simp at this
 have:=li _ _ hc
 simp at this
theorem FE (l:List Int):∀c∈cV l,c≠10:=by
 intro c hc
 unfold cV at hc
 obtain⟨n,_,hn⟩:=List.mem_flatMap.1 hc
 rcases List.mem_cons.1 hn with h|h
 .subst h;decide
 exact Hy n c h
theorem oW {w:List UInt8}{l:List Int}(hw:w=fS\/w=jm\/w=f'\/w=jo):∀c∈w++cV l,c≠10:=by
 intro c hc
 rcases List.mem_append.1 hc with h|h
 .intro e
  subst e
  rcases hw with rfl|rfl|rfl|rfl<;>exact absurd h (by decide)
 exact FE l c h
theorem zq (r:Rc):∀c∈bY r,c≠10:=by
 unfold bY
 split
 .split
  .exact oW (.inl rfl)
  split
  .exact oW (.inr (.inl rfl))
  split
  .exact oW (.inr (.inr (.inl rfl)))
  exact oW (.inr (.inr (.inr rfl)))
 intro c hc;simp at hc
theorem IA {r:Rc}(h:aP r=0):dJ (iv (bY r))=r/\im (iv (bY r))=0:=by
 obtain⟨h1,h2⟩:=sV h
 have hs:¬60000<(iv (bY r)).size:=by rw[ir];omega
 unfold dJ im
 rw[if_neg hs,if_neg hs,show jn (iv (bY r))=some r from h1]
 simp only[h,if_true,and_self]
theorem D5 {r:Rc}(h:aP r=0)(q:List UInt8):fF (bY r++10::q)=0/\lv (bY r++10::q)=r/\f6 (bY r++10::q)=q:=by
 obtain⟨h1,h2,h3⟩:=Ux (q:=q) (zq r)
 obtain⟨p1,p2⟩:=IA h
 unfold fF lv f6
 rw[if_pos h1,if_pos h1,if_pos h1,h2,h3]
 exact⟨p2,p1,rfl⟩
def dh (l:List Rc):List UInt8:=l.flatMap (fun r=>bY r++[10])
theorem ks (r:Rc)(l:List Rc)(q:List UInt8):dh (r::l)++q=bY r++10::(dh l++q):=by
 unfold dh
 rw[List.flatMap_cons]
 simp
theorem ka (l m:List Rc):dh (l++m)=dh l++dh m:=by
 unfold dh
 exact List.flatMap_append
theorem Li (r:Rc):dh [r]=bY r++[10]:=by
 unfold dh
 simp
theorem vq:∀(l:List Rc) (k:Nat) (q:List UInt8),(∀r∈l,aP r=0)->k+l.length<=60->scan k (dh l++q)=(l++(scan (k+l.length) q).1,(scan (k+l.length) q).2)
 | [],k,q,_,_=>rfl
 |r::l,k,q,h,hk=>by
  obtain⟨h1,h2,h3⟩:=D5 (h r List.mem_cons_self) (dh l++q)
  simp only[List.length_cons] at hk
  rw[ks,kX (by simp) h1 (by omega),h2,h3,vq l (k+1) q (fun x hx=>h x (List.mem_cons_of_mem _ hx)) (by omega)]
  simp only[List.length_cons]
  rw[show k+1+l.length=k+(l.length+1) by omega]
  rfl
theorem po (l:List Rc)(h:∀r∈l,aP r=0)(hk:l.length<=60):scan 0 (dh l)=(l,0):=by
 have:=vq l 0 [] h (by omega)
 rw[List.append_nil,jc,List.append_nil] at this
 exact this
theorem K2 {l:List UInt8}(h:∀c∈l,c≠10):fF l=8:=by
 rcases jP l with⟨h1,_⟩| ⟨_,h2,_⟩
 .unfold fF
  rw[h1]
  rfl
 exact absurd rfl (h 10 (by rw[h2];simp))
theorem A7:∀(l:List Rc) (k n:Nat),(∀r∈l,aP r=0)->k+l.length<=60->
  ∃m q,m<=l.length/\tail k ((dh l).take n)=(l.take m,q)/\(dh l).take n=dh (l.take m)++q
 | [],k,n,_,_=>by
  refine⟨0,[],Nat.le_refl _,?_,?_⟩
  .have e:(dh []).take n=[]:=by simp[dh]
   rw[e,ee (by rw[oB];simp)]
   rfl
  .simp[dh]
 |r::l,k,n,h,hk=>by
  have e:=ks r l []
  rw[List.append_nil,List.append_nil] at e
  rw[e]
  simp only[List.length_cons] at hk
  by_cases hn:n<=(bY r).length
  .refine⟨0,(bY r).take n,Nat.zero_le _,?_,?_⟩
   .rw[List.take_append_of_le_length hn]
    rw[ee (by rw[K2 (fun c hc=>zq r c (List.mem_of_mem_take hc))];simp)]
    rfl
   rw[List.take_append_of_le_length hn]
   rfl
  obtain⟨j,rfl⟩:∃j,n=(bY r).length+(j+1):=⟨n-(bY r).length-1,by omega⟩
  obtain⟨m,q,hm,h1,h2⟩:=A7 l (k+1) j (fun x hx=>h x (List.mem_cons_of_mem _ hx)) (by omega)
  obtain⟨g1,g2,g3⟩:=D5 (h r List.mem_cons_self) ((dh l).take j)
  refine⟨m+1,q,by simp only[List.length_cons];omega,?_,?_⟩
  .rw[List.take_length_add_append,List.take_succ_cons,kz ⟨by omega,g1⟩,g2,g3,h1]
   rfl
  rw[List.take_length_add_append,List.take_succ_cons,List.take_succ_cons,ks,h2]
theorem qM (k:Nat):tail k []=([],[]):=ee (by rw[oB];simp)
theorem LU (a b:List Rc)(n:Nat)(ha:∀r∈a,aP r=0)(hb:∀r∈b,aP r=0)(hl:a.length+b.length<=60)(hs:(dh a).length+(dh b).length<=60000):
  cy ⟨dh a,(dh b).take n⟩=0/\∃m,m<=b.length/\aO ⟨dh a,(dh b).take n⟩=a++b.take m/\fQ ⟨dh a,(dh b).take n⟩=⟨dh (a++b.take m),[]⟩/\
   cy ⟨dh (a++b.take m),[]⟩=0/\aO ⟨dh (a++b.take m),[]⟩=a++b.take m/\fQ ⟨dh (a++b.take m),[]⟩=⟨dh (a++b.take m),[]⟩:=by
 obtain⟨m,q,hm,h1,h2⟩:=A7 b a.length n hb (by omega)
 have hlen:((dh b).take n).length<=(dh b).length:=by rw[List.length_take];omega
 have sa:=po a ha (by omega)
 have e0:cy ⟨dh a,(dh b).take n⟩=0:=by
  unfold cy
  rw[if_neg (by simp only;omega),sa]
 have l0:jk ⟨dh a,(dh b).take n⟩=a:=by
  unfold jk
  rw[if_pos e0,sa]
 have hq:=congrArg List.length h2
 rw[List.length_append] at hq
 have hk:kept ⟨dh a,(dh b).take n⟩=dh (b.take m):=by
  unfold kept
  rw[l0]
  simp only
  rw[h1]
  simp only
  rw[hq,Nat.add_sub_cancel,h2,List.take_left]
 have Wy:∀r∈a++b.take m,aP r=0:=fun r hr=>(List.mem_append.1 hr).elim (ha r) (fun h=>hb r (List.mem_of_mem_take h))
 have Qc:(b.take m).length<=b.length:=by rw[List.length_take];omega
 have sb:=po (a++b.take m) Wy (by rw[List.length_append];omega)
 have e1:cy ⟨dh (a++b.take m),[]⟩=0:=by
  unfold cy
  rw[if_neg (by simp only[ka,List.length_append,List.length_nil];omega),sb]
 have l1:jk ⟨dh (a++b.take m),[]⟩=a++b.take m:=by
  unfold jk
  rw[if_pos e1,sb]
 refine⟨e0,m,hm,?_,?_,e1,?_,?_⟩
 .unfold aO
  rw[if_pos e0,l0]
  simp only
  rw[h1]
 .unfold fQ
  rw[if_pos e0,hk,ka]
 .unfold aO
  rw[if_pos e1,l1]
  simp only
  rw[qM,List.append_nil]
 unfold fQ kept
 rw[if_pos e1]
 simp
theorem mD {d:Dk}{r:Rc}(h:dX d r=0):cy d=0/\aP r=0/\cU d r=⟨d.safe,d.wait++(bY r++[10])⟩/\cy (cU d r)=0:=by
 have hd:cU d r=⟨d.safe,d.wait++(bY r++[10])⟩:=if_pos h
 unfold dX at h
 split at h
 .contradiction
 rename_i h0
 have yp:cy d=0:=Decidable.not_not.1 h0
 split at h
 .contradiction
 rename_i h1
 split at h
 .cases h
 rename_i h2
 refine⟨yp,Decidable.not_not.1 h1,hd,?_⟩
 rw[hd]
 unfold cy at yp⊢
 split at yp
 .cases yp
 rw[if_neg (by simp only[List.length_append,List.length_cons,List.length_nil];omega)]
 exact yp
theorem Er {r:Rc}(h:aP r=0):(bY r).length<=665:=by
 by_cases h1:r.k=1
 .obtain⟨_,_,e3,e4⟩:=qW h h1
  have eT:bY r=fS++cV (dI r.e):=by unfold bY;rw[if_pos h,if_pos h1]
  have hl:=jg (dI r.e) (qh e4)
  rw[gE] at hl
  rw[eT,List.length_append]
  have:fS.length=5:=rfl
  omega
 obtain⟨hk,_,_,e3,e4,e5,e6⟩:=nH h h1
 have jJ:∀n∈[r.s,r.n],-9223372036854775808<=n/\n<=9223372036854775807:=by
  intro n hn
  simp at hn
  omega
 have m7:∀n∈[r.n],-9223372036854775808<=n/\n<=9223372036854775807:=by
  intro n hn
  simp at hn
  omega
 have l2:=jg [r.s,r.n] jJ
 have l1:=jg [r.n] m7
 simp only[List.length_cons,List.length_nil] at l1 l2
 unfold bY
 rw[if_pos h,if_neg h1]
 have w1:jm.length=4:=rfl
 have w2:f'.length=5:=rfl
 have w3:jo.length=4:=rfl
 split
 .rw[List.length_append];omega
 split
 .rw[List.length_append];omega
 rw[List.length_append];omega
theorem vR:∀l:List Rc,(∀r∈l,aP r=0)->(dh l).length<=l.length*666
 | [],_=>by simp[dh]
 |r::l,h=>by
  have e:=ks r l []
  rw[List.append_nil,List.append_nil] at e
  have h1:=Er (h r List.mem_cons_self)
  have h2:=vR l (fun x hx=>h x (List.mem_cons_of_mem _ hx))
  rw[e,List.length_append,List.length_cons,List.length_cons]
  omega
def mh (l:List Rc):Dk:=⟨dh l,[]⟩
theorem F7 {l:List Rc}(h:∀r∈l,aP r=0)(tS:l.length<=60):cy (mh l)=0:=by
 have hs:=vR l h
 unfold cy mh
 rw[if_neg (by simp only[List.length_nil];omega),po l h tS]
theorem Qh {l:List Rc}(h:∀r∈l,aP r=0)(tS:l.length<=60):aO (mh l)=l:=by
 have d0:=F7 h tS
 unfold aO jk
 rw[if_pos d0,if_pos d0]
 unfold mh
 simp only
 rw[po l h tS]
 simp only
 rw[qM,List.append_nil]
theorem Ku {R:List Rc}(h:(aW dm R).2=0)(k:Nat):(aW dm (R.take k)).2=0:=by
 by_cases hz:(aW dm (R.take k)).2=0
 .exact hz
 have e:aW dm R=aW dm (R.take k++R.drop k):=by rw[List.take_append_drop]
 rw[e,jC,if_neg hz] at h
 exact absurd h hz
structure Wd where
 c:List Rw
 d:Dk
 up:Bool
 rd:List Int
structure Hp where
 k:Int
 s:Int
 n:Int
 e:List Nt
def zD:Wd:=⟨[],ox,false,[]⟩
def fJ:List Int:=[-1,-1,-1]
def iy:Wd:=⟨dm,ox,true,fJ⟩
def iW (w:Wd):List Rc:=if w.up=true then aO w.d else []
def fl (up:Bool)(n:Nat)(v:Int):Bool:=decide (-1<=v/\v<=n)&&(up||decide (v<0))
def dw (w:Wd):Int:=
 if cy w.d≠0 then cy w.d
 else if w.up=true/\w.d.wait≠[] then 4
 else if du (iW w)≠0 then du (iW w)
 else if¬(bp w.c (cd (iW w))=true/\w.rd.length=3) then 4
 else if w.rd.all (fl w.up (iW w).length)=true then 0 else 3
def aK (x:Hp):Rc:=if x.k=2 then⟨2,x.s,x.n,[]⟩ else if x.k=3 then⟨3,x.s,x.n,[]⟩ else if x.k=4 then⟨4,0,x.n,[]⟩ else⟨1,0,0,x.e⟩
def bR (w:Wd)(x:Hp):Int:=
 if¬(1<=x.k/\x.k<=9) then 4
 else if w.up≠decide (x.k≠8) then 7
 else if x.k=5\/x.k=6 then(if 0<=x.n/\x.n<=2 then 0 else 5)
 else if x.k=7 then 0
 else if x.k=8 then du (aO w.d)
 else if bJ w.c (aK x)≠0 then bJ w.c (aK x)
 else if dX w.d (aK x)≠0 then dX w.d (aK x)
 else if x.k=9 then 0 else gk (cU w.d (aK x))
def dz (w:Wd)(x:Hp):Wd:=
 if bR w x≠0 then zD
 else if x.k=5 then⟨w.c,w.d,w.up,w.rd.set x.n.toNat (aO w.d).length⟩
 else if x.k=6 then⟨w.c,w.d,w.up,w.rd.set x.n.toNat (-1)⟩
 else if x.k=7 then⟨dm,w.d,false,fJ⟩
 else if x.k=8 then⟨cd (aO w.d),fQ w.d,true,w.rd⟩
 else if x.k=9 then⟨dm,⟨w.d.safe,(cU w.d (aK x)).wait.take x.n.toNat⟩,false,fJ⟩
 else⟨dH w.c (aK x),iJ (cU w.d (aK x)),w.up,w.rd⟩
def DN (w:Wd)(x:Hp):Int:=if dw w≠0 then dw w else bR w x
def zk (w:Wd)(x:Hp):Wd:=if dw w≠0 then zD else dz w x
def ff:Wd->List Hp->Wd × List Int
 |w,[]=>(w,[])
 |w,x::l=>if bR w x=0 then((ff (dz w x) l).1,0::(ff (dz w x) l).2) else((ff w l).1,bR w x::(ff w l).2)
theorem sS (w:Wd)(x:Hp)(l:List Hp):ff w (x::l)=if bR w x=0 then((ff (dz w x) l).1,0::(ff (dz w x) l).2) else((ff w l).1,bR w x::(ff w l).2):=rfl
theorem oN:∀(a b:List Hp) (w:Wd),ff w (a++b)=((ff (ff w a).1 b).1,(ff w a).2++(ff (ff w a).1 b).2)
 | [],b,w=>by simp[ff]
 |x::a,b,w=>by
  rw[List.cons_append,sS,sS]
  split
  .rw[oN a b]
   rfl
  rw[oN a b]
  rfl
theorem DK:dw iy=0:=by
 have h:aO ox=[]:=rfl
 have hL:iW iy=[]:=by
  unfold iW iy
  rw[if_pos rfl]
  exact h
 unfold dw
 rw[hL]
 rw[if_neg (by decide),if_neg (by decide),if_neg (by decide),if_neg (by decide),if_pos (by decide)]
end Go.Proofs.YtoonnbhoiocoeaaGreatDoor
