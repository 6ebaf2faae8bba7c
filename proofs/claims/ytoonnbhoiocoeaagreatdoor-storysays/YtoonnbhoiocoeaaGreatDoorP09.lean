/-
  Texts cut at blanks, as plain lists: strings.Split and strings.Cut at one blank; what is cut and what is laid together. No program is named.
-/
import Derived.Lib.Split
import Derived.Test.YtoonnbhoiocoeaaGreatDoorP06
import Derived.Test.YtoonnbhoiocoeaaGreatDoorP07
import Derived.Test.YtoonnbhoiocoeaaGreatDoorP08
set_option maxHeartbeats 40000000
set_option maxRecDepth 100000
set_option linter.unusedVariables false
namespace Go.Proofs.YtoonnbhoiocoeaaGreatDoor
open Go.Lib (index splitK count)
def sp:List UInt8->List (List UInt8)
 | []=>[[]]
 |c::r=>if c=32 then []::sp r else(c::(sp r).headD [])::(sp r).tail
theorem KW (l:List UInt8):sp l≠[]:=by
 cases l with
 |nil=>simp[sp]
 |cons c r=>unfold sp;split<;>simp
theorem tj:∀l:List UInt8,(∀c∈l,c≠32)->sp l=[l]
 | [],_=>rfl
 |c::r,h=>by
  rw[sp,if_neg (h c List.mem_cons_self),tj r (fun x hx=>h x (List.mem_cons_of_mem _ hx))]
  rfl
theorem sU:∀(p q:List UInt8),(∀c∈p,c≠32)->sp (p++32::q)=p::sp q
 | [],q,_=>by rw[List.nil_append,sp,if_pos rfl]
 |c::r,q,h=>by
  rw[List.cons_append,sp,if_neg (h c List.mem_cons_self),sU r q (fun x hx=>h x (List.mem_cons_of_mem _ hx))]
  rfl
theorem lV:∀l:List UInt8,(index l [32]=-1/\∀c∈l,c≠32)\/(∃p q,l=p++32::q/\(∀c∈p,c≠32)/\index l [32]=p.length)
 | []=>.inl ⟨rfl,fun c h=>by simp at h⟩
 |c::r=>by
  by_cases hc:c=32
  .subst hc
   exact .inr ⟨[],r,rfl,fun c h=>by simp at h,by simp[index]⟩
  .have hp:([32]:List UInt8).isPrefixOf (c::r)=false:=by simp[List.isPrefixOf,Ne.symm hc]
   rcases lV r with⟨h1,h2⟩| ⟨p,q,rfl,h2,h3⟩
   .left
    refine⟨by rw[index,hp,h1];rfl,fun x hx=>?_⟩
    rcases List.mem_cons.1 hx with rfl|hx
    .exact hc
    .exact h2 x hx
   .right
    refine⟨c::p,q,rfl,fun x hx=>?_,?_⟩
    .rcases List.mem_cons.1 hx with rfl|hx
     .exact hc
     .exact h2 x hx
    .rw[index,hp,h3]
     have:((p.length:Int)==-1)=false:=by simp
     simp[this]
theorem JT:∀(n:Nat) (l:List UInt8),l.length<=n->splitK [32] 0 (count l [32]) l=sp l:=by
 intro n
 induction n with
 |zero=>
  intro l h
  obtain rfl:=List.length_eq_zero_iff.1 (Nat.le_zero.1 h)
  rw[Lib.count_miss rfl]
  rfl
 |succ n ih=>
  intro l h
  rcases lV l with⟨h1,h2⟩| ⟨p,q,rfl,h2,h3⟩
  .rw[Lib.count_miss h1,tj l h2]
   rfl
  .have hd:(p++32::q).drop (p.length+1)=q:=by
    rw[show p.length+1=(p++[32]).length by simp,show p++32::q=(p++[32])++q by simp,List.drop_left]
   rw[Lib.count_hit (by simp) h3,Nat.add_comm 1,splitK,h3,sU p q h2]
   have aF:((p.length:Int)==-1)=false:=by simp
   rw[aF]
   simp only[Bool.false_eq_true,if_false,Int.toNat_natCast,List.length_cons,List.length_nil,Nat.zero_add,Nat.add_zero]
   rw[hd,ih q (by simp at h;omega),List.take_left]
theorem Jq (s:ByteArray):(nt s).map bytes=sp (bytes s):=by
 unfold nt
 have h:=Lib.splitB_data blank 0 (Lib.countB s blank) s
 exact h.trans (JT _ (bytes s) (Nat.le_refl _))
theorem qW (s:ByteArray):jg s=ib (sp (bytes s)):=by
 unfold jg
 rw[Jq]
def ru:List (List UInt8)->List UInt8
 | []=>[]
 |w::r=>w++r.flatMap (fun x=>32::x)
theorem Mu:∀l:List UInt8,ru (sp l)=l
 | []=>rfl
 |c::r=>by
  have ih:=Mu r
  obtain⟨w,ws,hw⟩:=List.exists_cons_of_ne_nil (KW r)
  rw[hw] at ih
  unfold sp
  split
  .rename_i h
   subst h
   rw[hw,ru,List.nil_append,List.flatMap_cons,<-ih]
   simp[ru]
  .rw[hw,<-ih]
   simp[ru]
theorem Mo:∀(ws:List (List UInt8)) (w:List UInt8),(∀x∈w::ws,∀c∈x,c≠32)->sp (ru (w::ws))=w::ws
 | [],w,h=>by
  rw[ru,List.flatMap_nil,List.append_nil]
  exact tj w (h w List.mem_cons_self)
 |x::r,w,h=>by
  have ih:=Mo r x (fun y hy=>h y (List.mem_cons_of_mem _ hy))
  rw[ru] at ih
  rw[ru,List.flatMap_cons,List.cons_append,sU w _ (h w List.mem_cons_self),ih]
end Go.Proofs.YtoonnbhoiocoeaaGreatDoor
namespace Go.Proofs.YtoonnbhoiocoeaaGreatDoor
open Go.Lib (parseUint10 decDigits itoa atoiAll parseMag)
theorem y7 (l m:List UInt8):∀acc v,parseUint10 acc l=.ok v->parseUint10 acc (l++m)=parseUint10 v m:=by
 induction l with
 |nil=>
  intro acc v h
  simp only[parseUint10] at h
  injection h with h
  subst h
  rfl
 |cons c r ih=>
  intro acc v h
  simp only[parseUint10] at h
  simp only[List.cons_append,parseUint10]
  split at h
  .rename_i h1
   rw[if_pos h1]
   split at h
   .cases h
   .rename_i h2
    rw[if_neg h2]
    split at h
    .cases h
    .rename_i h3
     rw[if_neg h3]
     exact ih _ v h
  .cases h
theorem mh {d:Nat}(h:d<10):(UInt8.ofNat (48+d)).toNat=48+d:=by
 rw[UInt8.toNat_ofNat']
 omega
theorem yu (u:Nat)(h:u<18446744073709551616):parseUint10 0 (decDigits u)=.ok u:=by
 induction u using Nat.strongRecOn with
 |_ u ih=>
  rw[decDigits]
  split
  .rename_i h1
   simp only[parseUint10,mh h1]
   rw[if_pos (by omega),if_neg (by omega),if_neg (by omega)]
   simp
  .rename_i h1
   rw[y7 _ _ 0 (u / 10) (ih (u / 10) (by omega) (by omega))]
   simp only[parseUint10,mh (show u % 10<10 by omega)]
   rw[if_pos (by omega),if_neg (by omega),if_neg (by omega)]
   congr 1
   omega
theorem kL (u:Nat):∀c∈decDigits u,48<=c.toNat/\c.toNat<=57:=by
 induction u using Nat.strongRecOn with
 |_ u ih=>
  intro c hc
  rw[decDigits] at hc
  split at hc
  .rename_i h1
   obtain rfl:=List.mem_singleton.1 hc
   rw[mh h1]
   omega
  .rename_i h1
   rcases List.mem_append.1 hc with hc|hc
   .exact ih (u / 10) (by omega) c hc
   .obtain rfl:=List.mem_singleton.1 hc
    rw[mh (show u % 10<10 by omega)]
    omega
theorem Bo (u:Nat):decDigits u≠[]:=by
 rw[decDigits]
 split<;>simp
theorem E8 (n:Int):∀c∈itoa n,c≠32:=by
 intro c hc e
 subst e
 unfold itoa at hc
 split at hc
 .rcases List.mem_cons.1 hc with h|h
  .cases h
  .have:=kL _ _ h
   simp at this
 .have:=kL _ _ hc
  simp at this
theorem Gx (n:Int)(h0:-9223372036854775808<=n)(h1:n<=9223372036854775807):atoiAll (itoa n)=.ok n:=by
 unfold itoa
 split
 .rename_i hn
  have hm:parseMag (decDigits n.natAbs)=.ok n.natAbs:=by
   unfold parseMag
   rw[if_neg (Bo _)]
   exact yu _ (by omega)
  unfold atoiAll
  have YZ:(45:UInt8).toNat=45:=rfl
  simp only[YZ,or_true,if_true,hm,not_true,false_and,if_false,true_and]
  rw[if_neg (by omega)]
  congr 1
  omega
 .rename_i hn
  obtain⟨c,r,QJ⟩:=List.exists_cons_of_ne_nil (Bo n.toNat)
  have hd:=kL n.toNat c (by rw[QJ];exact List.mem_cons_self)
  have hm:parseMag (c::r)=.ok n.toNat:=by
   rw[<-QJ]
   unfold parseMag
   rw[if_neg (Bo _)]
   exact yu _ (by omega)
  rw[QJ]
  unfold atoiAll
  have n1:¬c.toNat=43:=by omega
  have n2:¬c.toNat=45:=by omega
  simp only[n1,n2,or_self,if_false,hm,not_false_eq_true,true_and,false_and]
  rw[if_neg (by omega)]
  congr 1
  omega
theorem yM (n:Int)(h0:-9223372036854775808<=n)(h1:n<=9223372036854775807):dH (itoa n)=some n:=by
 unfold dH
 rw[Gx n h0 h1]
 simp
theorem pY:∀l:List Int,(∀n∈l,-9223372036854775808<=n/\n<=9223372036854775807)->bp (l.map itoa)=some l
 | [],_=>rfl
 |n::r,h=>by
  obtain⟨h0,h1⟩:=h n List.mem_cons_self
  rw[List.map_cons,bp,yM n h0 h1,pY r (fun m hm=>h m (List.mem_cons_of_mem _ hm))]
  rfl
theorem qA:∀(ws:List (List UInt8)) (ns:List Int),bp ws=some ns->ws=ns.map itoa
 | [],ns,h=>by
  simp only[bp,Option.some.injEq] at h
  subst h
  rfl
 |w::r,ns,h=>by
  simp only[bp] at h
  cases hx:dH w with
  |none=>rw[hx] at h;cases h
  |some v=>
   rw[hx] at h
   simp only[Option.bind_some] at h
   cases hr:bp r with
   |none=>rw[hr] at h;cases h
   |some vr=>
    rw[hr] at h
    simp only[Option.map_some,Option.some.injEq] at h
    subst h
    rw[List.map_cons,<-qA r vr hr]
    unfold dH at hx
    split at hx
    .split at hx
     .rename_i h2
      simp only[Option.some.injEq] at hx
      subst hx
      rw[h2]
     .cases hx
    .cases hx
theorem wn (l:List Int):dD l=(l.map itoa).flatMap (fun x=>32::x):=by
 unfold dD
 rw[List.flatMap_map]
end Go.Proofs.YtoonnbhoiocoeaaGreatDoor
namespace Go.Proofs.YtoonnbhoiocoeaaGreatDoor
open Go.Lib (itoa)
theorem JD (l:List UInt8):bytes ⟨l.toArray⟩=l:=by simp[bytes]
theorem vh:∀l:List Nt,fA (eQ l)=l
 | []=>rfl
 |x::r=>by
  have ih:=vh r
  unfold eQ at ih⊢
  rw[List.flatMap_cons]
  simp only[List.cons_append,List.nil_append,fA,ih]
theorem vn:∀(m:Nat) (ns:List Int),ns.length=m*3->eQ (fA ns)=ns
 |0,[],_=>rfl
 |0,_::_,h=>by simp at h
 |m+1,[],h=>by simp at h
 |m+1,[_],h=>by simp at h;omega
 |m+1,[_,_],h=>by simp at h;omega
 |m+1,a::b::c::r,h=>by
  have ih:=vn m r (by simp at h;omega)
  unfold eQ at ih⊢
  rw[fA,List.flatMap_cons,ih]
  rfl
theorem AR (w:List UInt8)(ns:List Int)(hw:∀c∈w,c≠32):sp (w++dD ns)=w::ns.map itoa:=by
 have h:=Mo (ns.map itoa) w (fun x hx=>by
  rcases List.mem_cons.1 hx with rfl|hx
  .exact hw
  .obtain⟨n,_,rfl⟩:=List.mem_map.1 hx
   exact E8 n)
 rw[ru,<-wn] at h
 exact h
theorem m5 (w:List UInt8)(ns:List Int)(hw:∀c∈w,c≠32)(hb:∀n∈ns,-9223372036854775808<=n/\n<=9223372036854775807):
  jg ⟨(w++dD ns).toArray⟩=(if w=gj/\ns.length % 3=0 then some ⟨1,0,0,fA ns⟩ else if w=jv/\ns.length=2 then some ⟨2,ns.getD 0 0,ns.getD 1 0,[]⟩ else if w=ic/\ns.length=2 then some ⟨3,ns.getD 0 0,ns.getD 1 0,[]⟩ else if w=jz/\ns.length=1 then some ⟨4,0,ns.getD 0 0,[]⟩ else none):=by
 rw[qW,JD,AR w ns hw]
 simp only[ib,pY ns hb,Option.bind_some]
theorem x8 {r:Rc}(h:aV r=0):jg ⟨(dh r).toArray⟩=some r/\(dh r).length<=60000:=by
 by_cases h1:r.k=1
 .obtain⟨e1,e2,e3,e4⟩:=uE h h1
  have eT:dh r=gj++dD (eQ r.e):=by unfold dh;rw[if_pos h,if_pos h1]
  have hl:=jD (eQ r.e) (tI e4)
  rw[iI] at hl
  rw[eT]
  refine⟨?_,by rw[List.length_append];have:gj.length=5:=rfl;omega⟩
  rw[m5 gj _ (by decide) (tI e4),if_pos ⟨rfl,by rw[iI];omega⟩,vh]
  obtain⟨k,s,m,l⟩:=r
  simp only at*
  subst h1
  subst e1
  subst e2
  rfl
 .obtain⟨hk,e1,e2,e3,e4,e5,e6⟩:=qm h h1
  obtain⟨k,s,m,l⟩:=r
  simp only at*
  subst e1
  have jt:∀n∈[s,m],-9223372036854775808<=n/\n<=9223372036854775807:=by
   intro n hn
   simp at hn
   omega
  have mX:∀n∈[m],-9223372036854775808<=n/\n<=9223372036854775807:=by
   intro n hn
   simp at hn
   omega
  have l2:=jD [s,m] jt
  have l1:=jD [m] mX
  simp only[List.length_cons,List.length_nil] at l1 l2
  rcases hk with rfl|rfl|rfl
  .have eT:dh ⟨2,s,m,[]⟩=jv++dD [s,m]:=by unfold dh;rw[if_pos h];rfl
   rw[eT]
   refine⟨?_,by rw[List.length_append];have:jv.length=4:=rfl;omega⟩
   rw[m5 jv _ (by decide) jt]
   rfl
  .have eT:dh ⟨3,s,m,[]⟩=ic++dD [s,m]:=by unfold dh;rw[if_pos h];rfl
   rw[eT]
   refine⟨?_,by rw[List.length_append];have:ic.length=5:=rfl;omega⟩
   rw[m5 ic _ (by decide) jt]
   rfl
  .obtain rfl:=e2 rfl
   have eT:dh ⟨4,0,m,[]⟩=jz++dD [m]:=by unfold dh;rw[if_pos h];rfl
   rw[eT]
   refine⟨?_,by rw[List.length_append];have:jz.length=4:=rfl;omega⟩
   rw[m5 jz _ (by decide) mX]
   rfl
theorem Dj {s:ByteArray}{r:Rc}(h:jg s=some r)(h0:aV r=0):dh r=bytes s:=by
 rw[qW] at h
 have hj:=Mu (bytes s)
 obtain⟨w,ws,hw⟩:=List.exists_cons_of_ne_nil (KW (bytes s))
 rw[hw] at h hj
 rw[ru] at hj
 simp only[ib] at h
 cases hr:bp ws with
 |none=>rw[hr] at h;cases h
 |some ns=>
  rw[hr] at h
  simp only[Option.bind_some] at h
  have WL:=qA ws ns hr
  rw[WL,<-wn] at hj
  split at h
  .rename_i hc
   obtain⟨rfl,h3⟩:=hc
   simp only[Option.some.injEq] at h
   subst h
   unfold dh
   rw[if_pos h0,if_pos rfl,vn (ns.length / 3) ns (by omega)]
   exact hj
  .split at h
   .rename_i hc
    obtain⟨rfl,h2⟩:=hc
    match ns,h2 with
    | [a,b],_=>
     simp only[Option.some.injEq] at h
     subst h
     unfold dh
     rw[if_pos h0]
     exact hj
   .split at h
    .rename_i hc
     obtain⟨rfl,h2⟩:=hc
     match ns,h2 with
     | [a,b],_=>
      simp only[Option.some.injEq] at h
      subst h
      unfold dh
      rw[if_pos h0]
      exact hj
    .split at h
     .rename_i hc
      obtain⟨rfl,h2⟩:=hc
      match ns,h2 with
      | [a],_=>
       simp only[Option.some.injEq] at h
       subst h
       unfold dh
       rw[if_pos h0]
       exact hj
     .cases h
end Go.Proofs.YtoonnbhoiocoeaaGreatDoor
namespace Go.Proofs.YtoonnbhoiocoeaaGreatDoor
open Go.Lib (itoa decDigits)
theorem GG (n:Int):∀c∈itoa n,c≠10:=by
 intro c hc he
 subst he
 unfold itoa at hc
 split at hc
 .rcases List.mem_cons.1 hc with h|h
  .exact absurd h (by decide)
  .have:=kL _ _ h
   simp at this
 .have:=kL _ _ hc
  simp at this
theorem D' (l:List Int):∀c∈dD l,c≠10:=by
 intro c hc
 unfold dD at hc
 obtain⟨n,_,hn⟩:=List.mem_flatMap.1 hc
 rcases List.mem_cons.1 hn with h|h
 .subst h;decide
 .exact GG n c h
theorem pf {w:List UInt8}{l:List Int}(hw:w=gj\/w=jv\/w=ic\/w=jz):∀c∈w++dD l,c≠10:=by
 intro c hc
 rcases List.mem_append.1 hc with h|h
 .intro e
  subst e
  rcases hw with rfl|rfl|rfl|rfl<;>exact absurd h (by decide)
 .exact D' l c h
theorem xx (r:Rc):∀c∈dh r,c≠10:=by
 unfold dh
 split
 .split
  .exact pf (.inl rfl)
  .split
   .exact pf (.inr (.inl rfl))
   .split
    .exact pf (.inr (.inr (.inl rfl)))
    .exact pf (.inr (.inr (.inr rfl)))
 .intro c hc;simp at hc
theorem GH {r:Rc}(h:aV r=0):dB (iz (dh r))=r/\hI (iz (dh r))=0:=by
 obtain⟨h1,h2⟩:=x8 h
 have hs:¬60000<(iz (dh r)).size:=by rw[io];omega
 unfold dB hI
 rw[if_neg hs,if_neg hs,show jg (iz (dh r))=some r from h1]
 simp only[h,if_true,and_self]
theorem BF {r:Rc}(h:aV r=0)(q:List UInt8):fJ (dh r++10::q)=0/\kt (dh r++10::q)=r/\ge (dh r++10::q)=q:=by
 obtain⟨h1,h2,h3⟩:=Rn (q:=q) (xx r)
 obtain⟨p1,p2⟩:=GH h
 unfold fJ kt ge
 rw[if_pos h1,if_pos h1,if_pos h1,h2,h3]
 exact⟨p2,p1,rfl⟩
def bK (l:List Rc):List UInt8:=l.flatMap (fun r=>dh r++[10])
theorem kb (r:Rc)(l:List Rc)(q:List UInt8):bK (r::l)++q=dh r++10::(bK l++q):=by
 unfold bK
 rw[List.flatMap_cons]
 simp
theorem jN (l m:List Rc):bK (l++m)=bK l++bK m:=by
 unfold bK
 exact List.flatMap_append
theorem AH (r:Rc):bK [r]=dh r++[10]:=by
 unfold bK
 simp
theorem uq:∀(l:List Rc) (k:Nat) (q:List UInt8),(∀r∈l,aV r=0)->k+l.length<=60->scan k (bK l++q)=(l++(scan (k+l.length) q).1,(scan (k+l.length) q).2)
 | [],k,q,_,_=>rfl
 |r::l,k,q,h,hk=>by
  obtain⟨h1,h2,h3⟩:=BF (h r List.mem_cons_self) (bK l++q)
  simp only[List.length_cons] at hk
  rw[kb,ki (by simp) h1 (by omega),h2,h3,uq l (k+1) q (fun x hx=>h x (List.mem_cons_of_mem _ hx)) (by omega)]
  simp only[List.length_cons]
  rw[show k+1+l.length=k+(l.length+1) by omega]
  rfl
theorem mw (l:List Rc)(h:∀r∈l,aV r=0)(hk:l.length<=60):scan 0 (bK l)=(l,0):=by
 have:=uq l 0 [] h (by omega)
 rw[List.append_nil,iT,List.append_nil] at this
 exact this
end Go.Proofs.YtoonnbhoiocoeaaGreatDoor
namespace Go.Proofs.YtoonnbhoiocoeaaGreatDoor
theorem JM {l:List UInt8}(h:∀c∈l,c≠10):fJ l=8:=by
 rcases jG l with⟨h1,_⟩| ⟨_,h2,_⟩
 .unfold fJ
  rw[h1]
  rfl
 .exact absurd rfl (h 10 (by rw[h2];simp))
theorem Am:∀(l:List Rc) (k n:Nat),(∀r∈l,aV r=0)->k+l.length<=60->
  ∃m q,m<=l.length/\tail k ((bK l).take n)=(l.take m,q)/\(bK l).take n=bK (l.take m)++q
 | [],k,n,_,_=>by
  refine⟨0,[],Nat.le_refl _,?_,?_⟩
  .have e:(bK []).take n=[]:=by simp[bK]
   rw[e,dL (by rw[oy];simp)]
   rfl
  .simp[bK]
 |r::l,k,n,h,hk=>by
  have e:=kb r l []
  rw[List.append_nil,List.append_nil] at e
  rw[e]
  simp only[List.length_cons] at hk
  by_cases hn:n<=(dh r).length
  .refine⟨0,(dh r).take n,Nat.zero_le _,?_,?_⟩
   .rw[List.take_append_of_le_length hn]
    rw[dL (by rw[JM (fun c hc=>xx r c (List.mem_of_mem_take hc))];simp)]
    rfl
   .rw[List.take_append_of_le_length hn]
    rfl
  .obtain⟨j,rfl⟩:∃j,n=(dh r).length+(j+1):=⟨n-(dh r).length-1,by omega⟩
   obtain⟨m,q,hm,h1,h2⟩:=Am l (k+1) j (fun x hx=>h x (List.mem_cons_of_mem _ hx)) (by omega)
   obtain⟨g1,g2,g3⟩:=BF (h r List.mem_cons_self) ((bK l).take j)
   refine⟨m+1,q,by simp only[List.length_cons];omega,?_,?_⟩
   .rw[List.take_length_add_append,List.take_succ_cons,ke ⟨by omega,g1⟩,g2,g3,h1]
    rfl
   .rw[List.take_length_add_append,List.take_succ_cons,List.take_succ_cons,kb,h2]
theorem qk (k:Nat):tail k []=([],[]):=dL (by rw[oy];simp)
theorem z' (a b:List Rc)(n:Nat)(ha:∀r∈a,aV r=0)(hb:∀r∈b,aV r=0)(hl:a.length+b.length<=60)(hs:(bK a).length+(bK b).length<=60000):
  cT ⟨bK a,(bK b).take n⟩=0/\∃m,m<=b.length/\ax ⟨bK a,(bK b).take n⟩=a++b.take m/\gu ⟨bK a,(bK b).take n⟩=⟨bK (a++b.take m),[]⟩/\
   cT ⟨bK (a++b.take m),[]⟩=0/\ax ⟨bK (a++b.take m),[]⟩=a++b.take m/\gu ⟨bK (a++b.take m),[]⟩=⟨bK (a++b.take m),[]⟩:=by
 obtain⟨m,q,hm,h1,h2⟩:=Am b a.length n hb (by omega)
 have aw:((bK b).take n).length<=(bK b).length:=by rw[List.length_take];omega
 have sa:=mw a ha (by omega)
 have e0:cT ⟨bK a,(bK b).take n⟩=0:=by
  unfold cT
  rw[if_neg (by simp only;omega),sa]
 have l0:iN ⟨bK a,(bK b).take n⟩=a:=by
  unfold iN
  rw[if_pos e0,sa]
 have hq:=congrArg List.length h2
 rw[List.length_append] at hq
 have hk:kept ⟨bK a,(bK b).take n⟩=bK (b.take m):=by
  unfold kept
  rw[l0]
  simp only
  rw[h1]
  simp only
  rw[hq,Nat.add_sub_cancel,h2,List.take_left]
 have Ve:∀r∈a++b.take m,aV r=0:=fun r hr=>(List.mem_append.1 hr).elim (ha r) (fun h=>hb r (List.mem_of_mem_take h))
 have N8:(b.take m).length<=b.length:=by rw[List.length_take];omega
 have sb:=mw (a++b.take m) Ve (by rw[List.length_append];omega)
 have e1:cT ⟨bK (a++b.take m),[]⟩=0:=by
  unfold cT
  rw[if_neg (by simp only[jN,List.length_append,List.length_nil];omega),sb]
 have l1:iN ⟨bK (a++b.take m),[]⟩=a++b.take m:=by
  unfold iN
  rw[if_pos e1,sb]
 refine⟨e0,m,hm,?_,?_,e1,?_,?_⟩
 .unfold ax
  rw[if_pos e0,l0]
  simp only
  rw[h1]
 .unfold gu
  rw[if_pos e0,hk,jN]
 .unfold ax
  rw[if_pos e1,l1]
  simp only
  rw[qk,List.append_nil]
 .unfold gu kept
  rw[if_pos e1]
  simp
theorem oD {d:Dk}{r:Rc}(h:fq d r=0):cT d=0/\aV r=0/\dj d r=⟨d.safe,d.wait++(dh r++[10])⟩/\cT (dj d r)=0:=by
 have hd:dj d r=⟨d.safe,d.wait++(dh r++[10])⟩:=if_pos h
 unfold fq at h
 split at h
 .contradiction
 .rename_i h0
  have Fi:cT d=0:=Decidable.not_not.1 h0
  split at h
  .contradiction
  .rename_i h1
   split at h
   .cases h
   .rename_i h2
    refine⟨Fi,Decidable.not_not.1 h1,hd,?_⟩
    rw[hd]
    unfold cT at Fi⊢
    split at Fi
    .cases Fi
    .rw[if_neg (by simp only[List.length_append,List.length_cons,List.length_nil];omega)]
     exact Fi
end Go.Proofs.YtoonnbhoiocoeaaGreatDoor
namespace Go.Proofs.YtoonnbhoiocoeaaGreatDoor
theorem Ei {r:Rc}(h:aV r=0):(dh r).length<=665:=by
 by_cases h1:r.k=1
 .obtain⟨_,_,e3,e4⟩:=uE h h1
  have eT:dh r=gj++dD (eQ r.e):=by unfold dh;rw[if_pos h,if_pos h1]
  have hl:=jD (eQ r.e) (tI e4)
  rw[iI] at hl
  rw[eT,List.length_append]
  have:gj.length=5:=rfl
  omega
 .obtain⟨hk,_,_,e3,e4,e5,e6⟩:=qm h h1
  have jt:∀n∈[r.s,r.n],-9223372036854775808<=n/\n<=9223372036854775807:=by
   intro n hn
   simp at hn
   omega
  have mX:∀n∈[r.n],-9223372036854775808<=n/\n<=9223372036854775807:=by
   intro n hn
   simp at hn
   omega
  have l2:=jD [r.s,r.n] jt
  have l1:=jD [r.n] mX
  simp only[List.length_cons,List.length_nil] at l1 l2
  unfold dh
  rw[if_pos h,if_neg h1]
  have w1:jv.length=4:=rfl
  have w2:ic.length=5:=rfl
  have w3:jz.length=4:=rfl
  split
  .rw[List.length_append];omega
  .split
   .rw[List.length_append];omega
   .rw[List.length_append];omega
theorem vt:∀l:List Rc,(∀r∈l,aV r=0)->(bK l).length<=l.length*666
 | [],_=>by simp[bK]
 |r::l,h=>by
  have e:=kb r l []
  rw[List.append_nil,List.append_nil] at e
  have h1:=Ei (h r List.mem_cons_self)
  have h2:=vt l (fun x hx=>h x (List.mem_cons_of_mem _ hx))
  rw[e,List.length_append,List.length_cons,List.length_cons]
  omega
def ja (l:List Rc):Dk:=⟨bK l,[]⟩
theorem DF {l:List Rc}(h:∀r∈l,aV r=0)(kw:l.length<=60):cT (ja l)=0:=by
 have hs:=vt l h
 unfold cT ja
 rw[if_neg (by simp only[List.length_nil];omega),mw l h kw]
theorem Pf {l:List Rc}(h:∀r∈l,aV r=0)(kw:l.length<=60):ax (ja l)=l:=by
 have d0:=DF h kw
 unfold ax iN
 rw[if_pos d0,if_pos d0]
 unfold ja
 simp only
 rw[mw l h kw]
 simp only
 rw[qk,List.append_nil]
theorem uQ {R:List Rc}(h:(aG dg R).2=0)(k:Nat):(aG dg (R.take k)).2=0:=by
 by_cases hz:(aG dg (R.take k)).2=0
 .exact hz
 .have e:aG dg R=aG dg (R.take k++R.drop k):=by rw[List.take_append_drop]
  rw[e,jr,if_neg hz] at h
  exact absurd h hz
theorem ww {R:List Rc}(h:(aG dg R).2=0){k:Nat}{x:Rc}(hx:R[k]? =some x):
  cd (aG dg (R.take k)).1 x=0/\aG dg (R.take (k+1))=(dW (aG dg (R.take k)).1 x,0):=by
 have h1:=uQ h k
 have h2:=uQ h (k+1)
 have e:R.take (k+1)=R.take k++[x]:=by rw[List.take_add_one,hx];rfl
 have s:=nQ (R.take k) x dg h1
 rw[<-e] at s
 by_cases hz:cd (aG dg (R.take k)).1 x=0
 .rw[if_pos hz] at s
  exact⟨hz,s⟩
 .rw[if_neg hz] at s
  rw[s] at h2
  exact absurd h2 hz
end Go.Proofs.YtoonnbhoiocoeaaGreatDoor
namespace Go.Proofs.YtoonnbhoiocoeaaGreatDoor
structure Wd where
 c:List Rw
 d:Dk
 up:Bool
 rd:List Int
structure Hp where
 k:Int
 s:Int
 n:Int
 e:List Nt
def NS:Wd:=⟨[],pZ,false,[]⟩
def iw:List Int:=[-1,-1,-1]
def f7:Wd:=⟨dg,pZ,true,iw⟩
def iv (w:Wd):List Rc:=if w.up=true then ax w.d else []
def fd (up:Bool)(n:Nat)(v:Int):Bool:=decide (-1<=v/\v<=n)&&(up||decide (v<0))
def cu (w:Wd):Int:=
 if cT w.d≠0 then cT w.d
 else if w.up=true/\w.d.wait≠[] then 4
 else if bP (iv w)≠0 then bP (iv w)
 else if¬(bv w.c (aZ (iv w))=true/\w.rd.length=3) then 4
 else if w.rd.all (fd w.up (iv w).length)=true then 0 else 3
def aO (x:Hp):Rc:=if x.k=2 then⟨2,x.s,x.n,[]⟩ else if x.k=3 then⟨3,x.s,x.n,[]⟩ else if x.k=4 then⟨4,0,x.n,[]⟩ else⟨1,0,0,x.e⟩
def ci (w:Wd)(x:Hp):Int:=
 if¬(1<=x.k/\x.k<=9) then 4
 else if w.up≠decide (x.k≠8) then 7
 else if x.k=5\/x.k=6 then(if 0<=x.n/\x.n<=2 then 0 else 5)
 else if x.k=7 then 0
 else if x.k=8 then bP (ax w.d)
 else if cd w.c (aO x)≠0 then cd w.c (aO x)
 else if fq w.d (aO x)≠0 then fq w.d (aO x)
 else if x.k=9 then 0 else jX (dj w.d (aO x))
def dr (w:Wd)(x:Hp):Wd:=
 if ci w x≠0 then NS
 else if x.k=5 then⟨w.c,w.d,w.up,w.rd.set x.n.toNat (ax w.d).length⟩
 else if x.k=6 then⟨w.c,w.d,w.up,w.rd.set x.n.toNat (-1)⟩
 else if x.k=7 then⟨dg,w.d,false,iw⟩
 else if x.k=8 then⟨aZ (ax w.d),gu w.d,true,w.rd⟩
 else if x.k=9 then⟨dg,⟨w.d.safe,(dj w.d (aO x)).wait.take x.n.toNat⟩,false,iw⟩
 else⟨dW w.c (aO x),lu (dj w.d (aO x)),w.up,w.rd⟩
def ez:Wd->List Hp->Wd × List Int
 |w,[]=>(w,[])
 |w,x::l=>if ci w x=0 then((ez (dr w x) l).1,0::(ez (dr w x) l).2) else((ez w l).1,ci w x::(ez w l).2)
theorem sw (w:Wd)(x:Hp)(l:List Hp):ez w (x::l)=if ci w x=0 then((ez (dr w x) l).1,0::(ez (dr w x) l).2) else((ez w l).1,ci w x::(ez w l).2):=rfl
theorem oO:∀(a b:List Hp) (w:Wd),ez w (a++b)=((ez (ez w a).1 b).1,(ez w a).2++(ez (ez w a).1 b).2)
 | [],b,w=>by simp[ez]
 |x::a,b,w=>by
  rw[List.cons_append,sw,sw]
  split
  .rw[oO a b]
   rfl
  .rw[oO a b]
   rfl
theorem we:cu f7=0:=by
 have h:ax pZ=[]:=rfl
 have hL:iv f7=[]:=by
  unfold iv f7
  rw[if_pos rfl]
  exact h
 unfold cu
 rw[hL]
 rw[if_neg (by decide),if_neg (by decide),if_neg (by decide),if_neg (by decide),if_pos (by decide)]
end Go.Proofs.YtoonnbhoiocoeaaGreatDoor
