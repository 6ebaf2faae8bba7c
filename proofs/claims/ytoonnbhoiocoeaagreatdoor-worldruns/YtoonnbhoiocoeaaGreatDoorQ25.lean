/-
  slices.Equal, at bools: it returns whether the two lists are the same; it only reads.
-/
import Derived.Test.YtoonnbhoiocoeaaGreatDoorQ24
set_option maxHeartbeats 40000000
set_option maxRecDepth 100000
set_option linter.unusedVariables false
namespace Go.Proofs.YtoonnbhoiocoeaaGreatDoor
open Go.RowKit
theorem y6 (a1 a2:Option Addr)(c1 c2:Nat)(l m:List Bool)(w:World)(r1:Row w a1 (l.map Value.bool))(r2:Row w a2 (m.map Value.bool))(hl:l.length<=4611686018427387904)(hm:m.length<=4611686018427387904):
  Calls Tryz.prog 110 #[.slice a1 l.length c1,.slice a2 m.length c2] w fun e w'=>e=.returned (.bool (decide (l=m)))/\∃q,w'=w.drewN q:=by
 by_cases je:l.length=m.length
 .generalize hn:l.length=n at*
  have ik:=je.symm
  rw[ik] at hm⊢
  by_cases h0:n=0
  .subst h0
   obtain rfl:=List.eq_nil_of_length_eq_zero hn
   obtain rfl:=List.eq_nil_of_length_eq_zero ik
   clear hn ik je hl hm r1 r2
   go_enter Tryz.func110,Tryz.ntmps110
   go_wp2
   refine wp_loop_rounds 1 ?_
   rw[rounds_succ]
   go_wp2
   go_ret
   exact⟨rfl,0,rfl⟩
  obtain⟨b1,o1,rfl,-,k1⟩:=r1.at (by intro h;simp at h;subst h;simp at hn;omega)
  obtain⟨b2,o2,rfl,-,k2⟩:=r2.at (by intro h;simp at h;subst h;simp at ik;omega)
  have g1:=fun k hk=>CD k1 k hk
  have g2:=fun k hk=>CD k2 k hk
  clear k1 k2 r1 r2
  have HL:Hid (l.length=n):=hn
  have HM:Hid (m.length=n):=ik
  clear hn ik je
  go_enter Tryz.func110,Tryz.ntmps110
  go_wp2
  go_loopg [13] n (fun g Ib wr=>∃k q:Nat,k<=n/\n-k<=g/\Ib=.int .i64 k/\wr=w.drewN q/\Hid (∀j,j<k->l.getD j false=m.getD j false))
  case atStart=>exact⟨0,0,Nat.zero_le _,by omega,rfl,rfl,fun j hj=>absurd hj (Nat.not_lt_zero _)⟩
  case round=>
   obtain⟨k,q,hk,hg,rfl,rfl,A⟩:=hrel
   by_cases aE:k<n
   .have e1:=g1 k (by rw[HL.out];exact aE)
    have e2:=g2 k (by rw[HM.out];exact aE)
    clear g1 g2
    generalize hx:l.getD k false=x at e1
    generalize hy:m.getD k false=y at e2
    have B:Hid (l.getD k false=x/\m.getD k false=y):=⟨hx,hy⟩
    clear hx hy
    cases qi:(x==y) with
    |true=>
     obtain rfl:x=y:=by simpa using qi
     clear qi
     go_wp2_with fail
     go_region
     all_goals go_wp2
     all_goals go_roundg (n-(k+1))
     case measure=>omega
     case rel=>
      refine⟨k+1,q+1,by omega,by omega,by go_num,rfl,(show Hid _ from fun j hj=>?_)⟩
      by_cases e:j=k
      .subst e
       rw[B.out.1,B.out.2]
      .exact A.out j (by omega)
    |false=>
     go_wp2_with fail
     go_region
     all_goals go_wp2
     all_goals go_ret
     refine⟨?_,q+1,rfl⟩
     have aF:l≠m:=CZ (d:=false) (k:=k) (by rw[B.out.1,B.out.2];simpa using qi)
     simp[aF]
   have:k=n:=by omega
   subst this
   clear g1 g2
   go_wp2
   go_ret
   refine⟨?_,q,rfl⟩
   have he:l=m:=DM (d:=false) (HL.out.trans HM.out.symm) (fun j hj=>A.out j (by rw[<-HL.out];exact hj))
   simp[he]
 have JX:¬(l.length:Int)=(m.length:Int):=by omega
 have aF:l≠m:=fun e=>je (by rw[e])
 clear r1 r2
 have H:Hid (l≠m):=aF
 clear aF
 generalize l.length=x at*
 generalize m.length=y at*
 go_enter Tryz.func110,Tryz.ntmps110
 go_wp2
 go_ret
 refine⟨?_,0,rfl⟩
 simp[H.out]
theorem LG (a b:Bk)(ao bo:Option Addr)(ca cb:Nat)(w:World)(ha:Sl w ao ca (a.bits.map Value.bool))(hb:Sl w bo cb (b.bits.map Value.bool))(la:a.bits.length<=140737488355328)(lb:b.bits.length<=140737488355328):
  Calls Tryz.prog 114 #[ej a ao ca,ej b bo cb] w fun e w'=>e=.returned (.bool (mJ a b))/\Below w.heap.size w w':=by
 obtain⟨an,af,aT,X⟩:=a
 obtain⟨bn,bf,bT,Y⟩:=b
 unfold ej mJ
 simp only at*
 have c1:=fun W h k=>y6 ao bo ca cb X Y W h k (by omega) (by omega)
 generalize decide (X=Y)=D at*
 clear la lb
 have sa:=fun o1 o2=>(ha.alloc o1).alloc o2
 have sb:=fun o1 o2=>(hb.alloc o1).alloc o2
 by_cases h1:an=bn
 .subst h1
  by_cases h2:af=bf
  .subst h2
   by_cases h3:aT=bT
   .subst h3
    go_enter Tryz.func114,Tryz.ntmps114
    go_wp2_with fail
    go_at_call 110
    refine(c1 _ (sa _ _).row (sb _ _).row).mono ?_
    rintro e w1 ⟨rfl,q,rfl⟩
    go_wp2_with fail
    go_ret
    exact⟨by simp,bt (dN w _ _) q⟩
   go_enter Tryz.func114,Tryz.ntmps114
   go_wp2_with fail
   go_ret
   exact⟨by simp[h3],dN w _ _⟩
  go_enter Tryz.func114,Tryz.ntmps114
  go_wp2_with fail
  go_ret
  exact⟨by simp[h2],dN w _ _⟩
 go_enter Tryz.func114,Tryz.ntmps114
 go_wp2_with fail
 go_ret
 exact⟨by simp[h1],dN w _ _⟩
theorem UL {p:Prop}(h:p):Hid p:=h
theorem yD (a1 a2:Option Addr)(c1 c2:Nat)(l m:List Pt)(w:World)(r1:aV w a1 c1 l)(r2:aV w a2 c2 m)(hl:l.length<=4611686018427387904)(hm:m.length<=4611686018427387904):
  Calls Tryz.prog 21 #[.slice a1 l.length c1,.slice a2 m.length c2] w fun e w'=>e=.returned (.bool (decide (l=m)))/\∃q,w'=w.drewN q:=by
 by_cases je:l.length=m.length
 .generalize hn:l.length=n at*
  have ik:=je.symm
  rw[ik] at hm⊢
  by_cases h0:n=0
  .subst h0
   obtain rfl:=List.eq_nil_of_length_eq_zero hn
   obtain rfl:=List.eq_nil_of_length_eq_zero ik
   clear hn ik je hl hm r1 r2
   go_enter Tryz.func21,Tryz.ntmps21
   go_wp2
   refine wp_loop_rounds 1 ?_
   rw[rounds_succ]
   go_wp2
   go_ret
   exact⟨rfl,0,rfl⟩
  obtain⟨b1,o1,rfl,-⟩:=r1.where (by intro h;subst h;simp at hn;omega)
  obtain⟨b2,o2,rfl,-⟩:=r2.where (by intro h;subst h;simp at ik;omega)
  have g1:=fun k hk=>r1.pt k hk
  have g2:=fun k hk=>r2.pt k hk
  clear r1 r2
  have HL:Hid (l.length=n):=hn
  have HM:Hid (m.length=n):=ik
  clear hn ik je
  go_enter Tryz.func21,Tryz.ntmps21
  go_wp2
  go_loopg [13] n (fun g Ib wr=>∃k q:Nat,k<=n/\n-k<=g/\Ib=.int .i64 k/\wr=w.drewN q/\Hid (∀j:Nat,j<k->l[j]? =m[j]?))
  case atStart=>exact⟨0,0,Nat.zero_le _,by omega,rfl,rfl,fun j hj=>absurd hj (Nat.not_lt_zero _)⟩
  case round=>
   obtain⟨k,q,hk,hg,rfl,rfl,A⟩:=hrel
   by_cases aE:k<n
   .obtain⟨x,y,e1,e2,hx,-⟩:=g1 k (by rw[HL.out];exact aE)
    obtain⟨x',y',e3,e4,hy,-⟩:=g2 k (by rw[HM.out];exact aE)
    clear g1 g2
    have B:Hid (l[k]? =some (x,y)/\m[k]? =some (x',y')):=⟨hx,hy⟩
    clear hx hy
    by_cases qi:x=x'/\y=y'
    .obtain⟨rfl,rfl⟩:=qi
     go_wp2_with fail
     go_region
     all_goals go_wp2
     all_goals go_roundg (n-(k+1))
     case measure=>omega
     case rel=>
      refine⟨k+1,q+1,by omega,by omega,by go_num,rfl,(show Hid _ from fun j hj=>?_)⟩
      by_cases e:j=k
      .subst e
       rw[B.out.1,B.out.2]
      exact A.out j (by omega)
    have aF:l≠m:=fun h=>qi (by have h2:=B.out.2;rw[<-h,B.out.1] at h2;simpa using h2)
    have HN:=UL aF
    clear aF
    by_cases hx:x=x'
    .subst hx
     have hy:¬y=y':=fun h=>qi ⟨rfl,h⟩
     clear qi
     go_wp2_with fail
     go_region
     all_goals go_wp2
     all_goals go_ret
     refine⟨?_,q+1,rfl⟩
     simp[HN.out]
    clear qi
    go_wp2_with fail
    go_region
    all_goals go_wp2
    all_goals go_ret
    refine⟨?_,q+1,rfl⟩
    simp[HN.out]
   have:k=n:=by omega
   subst this
   clear g1 g2
   go_wp2
   go_ret
   refine⟨?_,q,rfl⟩
   have he:l=m:=by
    apply List.ext_getElem?
    intro i
    by_cases hi:i<k
    .exact A.out i hi
    rw[List.getElem?_eq_none (by rw[HL.out];omega),List.getElem?_eq_none (by rw[HM.out];omega)]
   simp[he]
 have JX:¬(l.length:Int)=(m.length:Int):=by omega
 have aF:l≠m:=fun e=>je (by rw[e])
 clear r1 r2
 have H:Hid (l≠m):=aF
 clear aF
 generalize l.length=x at*
 generalize m.length=y at*
 go_enter Tryz.func21,Tryz.ntmps21
 go_wp2
 go_ret
 refine⟨?_,0,rfl⟩
 simp[H.out]
theorem uv:∀l m,ef l m=true->l.length=m.length
 | [],[],_=>rfl
 |x::r,y::s,h=>by
  rw[ef,Bool.and_eq_true] at h
  rw[List.length_cons,List.length_cons,uv r s h.2]
 | [],y::s,h=>by cases h
 |x::r,[],h=>by cases h
theorem KA (l m:List Lb)(a1 a2:Option Addr)(c1 c2:Nat)(w:World)(h1:pB w a1 c1 l)(h2:pB w a2 c2 m)(hl:l.length<=140737488355328):
  Calls Tryz.prog 77 #[.slice a1 l.length c1,.slice a2 m.length c2,.func (.func 114) #[] #[]] w fun e w'=>e=.returned (.bool (ef (l.map Lb.b) (m.map Lb.b)))/\Below w.heap.size w w':=by
 by_cases aF:l.length=m.length
 .obtain⟨D,hD⟩:∃D,D=ef (l.map Lb.b) (m.map Lb.b):=⟨_,rfl⟩
  rw[<-hD]
  have H0:Hid (D=ef ((l.drop 0).map Lb.b) ((m.drop 0).map Lb.b)):=by rw[List.drop_zero,List.drop_zero];exact hD
  clear hD
  rw[<-aF]
  obtain⟨n,hn⟩:∃n,n=l.length:=⟨_,rfl⟩
  rw[<-hn] at aF hl⊢
  replace hn:=aa hn
  replace aF:=aa aF
  have cq:=Below.refl w.heap.size w
  go_enter Tryz.func77,Tryz.ntmps77
  go_wp2_with fail
  go_loopw [17] (fun i wr=>∃(k:Nat),k<=n/\i=.int .i64 k/\Hid (D=ef ((l.drop k).map Lb.b) ((m.drop k).map Lb.b))/\Below w.heap.size w wr) (fun i _=>n-(intOf i).toNat)
  case atStart=>exact⟨0,by omega,rfl,H0,cq⟩
  case round=>
   clear H0 cq
   obtain⟨k,hk,rfl,H0,bel⟩:=hrel
   by_cases aE:k<n
   .have dZ:=h1.keep bel (Nat.le_refl _)
    have ij:=h2.keep bel (Nat.le_refl _)
    obtain⟨b1,o1,rfl,m7⟩:=dZ.where (by intro e;rw[hn.out,e] at aE;simp at aE)
    obtain⟨b2,o2,rfl,jJ⟩:=ij.where (by intro e;rw[aF.out,e] at aE;simp at aE)
    obtain⟨x,hx⟩:∃x,l[k]? =some x:=⟨_,List.getElem?_eq_getElem (by rw[<-hn.out];exact aE)⟩
    obtain⟨y,hy⟩:∃y,m[k]? =some y:=⟨_,List.getElem?_eq_getElem (by rw[<-aF.out];exact aE)⟩
    obtain⟨e0,e1,e2,e3,gx⟩:=dZ.at k x hx
    obtain⟨f0,f1,f2,f3,gy⟩:=ij.at k y hy
    have rM:l.drop k=x::l.drop (k+1):=by
     obtain⟨fC,rfl⟩:=List.getElem?_eq_some_iff.1 hx
     exact List.drop_eq_getElem_cons fC
    have tM:m.drop k=y::m.drop (k+1):=by
     obtain⟨fC,rfl⟩:=List.getElem?_eq_some_iff.1 hy
     exact List.drop_eq_getElem_cons fC
    have aJ:=H0.out
    rw[rM,tM,List.map_cons,List.map_cons,ef] at aJ
    have c1:=fun W (h:x.Good W) (k:y.Good W)=>LG x.b y.b x.a y.a x.c y.c W h.bits k.bits h.few k.few
    unfold ej at c1
    clear H0 rM tM hx hy dZ ij
    have sx:=fun o1 o2=>(gx.alloc o1).alloc o2
    have sy:=fun o1 o2=>(gy.alloc o1).alloc o2
    cases hS:mJ x.b y.b with
    |true=>
     rw[hS,Bool.true_and] at aJ
     rw[hS] at c1
     replace aJ:=aa aJ
     clear hS
     go_wp2_with fail
     go_at_call 114
     refine(c1 _ (sx _ _) (sy _ _)).mono ?_
     rintro e w2 ⟨rfl,b2⟩
     have am:=ac (ax (ax bel _) _) b2
     go_wp2_with fail
     go_roundw
     case rel=>exact⟨k+1,by omega,by go_num,aJ,am⟩
     case measure=>simp[intOf];omega
    |false=>
     rw[hS,Bool.false_and] at aJ
     rw[hS] at c1
     replace aJ:=aa aJ
     clear hS
     go_wp2_with fail
     go_at_call 114
     refine(c1 _ (sx _ _) (sy _ _)).mono ?_
     rintro e w2 ⟨rfl,b2⟩
     have am:=ac (ax (ax bel _) _) b2
     go_wp2_with fail
     go_ret
     exact⟨by rw[aJ.out];rfl,am⟩
   obtain rfl:k=n:=by omega
   have aJ:=H0.out
   rw[List.drop_eq_nil_of_le (by rw[hn.out];exact Nat.le_refl _),List.drop_eq_nil_of_le (by rw[aF.out];exact Nat.le_refl _)] at aJ
   replace aJ:=aa aJ
   clear H0
   go_wp2_with fail
   go_ret
   exact⟨by rw[aJ.out];rfl,bel⟩
 have hS:ef (l.map Lb.b) (m.map Lb.b)=false:=by
  cases hS:ef (l.map Lb.b) (m.map Lb.b) with
  |false=>rfl
  |true=>
   have:=uv _ _ hS
   rw[List.length_map,List.length_map] at this
   exact absurd this aF
 rw[hS]
 have xy:¬(l.length:Int)=m.length:=by omega
 generalize l.length=n1 at*
 generalize m.length=n2 at*
 clear hS h1 h2
 go_enter Tryz.func77,Tryz.ntmps77
 go_wp2_with fail
 go_ret
 exact⟨rfl,Below.refl _ _⟩
theorem Kf (r q:Lr)(w:World)(hr:r.Good w)(hq:q.Good w):
  Calls Tryz.prog 84 #[r.v,q.v] w fun e w'=>e=.returned (.bool (ke r.rw q.rw))/\Below w.heap.size w w':=by
 have c1:=fun W h k=>KA r.bs q.bs r.ba q.ba r.bc q.bc W h k hr.few
 have f1:=hr.hfew
 have f2:=hq.hfew
 have c2:=fun W h k=>yD r.ha q.ha r.hc q.hc r.hd q.hd W h k (by omega) (by omega)
 have s1:=fun o1 o2=>(hr.bs.alloc o1).alloc o2
 have s2:=fun o1 o2=>(hq.bs.alloc o1).alloc o2
 have t1:=fun o1 o2=>(hr.hd.alloc o1).alloc o2
 have t2:=fun o1 o2=>(hq.hd.alloc o1).alloc o2
 obtain⟨bs,ba,bc,hd,ha,hc⟩:=r
 obtain⟨ds,da,dc,gd,ga,gc⟩:=q
 unfold Lr.v ke Lr.rw
 simp only at*
 clear hr hq f1 f2
 cases hS:ef (bs.map Lb.b) (ds.map Lb.b) with
 |true=>
  rw[hS] at c1
  rw[Bool.true_and]
  generalize decide (hd=gd)=D at*
  clear hS
  generalize bs.length=n1 at*
  generalize ds.length=n2 at*
  generalize hd.length=n3 at*
  generalize gd.length=n4 at*
  go_enter Tryz.func84,Tryz.ntmps84
  go_wp2_with fail
  have B0:=(ag.laid w [.slice ba n1 bc,.slice ha n3 hc] 53 _ rfl).alc (.cells #[.slice da n2 dc,.slice ga n4 gc] 53)
  have B1:=ag.laid (w.alloc (.cells #[.slice ba n1 bc,.slice ha n3 hc] 53)) [.slice da n2 dc,.slice ga n4 gc] 53 (w.heap.size+1) (by simp)
  have bel:=dN w (.cells #[.slice ba n1 bc,.slice ha n3 hc] 53) (.cells #[.slice da n2 dc,.slice ga n4 gc] 53)
  replace s1:=s1 (.cells #[.slice ba n1 bc,.slice ha n3 hc] 53) (.cells #[.slice da n2 dc,.slice ga n4 gc] 53)
  replace s2:=s2 (.cells #[.slice ba n1 bc,.slice ha n3 hc] 53) (.cells #[.slice da n2 dc,.slice ga n4 gc] 53)
  replace t1:=t1 (.cells #[.slice ba n1 bc,.slice ha n3 hc] 53) (.cells #[.slice da n2 dc,.slice ga n4 gc] 53)
  replace t2:=t2 (.cells #[.slice ba n1 bc,.slice ha n3 hc] 53) (.cells #[.slice da n2 dc,.slice ga n4 gc] 53)
  generalize(w.alloc _).alloc _=w1 at*
  go_at_call 77
  refine(c1 _ s1 s2).mono ?_
  rintro e w2 ⟨rfl,b2⟩
  replace B0:=B0.keep b2 B0.lt
  replace B1:=B1.keep b2 B1.lt
  replace bel:=ac bel b2
  replace t1:=t1.call b2
  replace t2:=t2.call b2
  clear b2 s1 s2 c1
  have d0:w2.cell? ⟨w.heap.size,1,none⟩=some (.slice ha n3 hc):=B0.cell 1
  have d1:w2.cell? ⟨w.heap.size+1,1,none⟩=some (.slice ga n4 gc):=B1.cell 1
  go_wp2_with fail
  go_at_call 21
  refine(c2 _ t1 t2).mono ?_
  rintro e w3 ⟨rfl,q,rfl⟩
  go_wp2_with fail
  go_ret
  exact⟨rfl,bt bel _⟩
 |false=>
  rw[hS] at c1
  rw[Bool.false_and]
  clear hS c2
  generalize bs.length=n1 at*
  generalize ds.length=n2 at*
  generalize hd.length=n3 at*
  generalize gd.length=n4 at*
  go_enter Tryz.func84,Tryz.ntmps84
  go_wp2_with fail
  go_at_call 77
  refine(c1 _ (s1 _ _) (s2 _ _)).mono ?_
  rintro e w2 ⟨rfl,b2⟩
  have am:=ac (dN w _ _) b2
  go_wp2_with fail
  go_ret
  exact⟨rfl,am⟩
theorem uB:∀l m,bp l m=true->l.length=m.length
 | [],[],_=>rfl
 |x::r,y::s,h=>by
  rw[bp,Bool.and_eq_true] at h
  rw[List.length_cons,List.length_cons,uB r s h.2]
 | [],y::s,h=>by cases h
 |x::r,[],h=>by cases h
theorem LN (l m:List Lr)(a1 a2:Option Addr)(c1 c2:Nat)(w:World)(h1:bL w a1 c1 l)(h2:bL w a2 c2 m)(hl:l.length<=140737488355328):
  Calls Tryz.prog 75 #[.slice a1 l.length c1,.slice a2 m.length c2,.func (.func 84) #[] #[]] w fun e w'=>e=.returned (.bool (bp (l.map Lr.rw) (m.map Lr.rw)))/\Below w.heap.size w w':=by
 by_cases aF:l.length=m.length
 .obtain⟨D,hD⟩:∃D,D=bp (l.map Lr.rw) (m.map Lr.rw):=⟨_,rfl⟩
  rw[<-hD]
  have H0:Hid (D=bp ((l.drop 0).map Lr.rw) ((m.drop 0).map Lr.rw)):=by rw[List.drop_zero,List.drop_zero];exact hD
  clear hD
  rw[<-aF]
  obtain⟨n,hn⟩:∃n,n=l.length:=⟨_,rfl⟩
  rw[<-hn] at aF hl⊢
  replace hn:=aa hn
  replace aF:=aa aF
  have cq:=Below.refl w.heap.size w
  go_enter Tryz.func75,Tryz.ntmps75
  go_wp2_with fail
  go_loopw [17] (fun i wr=>∃(k:Nat),k<=n/\i=.int .i64 k/\Hid (D=bp ((l.drop k).map Lr.rw) ((m.drop k).map Lr.rw))/\Below w.heap.size w wr) (fun i _=>n-(intOf i).toNat)
  case atStart=>exact⟨0,by omega,rfl,H0,cq⟩
  case round=>
   clear H0 cq
   obtain⟨k,hk,rfl,H0,bel⟩:=hrel
   by_cases aE:k<n
   .have dZ:=h1.keep bel (Nat.le_refl _)
    have ij:=h2.keep bel (Nat.le_refl _)
    obtain⟨b1,o1,rfl,m7⟩:=dZ.where (by intro e;rw[hn.out,e] at aE;simp at aE)
    obtain⟨b2,o2,rfl,jJ⟩:=ij.where (by intro e;rw[aF.out,e] at aE;simp at aE)
    obtain⟨x,hx⟩:∃x,l[k]? =some x:=⟨_,List.getElem?_eq_getElem (by rw[<-hn.out];exact aE)⟩
    obtain⟨y,hy⟩:∃y,m[k]? =some y:=⟨_,List.getElem?_eq_getElem (by rw[<-aF.out];exact aE)⟩
    obtain⟨e0,e1,gx⟩:=dZ.at k x hx
    obtain⟨f0,f1,gy⟩:=ij.at k y hy
    have rM:l.drop k=x::l.drop (k+1):=by
     obtain⟨fC,rfl⟩:=List.getElem?_eq_some_iff.1 hx
     exact List.drop_eq_getElem_cons fC
    have tM:m.drop k=y::m.drop (k+1):=by
     obtain⟨fC,rfl⟩:=List.getElem?_eq_some_iff.1 hy
     exact List.drop_eq_getElem_cons fC
    have aJ:=H0.out
    rw[rM,tM,List.map_cons,List.map_cons,bp] at aJ
    have c1:=fun W (h:x.Good W) (k:y.Good W)=>Kf x y W h k
    unfold Lr.v at c1
    clear H0 rM tM hx hy dZ ij
    have sx:=fun o1 o2=>(gx.alloc o1).alloc o2
    have sy:=fun o1 o2=>(gy.alloc o1).alloc o2
    cases hS:ke x.rw y.rw with
    |true=>
     rw[hS,Bool.true_and] at aJ
     rw[hS] at c1
     replace aJ:=aa aJ
     clear hS
     go_wp2_with fail
     go_at_call 84
     refine(c1 _ (sx _ _) (sy _ _)).mono ?_
     rintro e w2 ⟨rfl,b2⟩
     have am:=ac (ax (ax bel _) _) b2
     go_wp2_with fail
     go_roundw
     case rel=>exact⟨k+1,by omega,by go_num,aJ,am⟩
     case measure=>simp[intOf];omega
    |false=>
     rw[hS,Bool.false_and] at aJ
     rw[hS] at c1
     replace aJ:=aa aJ
     clear hS
     go_wp2_with fail
     go_at_call 84
     refine(c1 _ (sx _ _) (sy _ _)).mono ?_
     rintro e w2 ⟨rfl,b2⟩
     have am:=ac (ax (ax bel _) _) b2
     go_wp2_with fail
     go_ret
     exact⟨by rw[aJ.out];rfl,am⟩
   obtain rfl:k=n:=by omega
   have aJ:=H0.out
   rw[List.drop_eq_nil_of_le (by rw[hn.out];exact Nat.le_refl _),List.drop_eq_nil_of_le (by rw[aF.out];exact Nat.le_refl _)] at aJ
   replace aJ:=aa aJ
   clear H0
   go_wp2_with fail
   go_ret
   exact⟨by rw[aJ.out];rfl,bel⟩
 have hS:bp (l.map Lr.rw) (m.map Lr.rw)=false:=by
  cases hS:bp (l.map Lr.rw) (m.map Lr.rw) with
  |false=>rfl
  |true=>
   have:=uB _ _ hS
   rw[List.length_map,List.length_map] at this
   exact absurd this aF
 rw[hS]
 have xy:¬(l.length:Int)=m.length:=by omega
 generalize l.length=n1 at*
 generalize m.length=n2 at*
 clear hS h1 h2
 go_enter Tryz.func75,Tryz.ntmps75
 go_wp2_with fail
 go_ret
 exact⟨rfl,Below.refl _ _⟩
theorem Hj (l m:List Lr)(a1 a2:Option Addr)(c1 c2:Nat)(w:World)(h1:bL w a1 c1 l)(h2:bL w a2 c2 m)(hl:l.length<=140737488355328):
  Calls Tryz.prog 40 #[.agg #[.slice a1 l.length c1],.agg #[.slice a2 m.length c2]] w fun e w'=>e=.returned (.bool (bp (l.map Lr.rw) (m.map Lr.rw)))/\Below w.heap.size w w':=by
 have c:=fun W h k=>LN l m a1 a2 c1 c2 W h k hl
 have s1:=fun o1 o2=>(h1.alloc o1).alloc o2
 have s2:=fun o1 o2=>(h2.alloc o1).alloc o2
 generalize bp (l.map Lr.rw) (m.map Lr.rw)=D at*
 generalize l.length=n1 at*
 generalize m.length=n2 at*
 go_enter Tryz.func40,Tryz.ntmps40
 go_wp2_with fail
 go_at_call 75
 refine(c _ (s1 _ _) (s2 _ _)).mono ?_
 rintro e w2 ⟨rfl,b2⟩
 have am:=ac (dN w _ _) b2
 go_wp2_with fail
 go_ret
 exact⟨rfl,am⟩
theorem tq {C D:List Rw}{a b:Option Addr}{G H:Nat}{W:World}(h:cu W a G C)(k:cu W b H D)(hl:C.length<=140737488355328):
  Calls Tryz.prog 40 #[.agg #[.slice a C.length G],.agg #[.slice b D.length H]] W fun e w'=>e=.returned (.bool (bp C D))/\Below W.heap.size W w':=by
 obtain⟨rs,rfl,s⟩:=h.ex
 obtain⟨qs,rfl,t⟩:=k.ex
 rw[List.length_map] at hl
 rw[List.length_map,List.length_map]
 exact Hj rs qs a b G H W s t hl
open Go.Lib (byteCells)
def fK (n:Int):Bool:=decide (0<=n/\n<=2)
theorem nX (n:Int)(w:World):
  Calls Tryz.prog 53 #[.int .i64 n] w fun e w'=>e=.returned (.bool (fK n))/\w'=w:=by
 by_cases h0:n<0
 .rw[show fK n=false by unfold fK;exact decide_eq_false (by omega)]
  go_enter Tryz.func53,Tryz.ntmps53
  go_wp2_with fail
  go_ret
  exact⟨rfl,rfl⟩
 by_cases h3:n<3
 .rw[show fK n=true by unfold fK;exact decide_eq_true (by omega)]
  go_enter Tryz.func53,Tryz.ntmps53
  go_wp2_with fail
  go_ret
  exact⟨rfl,rfl⟩
 rw[show fK n=false by unfold fK;exact decide_eq_false (by omega)]
 go_enter Tryz.func53,Tryz.ntmps53
 go_wp2_with fail
 go_ret
 exact⟨rfl,rfl⟩
def nY (Q:Nat->Prop)(g h:Nat)(W:World)(E:Int)(x:Wd)(e:Ending)(W':World):Prop:=
 e=.returned (.int .i64 E)/\∃(h':Nat) (p':Pw) (tF:List Int),ix Q W' g h' p' tF x/\gq g h W W'/\(h'=h\/W.heap.size<=h')
theorem qH {Q:Nat->Prop}(n v:Int)(g h:Nat)(p:Pw)(ys:List Int)(x:Wd)(W:World)(B:ix Q W g h p ys x)(hr:fK n=true->dw ⟨x.c,x.d,x.up,x.rd.set n.toNat v⟩=0):
  Calls Tryz.prog 69 #[.pointer (some ⟨g,0,none⟩),.int .i64 n,.int .i64 v] W (nY Q g h W (if fK n=true then 0 else 5) (if fK n=true then⟨x.c,x.d,x.up,x.rd.set n.toNat v⟩ else x)):=by
 have c:=fun W=>nX n W
 cases hn:fK n with
 |false=>
  rw[hn] at c
  rw[if_neg (by decide),if_neg (by decide)]
  go_enter Tryz.func69,Tryz.ntmps69
  go_wp2_with fail
  go_at_call 53
  refine(c _).mono ?_
  rintro e w2 ⟨rfl,rfl⟩
  go_wp2_with fail
  go_ret
  exact⟨rfl,h,p,ys,B,gq.refl _ _ _,.inl rfl⟩
 |true=>
  rw[hn] at c
  rw[if_pos rfl,if_pos rfl]
  have ES:0<=n/\n<=2:=by unfold fK at hn;exact of_decide_eq_true hn
  obtain⟨k,rfl⟩:∃k:Nat,n=k:=⟨n.toNat,by omega⟩
  rw[Int.toNat_natCast] at hr⊢
  have hk:k<3:=by omega
  have B2:=B.reader k v (hr hn)
  have gr:gq g h W (W.setCell ⟨h,k,none⟩ (.int .i64 v)):=gq.rds (al (au W (some h)) _ _)
  obtain⟨z,hz⟩:∃z:Int,W.cell? ⟨h,k,none⟩=some (.int .i64 z):=by
   have hl:k<ys.length:=by
    have e1:=congrArg List.length B.ry
    obtain⟨_,_,_,_,r5,_⟩:=fi B.right
    rw[List.length_take,r5] at e1
    omega
   exact⟨ys[k],by rw[B.rb.cell,List.getElem?_map,List.getElem?_eq_getElem hl];rfl⟩
  have hf:=B.rb.free k
  have hl:=B.rb.lt
  have x4:W.cell? ⟨g,4,none⟩=some (.slice (some ⟨h,0,none⟩) 3 p.rc):=by
   rw[B.blk.cell,<-B.ra]
   have:p.rn=3:=by rw[B.is.er];exact(fi B.right).2.2.2.2.1
   rw[<-this]
   rfl
  have xl:=B.blk.lt
  have m6:(k:Int)<3:=by omega
  have SS:=B.rm
  replace B2:=aa B2
  replace gr:=aa gr
  clear B hr hn ES
  go_enter Tryz.func69,Tryz.ntmps69
  go_wp2_with fail
  go_at_call 53
  refine(c _).mono ?_
  rintro e w2 ⟨rfl,rfl⟩
  go_wp2_with fail
  go_ret
  exact⟨rfl,h,p,_,B2.out,gr.out,.inl rfl⟩
def DH (W:World)(r:Rc)(e:Ending)(w':World):Prop:=
 ∃(a:Option Addr) (n c:Nat),e=.returned (.agg #[.int .i64 r.k,.int .i64 r.s,.int .i64 r.n,.slice a n c])/\Hid (n=r.e.length)/\be ec w' a c r.e/\Below W.heap.size W w'
theorem Dv {w:World}{g:Nat}{c0 c1 c2 c3:Value}{t:TypeId}(h:ag w g [c0,c1,c2,c3] t)(u0 u1 u2 u3:Value):ag ((((w.setCell ⟨g,0,none⟩ u0).setCell ⟨g,1,none⟩ u1).setCell ⟨g,2,none⟩ u2).setCell ⟨g,3,none⟩ u3) g [u0,u1,u2,u3] t:=(((h.set 0 u0).set 1 u1).set 2 u2).set 3 u3
theorem uI {B:Nat}{w W:World}(h:Below B w W){g:Nat}(hg:B<=g)(u0 u1 u2 u3:Value):Below B w ((((W.setCell ⟨g,0,none⟩ u0).setCell ⟨g,1,none⟩ u1).setCell ⟨g,2,none⟩ u2).setCell ⟨g,3,none⟩ u3):=
 (((h.setCell (p:=⟨g,0,none⟩) hg u0).setCell (p:=⟨g,1,none⟩) hg u1).setCell (p:=⟨g,2,none⟩) hg u2).setCell (p:=⟨g,3,none⟩) hg u3
theorem rU (y:Hp)(ea:Option Addr)(en eC:Nat)(w:World)(s:be ec w ea eC y.e)(hn:Hid (en=y.e.length)):
  Calls Tryz.prog 73 #[.agg #[.int .i64 y.k,.int .i64 y.s,.int .i64 y.n,.slice ea en eC]] w (DH w (aK y)):=by
 have B1:=(ag.laid w [.int .i64 y.k,.int .i64 y.s,.int .i64 y.n,.slice ea en eC] 33 _ rfl).alc (.cells #[.int .i64 0,.int .i64 0,.int .i64 0,.slice none 0 0] 73)
 have B2:=ag.laid (w.alloc (.cells #[.int .i64 y.k,.int .i64 y.s,.int .i64 y.n,.slice ea en eC] 33)) [.int .i64 0,.int .i64 0,.int .i64 0,.slice none 0 0] 73 (w.heap.size+1) (by simp)
 have bel:=newB (newB (Below.refl w.heap.size w) (.cells #[.int .i64 y.k,.int .i64 y.s,.int .i64 y.n,.slice ea en eC] 33)) (.cells #[.int .i64 0,.int .i64 0,.int .i64 0,.slice none 0 0] 73)
 obtain⟨x0,x1,x2,x3,l1⟩:=B1.c4
 have l2:=B2.lt
 obtain⟨f0,f1,f2,f3⟩:=B2.f4
 obtain⟨y0,y1,y2,y3,-⟩:=B2.c4
 obtain⟨K,S,N,L⟩:=y
 simp only at*
 have ek:aK ⟨K,S,N,L⟩=if K=2 then⟨2,S,N,[]⟩ else if K=3 then⟨3,S,N,[]⟩ else if K=4 then⟨4,0,N,[]⟩ else⟨1,0,0,L⟩:=rfl
 by_cases k2:K=2
 .subst k2
  rw[if_pos rfl] at ek
  rw[ek]
  clear ek
  go_enter Tryz.func73,Tryz.ntmps73
  go_upto_region 1 with fail
  generalize World.alloc (World.alloc w _) _=wa at*
  go_wp2_with fail
  have B9:=Dv B2 (.int .i64 2) (.int .i64 S) (.int .i64 N) (.slice none 0 0)
  have aq:=uI bel (Nat.le_succ _) (.int .i64 2) (.int .i64 S) (.int .i64 N) (.slice none 0 0)
  obtain⟨i0,i1,i2,i3,-⟩:=B9.c4
  exact bodyPost_ret (v:=.agg #[.int .i64 2,.int .i64 S,.int .i64 N,.slice none 0 0]) (by simp[results,Tryz.results73,go_sem,i0,i1,i2,i3]) rfl ⟨_,_,_,rfl,aa rfl,be.ofNil _ _,aq⟩
 by_cases k3:K=3
 .subst k3
  rw[if_neg (by decide),if_pos rfl] at ek
  rw[ek]
  clear ek
  go_enter Tryz.func73,Tryz.ntmps73
  go_upto_region 1 with fail
  generalize World.alloc (World.alloc w _) _=wa at*
  go_wp2_with fail
  have B9:=Dv B2 (.int .i64 3) (.int .i64 S) (.int .i64 N) (.slice none 0 0)
  have aq:=uI bel (Nat.le_succ _) (.int .i64 3) (.int .i64 S) (.int .i64 N) (.slice none 0 0)
  obtain⟨i0,i1,i2,i3,-⟩:=B9.c4
  exact bodyPost_ret (v:=.agg #[.int .i64 3,.int .i64 S,.int .i64 N,.slice none 0 0]) (by simp[results,Tryz.results73,go_sem,i0,i1,i2,i3]) rfl ⟨_,_,_,rfl,aa rfl,be.ofNil _ _,aq⟩
 by_cases k4:K=4
 .subst k4
  rw[if_neg (by decide),if_neg (by decide),if_pos rfl] at ek
  rw[ek]
  clear ek
  go_enter Tryz.func73,Tryz.ntmps73
  go_upto_region 1 with fail
  generalize World.alloc (World.alloc w _) _=wa at*
  go_wp2_with fail
  have B9:=Dv B2 (.int .i64 4) (.int .i64 0) (.int .i64 N) (.slice none 0 0)
  have aq:=uI bel (Nat.le_succ _) (.int .i64 4) (.int .i64 0) (.int .i64 N) (.slice none 0 0)
  obtain⟨i0,i1,i2,i3,-⟩:=B9.c4
  exact bodyPost_ret (v:=.agg #[.int .i64 4,.int .i64 0,.int .i64 N,.slice none 0 0]) (by simp[results,Tryz.results73,go_sem,i0,i1,i2,i3]) rfl ⟨_,_,_,rfl,aa rfl,be.ofNil _ _,aq⟩
 rw[if_neg k2,if_neg k3,if_neg k4] at ek
 have d2:decide (K=2)=false:=decide_eq_false k2
 have d3:decide (K=3)=false:=decide_eq_false k3
 have d4:decide (K=4)=false:=decide_eq_false k4
 rw[ek]
 clear ek
 go_enter Tryz.func73,Tryz.ntmps73
 go_upto_region 1 with fail
 generalize World.alloc (World.alloc w _) _=wa at*
 go_wp2_with fail
 have B9:=Dv B2 (.int .i64 1) (.int .i64 0) (.int .i64 0) (.slice ea en eC)
 have aq:=uI bel (Nat.le_succ _) (.int .i64 1) (.int .i64 0) (.int .i64 0) (.slice ea en eC)
 obtain⟨i0,i1,i2,i3,-⟩:=B9.c4
 exact bodyPost_ret (v:=.agg #[.int .i64 1,.int .i64 0,.int .i64 0,.slice ea en eC]) (by simp[results,Tryz.results73,go_sem,i0,i1,i2,i3]) rfl ⟨_,_,_,rfl,hn,s.keep aq (Nat.le_refl _),aq⟩
theorem tK (Q:Nat->Prop)(g:Nat)(p:Pw)(u:Bool)(d:Dk)(W:World)(B:ag W g (p.cells u) 30)(e1:p.n1=d.safe.length)(e2:p.n2=d.wait.length)(s1:Sl W p.a1 p.c1 (byteCells d.safe))(s2:Sl W p.a2 p.c2 (byteCells d.wait))(hd:cy d=0):
  Calls Tryz.prog 70 #[.pointer (some ⟨g,0,none⟩)] W fun e W'=>e=.returned (.tuple #[])/\∃(h':Nat) (p':Pw) (tF:List Int),ix Q W' g h' p' tF ⟨dm,d,false,fJ⟩/\W.grownBy W' (some g)/\W.heap.size<=h':=by
 obtain⟨sa,sn,sG,a1,n1,c1,a2,n2,c2,ra,rn,rc⟩:=p
 simp only[Pw.cells] at*
 replace e1:=aa e1
 replace e2:=aa e2
 go_enter Tryz.func70,Tryz.ntmps70
 go_wp2_with fail
 go_at_call 44
 refine(JQ _).mono ?_
 rintro e w2 ⟨aN,GN,rfl,IN,b2⟩
 replace B:=B.keep b2 B.lt
 replace s1:=s1.call b2
 replace s2:=s2.call b2
 go_wp2_with fail
 go_at_call 45
 refine(qJ _).mono ?_
 rintro e w3 ⟨gC,rfl,BC,hC,b3⟩
 replace B:=B.keep b3 B.lt
 replace s1:=s1.call b3
 replace s2:=s2.call b3
 replace IN:=IN.call b3
 have bel:=ac b2 b3
 have sK:=Nat.le_trans b2.size hC
 clear b2 b3
 have x0:=B.cell 0
 have x3:=B.cell 3
 have x4:=B.cell 4
 have f0:=B.free 0
 have f3:=B.free 3
 have f4:=B.free 4
 have xl:=B.lt
 have B9:=((B.set 0 (.slice aN 4 GN)).set 3 (.bool false)).set 4 (.slice (some ⟨gC,0,none⟩) 3 3)
 have gr:=al (al (al (au w3 (some g)) 0 (.slice aN 4 GN)) 3 (.bool false)) 4 (.slice (some ⟨gC,0,none⟩) 3 3)
 have WB:=aa (ix.wrote (Q:=Q) (h:=gC) (p:=⟨aN,4,GN,a1,n1,c1,a2,n2,c2,some ⟨gC,0,none⟩,3,3⟩) (ys:=fJ) (x:=⟨dm,d,false,fJ⟩) B gr B9
  ⟨rfl,e1.out,e2.out,rfl,IN,s1,s2,(by exact Sl.ofBlk BC (by decide))⟩ (cu.fresh IN) (qf hd) rfl BC rfl (Nat.le_refl _))
 have gb:=aa (MH (OC (row:=some g) bel) gr)
 clear B9 gr BC IN s1 s2 B bel
 go_wp2_with fail
 exact bodyPost_end (v:=.tuple #[]) (by simp[results,Tryz.results70,go_sem]) rfl ⟨rfl,_,_,_,WB.out,gb.out,sK⟩
def F4 (W:World)(x:Wd)(E:Int)(e:Ending)(w':World):Prop:=
 ∃p:Pw,e=.returned (.tuple #[p.val x.up,.int .i64 E])/\dE w' p x/\Below W.heap.size W w'
theorem fA {w:World}{g:Nat}{c0 c1 c2 c3 c4:Value}{t:TypeId}(h:ag w g [c0,c1,c2,c3,c4] t)(u0 u1 u2 u3 u4:Value):ag (((((w.setCell ⟨g,0,none⟩ u0).setCell ⟨g,1,none⟩ u1).setCell ⟨g,2,none⟩ u2).setCell ⟨g,3,none⟩ u3).setCell ⟨g,4,none⟩ u4) g [u0,u1,u2,u3,u4] t:=((((h.set 0 u0).set 1 u1).set 2 u2).set 3 u3).set 4 u4
theorem dP {B:Nat}{w W:World}(h:Below B w W){g:Nat}(hg:B<=g)(u0 u1 u2 u3 u4:Value):Below B w (((((W.setCell ⟨g,0,none⟩ u0).setCell ⟨g,1,none⟩ u1).setCell ⟨g,2,none⟩ u2).setCell ⟨g,3,none⟩ u3).setCell ⟨g,4,none⟩ u4):=
 ((((h.setCell (p:=⟨g,0,none⟩) hg u0).setCell (p:=⟨g,1,none⟩) hg u1).setCell (p:=⟨g,2,none⟩) hg u2).setCell (p:=⟨g,3,none⟩) hg u3).setCell (p:=⟨g,4,none⟩) hg u4
theorem Bz (W:World):
  Calls Tryz.prog 14 #[] W fun e w'=>∃p:Pw,e=.returned (p.val true)/\dE w' p iy/\Below W.heap.size W w':=by
 have B:=ag.laid W [.slice none 0 0,.slice none 0 0,.slice none 0 0,.bool false,.slice none 0 0] 30 _ rfl
 have bel:=newB (Below.refl W.heap.size W) (.cells #[.slice none 0 0,.slice none 0 0,.slice none 0 0,.bool false,.slice none 0 0] 30)
 go_enter Tryz.func14,Tryz.ntmps14
 go_upto_region 1 with fail
 generalize World.alloc W _=w1 at*
 go_wp2_with fail
 go_at_call 44
 refine(JQ _).mono ?_
 rintro e w2 ⟨aN,GN,rfl,IN,b2⟩
 replace B:=B.keep b2 B.lt
 replace bel:=ac bel b2
 go_wp2_with fail
 go_at_call 45
 refine(qJ _).mono ?_
 rintro e w3 ⟨gC,rfl,BC,hC,b3⟩
 replace B:=B.keep b3 B.lt
 replace bel:=ac bel b3
 replace IN:=IN.call b3
 clear b2 b3
 obtain⟨x0,x1,x2,x3,x4,-⟩:=B.c5
 obtain⟨f0,f1,f2,f3,f4⟩:=B.f5
 have xl:=B.lt
 have B9:=fA B (.slice aN 4 GN) (.slice none 0 0) (.slice none 0 0) (.bool true) (.slice (some ⟨gC,0,none⟩) 3 3)
 have aq:=dP bel (Nat.le_refl _) (.slice aN 4 GN) (.slice none 0 0) (.slice none 0 0) (.bool true) (.slice (some ⟨gC,0,none⟩) 3 3)
 have gr:=al (al (al (al (al (au w3 (some W.heap.size)) 0 (.slice aN 4 GN)) 1 (.slice none 0 0)) 2 (.slice none 0 0)) 3 (.bool true)) 4 (.slice (some ⟨gC,0,none⟩) 3 3)
 have WB:=aa (ix.wrote (Q:=fun _=>False) (h:=gC) (p:=⟨aN,4,GN,none,0,0,none,0,0,some ⟨gC,0,none⟩,3,3⟩) (ys:=fJ) (x:=iy) B gr B9
  ⟨rfl,rfl,rfl,rfl,IN,Sl.ofNil _,Sl.ofNil _,(by exact Sl.ofBlk BC (by decide))⟩ (cu.fresh IN) DK rfl BC rfl (Nat.le_refl _))
 obtain⟨i0,i1,i2,i3,i4,-⟩:=B9.c5
 go_wp2_with fail
 exact bodyPost_ret (v:=.agg #[.slice aN 4 GN,.slice none 0 0,.slice none 0 0,.bool true,.slice (some ⟨gC,0,none⟩) 3 3]) (by simp[results,Tryz.results14,go_sem,i0,i1,i2,i3,i4]) rfl ⟨_,rfl,WB.out.is,aq⟩
end Go.Proofs.YtoonnbhoiocoeaaGreatDoor
