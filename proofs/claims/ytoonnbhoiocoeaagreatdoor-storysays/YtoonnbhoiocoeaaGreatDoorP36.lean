/-
  rainbookref.FreshShelf: four rows of nothing.
-/
import Derived.Deep.Cut
import Derived.Deep.CutRange
import Derived.Test.YtoonnbhoiocoeaaGreatDoorP08
import Derived.Test.YtoonnbhoiocoeaaGreatDoorP10
import Derived.Test.YtoonnbhoiocoeaaGreatDoorP24
import Derived.Test.YtoonnbhoiocoeaaGreatDoorP12
import Derived.Test.YtoonnbhoiocoeaaGreatDoorP18
import Derived.Test.YtoonnbhoiocoeaaGreatDoorP32
import Derived.Test.YtoonnbhoiocoeaaGreatDoorHRefPutS
import Derived.Test.YtoonnbhoiocoeaaGreatDoorP35
import Derived.Test.YtoonnbhoiocoeaaGreatDoorP21
import Derived.Test.YtoonnbhoiocoeaaGreatDoorP29
import Derived.Test.YtoonnbhoiocoeaaGreatDoorP26
import Derived.Test.YtoonnbhoiocoeaaGreatDoorP25
import Derived.Test.YtoonnbhoiocoeaaGreatDoorP22
import Derived.Test.YtoonnbhoiocoeaaGreatDoorP23
import Derived.Test.YtoonnbhoiocoeaaGreatDoorP20
set_option maxHeartbeats 40000000
set_option maxRecDepth 100000
set_option linter.unusedVariables false
namespace Go.Proofs.YtoonnbhoiocoeaaGreatDoor
open Go.RowKit
theorem zd (w:World):
  Calls Tryz.prog 46 #[] w fun e w'=>∃a' G,e=.returned (.agg #[.slice a' 4 G])/\bJ w' a' G oK/\Below w.heap.size w w':=by
 obtain⟨i0,hi,bU,bi,bk⟩:=info_parts x9
 have B0:=ac.laid w [.slice none 0 0] 24 _ rfl
 go_enter Tryz.func46,Tryz.ntmps46
 go_wp2_with (at_make;refine wpList_make_full _ rfl (.const (.int .i64 4)) (.const (.int .i64 4)) 22 rfl (w.heap.size+1) 53 i0 (.agg #[.slice none 0 0,.slice none 0 0]) 2 Tryz.underlying22 hi bU bi _ _ _ _ 4 rfl rfl rfl rfl (by rw[bk];omega) (by unfold maxLen;omega) (by simp) ?_)
 intro w1 own grow
 rw[show(madeCells #[Value.slice none 0 0,Value.slice none 0 0] 8).toList=oK.flatMap Lr.cells by kernel_rfl] at own
 have bel:Below w.heap.size w w1:=((Below.refl _ _).alloc (Nat.le_refl _) _).grown grow (by simp) (fun k h=>by cases h)
 have B1:=B0.grown grow (fun k h=>by cases h)
 have f0:=B1.free 0
 have d0:w1.cell? ⟨w.heap.size,0,none⟩=some (.slice none 0 0):=B1.cell 0
 have js:=B1.lt
 go_wp2_with fail
 have eM:=own.kept (row:=some w.heap.size) (ak (au w1 (some w.heap.size)) 0 (.slice (some ⟨w.heap.size+1,0,none⟩) 4 4)) (.inr (by intro e;have:w.heap.size+1=w.heap.size:=Option.some.inj e;omega))
 obtain⟨a9,c9,ev,s9,_,_⟩:=aY.ofOwn Lr.two (by decide) eM
 simp only[Value.slice.injEq,true_and] at ev
 obtain⟨rfl,rfl⟩:=ev
 refine bodyPost_ret (v:=.agg #[.slice (some ⟨w.heap.size+1,0,none⟩) 4 4]) (by simp[results,Tryz.results46,go_sem,d0]) rfl ?_
 refine⟨_,_,rfl,⟨s9,fun r hr=>?_⟩,bel.setCell (Nat.le_refl _) _⟩
 simp only[oK,List.mem_cons,List.not_mem_nil,or_false,or_self] at hr
 subst hr
 exact At _
end Go.Proofs.YtoonnbhoiocoeaaGreatDoor
namespace Go.Proofs.YtoonnbhoiocoeaaGreatDoor
open Go.RowKit
theorem u9 {C D:List Rw}{a b:Option Addr}{G H:Nat}{W:World}(h:dC W a G C)(k:dC W b H D)(hl:C.length<=140737488355328):
  Calls Tryz.prog 35 #[.agg #[.slice a C.length G],.agg #[.slice b D.length H]] W fun e w'=>e=.returned (.bool (bv C D))/\Below W.heap.size W w':=by
 obtain⟨rs,rfl,s⟩:=h.ex
 obtain⟨qs,rfl,t⟩:=k.ex
 rw[List.length_map] at hl
 rw[List.length_map,List.length_map]
 exact zn rs qs a b G H W s t hl
theorem F0 (W:World):
  Calls Tryz.prog 46 #[] W fun e w'=>∃a' G',e=.returned (.agg #[.slice a' 4 G'])/\dC w' a' G' Ct/\Below W.heap.size W w':=by
 refine(zd W).mono ?_
 rintro e w' ⟨a',G',rfl,s,b⟩
 exact⟨a',G',rfl,⟨_,rfl,s⟩,b⟩
theorem NH {C:List Rw}{a:Option Addr}{G:Nat}{W:World}(L:List En)(la:Option Addr)(lc:Nat)(h:dC W a G C)(hL:aY En.cells W la lc L)(few:L.length<=140737488355328)(hR:ff C):
  Calls Tryz.prog 99 #[.agg #[.slice a C.length G],.slice la L.length lc] W (uy (fG C L) (iH C L) W):=by
 obtain⟨rs,rfl,t⟩:=h.ex
 rw[List.length_map]
 exact(Eu rs a G L la lc W t hL few hR).mono fun e w' h=>qZ h
theorem Kh {C:List Rw}{a:Option Addr}{G:Nat}{W:World}(s n:Int)(h:dC W a G C)(hR:ff C):
  Calls Tryz.prog 100 #[.agg #[.slice a C.length G],.int .i64 s,.int .i64 n] W (uy (eJ C s n) (gn C s n) W):=by
 obtain⟨rs,rfl,t⟩:=h.ex
 rw[List.length_map]
 exact(AQ rs a G s n W t hR).mono fun e w' h=>qZ h
theorem Gc {C:List Rw}{a:Option Addr}{G:Nat}{W:World}(s n:Int)(h:dC W a G C)(hR:ff C)(hw:(Lit.int .i64 n).wf=true):
  Calls Tryz.prog 101 #[.agg #[.slice a C.length G],.int .i64 s,.int .i64 n] W (uy (gm C s n) (jQ C s n) W):=by
 obtain⟨rs,rfl,t⟩:=h.ex
 rw[List.length_map]
 exact(DV rs a G s n W t hR hw).mono fun e w' h=>qZ h
theorem Ks {C:List Rw}{a:Option Addr}{G:Nat}{W:World}(n:Int)(h:dC W a G C)(hR:ff C):
  Calls Tryz.prog 102 #[.agg #[.slice a C.length G],.int .i64 n] W (uy (fP n) (ip C n) W):=by
 obtain⟨rs,rfl,t⟩:=h.ex
 rw[List.length_map]
 exact(Cg rs a G n W t hR).mono fun e w' h=>qZ h
end Go.Proofs.YtoonnbhoiocoeaaGreatDoor
namespace Go.Proofs.YtoonnbhoiocoeaaGreatDoor
open Go.RowKit
theorem Js {n:Int}(h0:0<=n)(h1:n<=100001):(Lit.int .i64 n).wf=true:=by
 have a:IntKind.i64.min<=n:=Int.le_trans (by decide) h0
 have b:n<=IntKind.i64.max:=Int.le_trans h1 (by decide)
 show(decide (IntKind.i64.min<=n)&&decide (n<=IntKind.i64.max))=true
 rw[decide_eq_true a,decide_eq_true b]
 rfl
theorem Rp {r:Rc}(h:aV r=0)(hk:r.k=3):0<=r.n/\r.n<=100001:=by
 unfold aV at h
 rw[if_neg (by rw[hk];decide),if_pos (by rw[hk];decide)] at h
 split at h
 .cases h
 .split at h
  .rename_i h1
   exact⟨h1.2.2.1,h1.2.2.2⟩
  .cases h
theorem Eg (C:List Rw)(r:Rc)(a a3:Option Addr)(G c3 n3 cn dn:Nat)(w:World)(h:dC w a G C)(s3:aY ec w a3 c3 r.e)(h3:Hid (n3=r.e.length))(CU:Hid (cn=C.length))(dp:Hid (dn=(iq C r).length))(hz:aE C=0)(hr:aV r=0):
  Calls Tryz.prog 60 #[.agg #[.slice a cn G],.agg #[.int .i64 r.k,.int .i64 r.s,.int .i64 r.n,.slice a3 n3 c3]] w (Mk (iu C r) (iq C r) dn w):=by
 have bel:=newB (newB (newB (Below.refl w.heap.size w) (.cells #[.slice a cn G] 24)) (.cells #[.int .i64 r.k,.int .i64 r.s,.int .i64 r.n,.slice a3 n3 c3] 73)) (.cells #[.slice none 0 0] 24)
 have B1:=((ac.laid w [.slice a cn G] 24 _ rfl).alc (.cells #[.int .i64 r.k,.int .i64 r.s,.int .i64 r.n,.slice a3 n3 c3] 73)).alc (.cells #[.slice none 0 0] 24)
 have B2:=(ac.laid (w.alloc (.cells #[.slice a cn G] 24)) [.int .i64 r.k,.int .i64 r.s,.int .i64 r.n,.slice a3 n3 c3] 73 (w.heap.size+1) (by simp)).alc (.cells #[.slice none 0 0] 24)
 have B3:=ac.laid ((w.alloc (.cells #[.slice a cn G] 24)).alloc (.cells #[.int .i64 r.k,.int .i64 r.s,.int .i64 r.n,.slice a3 n3 c3] 73)) [.slice none 0 0] 24 (w.heap.size+1+1) (by simp)
 have S:=h.keep bel (Nat.le_refl _)
 have S3:=s3.keep bel (Nat.le_refl _)
 have hR:=jJ hz
 have few:=yh hr
 have hn:=Rp hr
 have cP:=fun W (h:dC W a G C) (t:aY ec W a3 c3 r.e)=>NH (jd r.e) a3 c3 h (QG t) (by rw[tE];omega) hR
 have cS:=fun W (h:dC W a G C)=>Kh r.s r.n h hR
 have cM:=fun hk W (h:dC W a G C)=>Gc r.s r.n h hR (Js (hn hk).1 (hn hk).2)
 have cD:=fun W (h:dC W a G C)=>Ks r.n h hR
 simp only[tE] at cP
 rw[<-CU.out] at cP cS cD
 simp only[<-CU.out] at cM
 rw[<-h3.out] at cP
 obtain⟨w1,w2,w3,w4⟩:=wO C r
 have kd:=AF hr
 obtain⟨K,s',m',l⟩:=r
 simp only at*
 generalize iu C ⟨K,s',m',l⟩=E at*
 generalize iq C ⟨K,s',m',l⟩=D at*
 clear hr hz hn hR
 rcases kd with rfl|rfl|rfl|rfl
 .obtain⟨w5,w6⟩:=w1 rfl
  rw[<-w5,<-w6] at cP
  clear w1 w2 w3 w4 w5 w6 cS cM cD
  go_enter Tryz.func60,Tryz.ntmps60
  go_upto_region 1 with fail
  generalize World.alloc (World.alloc (World.alloc w _) _) _=wa at*
  have kn:=B1.cell 0
  have kg:=B1.lt
  have lB:=B2.cell 0
  have ll:=B2.cell 1
  have lj:=B2.cell 2
  have lw:=B2.cell 3
  have lr:=B2.lt
  go_wp2_with fail
  go_at_call 99
  refine(A6 dp (cP _ S S3)).mono ?_
  rintro e wd ⟨a',G',rfl,I,bb⟩
  clear kn kg lB ll lj lw lr
  replace B3:=B3.keep bb B3.lt
  replace bel:=aa bel bb
  clear bb
  have Ck:=B3.cell 0
  have Cu:=B3.lt
  have f0:=B3.free 0
  go_wp2_with fail
  have B9:=B3.set 0 (.slice a' dn G')
  have aq:=bel.setCell (p:=⟨w.heap.size+1+1,0,none⟩) (Nat.le_trans (Nat.le_succ _) (Nat.le_succ _)) (.slice a' dn G')
  have I9:=dC.boxed (I) B3 (.slice a' dn G')
  have i0:=B9.cell 0
  exact bodyPost_ret (v:=.tuple #[.agg #[.slice a' dn G'],.int .i64 E]) (by simp[results,Tryz.results60,go_sem,i0]) rfl ⟨_,_,rfl,I9,aq⟩
 .obtain⟨w5,w6⟩:=w2 rfl
  rw[<-w5,<-w6] at cS
  clear w1 w2 w3 w4 w5 w6 cP cM cD
  go_enter Tryz.func60,Tryz.ntmps60
  go_upto_region 1 with fail
  generalize World.alloc (World.alloc (World.alloc w _) _) _=wa at*
  have kn:=B1.cell 0
  have kg:=B1.lt
  have lB:=B2.cell 0
  have ll:=B2.cell 1
  have lj:=B2.cell 2
  have lw:=B2.cell 3
  have lr:=B2.lt
  go_wp2_with fail
  go_at_call 100
  refine(A6 dp (cS _ S)).mono ?_
  rintro e wd ⟨a',G',rfl,I,bb⟩
  clear kn kg lB ll lj lw lr
  replace B3:=B3.keep bb B3.lt
  replace bel:=aa bel bb
  clear bb
  have Ck:=B3.cell 0
  have Cu:=B3.lt
  have f0:=B3.free 0
  go_wp2_with fail
  have B9:=B3.set 0 (.slice a' dn G')
  have aq:=bel.setCell (p:=⟨w.heap.size+1+1,0,none⟩) (Nat.le_trans (Nat.le_succ _) (Nat.le_succ _)) (.slice a' dn G')
  have I9:=dC.boxed (I) B3 (.slice a' dn G')
  have i0:=B9.cell 0
  exact bodyPost_ret (v:=.tuple #[.agg #[.slice a' dn G'],.int .i64 E]) (by simp[results,Tryz.results60,go_sem,i0]) rfl ⟨_,_,rfl,I9,aq⟩
 .obtain⟨w5,w6⟩:=w3 rfl
  replace cM:=cM rfl
  rw[<-w5,<-w6] at cM
  clear w1 w2 w3 w4 w5 w6 cP cS cD
  go_enter Tryz.func60,Tryz.ntmps60
  go_upto_region 1 with fail
  generalize World.alloc (World.alloc (World.alloc w _) _) _=wa at*
  have kn:=B1.cell 0
  have kg:=B1.lt
  have lB:=B2.cell 0
  have ll:=B2.cell 1
  have lj:=B2.cell 2
  have lw:=B2.cell 3
  have lr:=B2.lt
  go_wp2_with fail
  go_at_call 101
  refine(A6 dp (cM _ S)).mono ?_
  rintro e wd ⟨a',G',rfl,I,bb⟩
  clear kn kg lB ll lj lw lr
  replace B3:=B3.keep bb B3.lt
  replace bel:=aa bel bb
  clear bb
  have Ck:=B3.cell 0
  have Cu:=B3.lt
  have f0:=B3.free 0
  go_wp2_with fail
  have B9:=B3.set 0 (.slice a' dn G')
  have aq:=bel.setCell (p:=⟨w.heap.size+1+1,0,none⟩) (Nat.le_trans (Nat.le_succ _) (Nat.le_succ _)) (.slice a' dn G')
  have I9:=dC.boxed (I) B3 (.slice a' dn G')
  have i0:=B9.cell 0
  exact bodyPost_ret (v:=.tuple #[.agg #[.slice a' dn G'],.int .i64 E]) (by simp[results,Tryz.results60,go_sem,i0]) rfl ⟨_,_,rfl,I9,aq⟩
 .obtain⟨w5,w6⟩:=w4 rfl
  rw[<-w5,<-w6] at cD
  clear w1 w2 w3 w4 w5 w6 cP cS cM
  go_enter Tryz.func60,Tryz.ntmps60
  go_upto_region 1 with fail
  generalize World.alloc (World.alloc (World.alloc w _) _) _=wa at*
  have kn:=B1.cell 0
  have kg:=B1.lt
  have lB:=B2.cell 0
  have ll:=B2.cell 1
  have lj:=B2.cell 2
  have lw:=B2.cell 3
  have lr:=B2.lt
  go_wp2_with fail
  go_at_call 102
  refine(A6 dp (cD _ S)).mono ?_
  rintro e wd ⟨a',G',rfl,I,bb⟩
  clear kn kg lB ll lj lw lr
  replace B3:=B3.keep bb B3.lt
  replace bel:=aa bel bb
  clear bb
  have Ck:=B3.cell 0
  have Cu:=B3.lt
  have f0:=B3.free 0
  go_wp2_with fail
  have B9:=B3.set 0 (.slice a' dn G')
  have aq:=bel.setCell (p:=⟨w.heap.size+1+1,0,none⟩) (Nat.le_trans (Nat.le_succ _) (Nat.le_succ _)) (.slice a' dn G')
  have I9:=dC.boxed (I) B3 (.slice a' dn G')
  have i0:=B9.cell 0
  exact bodyPost_ret (v:=.tuple #[.agg #[.slice a' dn G'],.int .i64 E]) (by simp[results,Tryz.results60,go_sem,i0]) rfl ⟨_,_,rfl,I9,aq⟩
end Go.Proofs.YtoonnbhoiocoeaaGreatDoor
namespace Go.Proofs.YtoonnbhoiocoeaaGreatDoor
open Go.RowKit
theorem Kn {C:List Rw}{r:Rc}(hz:aE C=0):(aV r≠0->cd C r=aV r)/\(aV r=0->cd C r=iu C r/\dW C r=iq C r):=by
 refine⟨fun h=>?_,fun h=>⟨?_,?_⟩⟩
 .unfold cd;rw[if_neg (by simp[hz]),if_pos h]
 .unfold cd;rw[if_neg (by simp[hz]),if_neg (by simp[h])]
 .unfold dW;rw[if_neg (by simp[hz]),if_neg (by simp[h])]
theorem ks (l:List bF)(la:Option Addr)(n c dn:Nat)(w:World)(S:dI w la c l)(hn:Hid (n=l.length))(dp:Hid (dn=(aZ (l.map (·.r))).length)):
  Calls Tryz.prog 19 #[.slice la n c] w (Mk (bP (l.map (·.r))) (aZ (l.map (·.r))) dn w):=by
 have hmax:=S.row.max
 have fF:=S.row.le
 have G0:n<=c:=by rw[hn.out];exact fF
 obtain⟨R,hR⟩:∃R,R=l.map (·.r):=⟨_,rfl⟩
 have uT:R.length=n:=by rw[hR,List.length_map,hn.out]
 rw[<-hR] at dp⊢
 have BR:=ac.laid w [.slice none 0 0] 24 _ rfl
 have bel:=newB (Below.refl w.heap.size w) (.cells #[.slice none 0 0] 24)
 by_cases hm:60<n
 .have jf:(60:Int)<n:=by omega
  obtain⟨e1,e2⟩:=x5 (R:=R) (by omega)
  rw[e2] at dp⊢
  rw[e1]
  obtain rfl:dn=0:=dp.out
  clear dp e1 e2 hR uT hmax fF
  go_enter Tryz.func19,Tryz.ntmps19
  go_upto_region 1 with fail
  generalize World.alloc w _=w1 at*
  have x0:=BR.cell 0
  have f0:=BR.free 0
  have xl:=BR.lt
  go_wp2_with fail
  have B9:=BR.set 0 (.slice none 0 0)
  have aq:=bel.setCell (p:=⟨w.heap.size,0,none⟩) (Nat.le_refl _) (.slice none 0 0)
  have I9:=(dC.none w1).boxed BR (.slice none 0 0)
  have i0:=B9.cell 0
  exact bodyPost_ret (v:=.tuple #[.agg #[.slice none 0 0],.int .i64 2]) (by simp[results,Tryz.results19,go_sem,i0]) rfl ⟨_,_,rfl,I9,aq⟩
 .have jf:¬(60:Int)<n:=by omega
  obtain⟨e1,e2⟩:=Az (R:=R) (by omega)
  rw[e2] at dp⊢
  rw[e1]
  have T7:n<=60:=by omega
  have SZ:∀(k:Nat) (x:bF),l[k]? =some x->R[k]? =some x.r:=by
   intro k x hx
   rw[hR,List.getElem?_map,hx]
   rfl
  clear e1 e2 hmax fF
  generalize ka:(aG dg R).2=EE at*
  generalize nG:(aG dg R).1=DD at*
  replace ka:=hide ka
  replace nG:=hide nG
  replace hR:=hide hR
  replace uT:=hide uT
  go_enter Tryz.func19,Tryz.ntmps19
  go_upto_region 1 with fail
  generalize World.alloc w _=w1 at*
  go_wp2_with fail
  go_at_call 46
  refine(F0 _).mono ?_
  rintro e w2 ⟨aN,GN,rfl,IN,b2⟩
  have BS:=ac.laid w2 [.slice aN 4 GN] 24 _ rfl
  have bq:=newB b2 (.cells #[.slice aN 4 GN] 24)
  have NC:=IN.alloc (.cells #[.slice aN 4 GN] 24)
  have Kb:w.heap.size<w2.heap.size:=Nat.lt_of_lt_of_le BR.lt b2.size
  replace BR:=BR.keep bq BR.lt
  replace bel:=aa bel bq
  clear b2 bq IN
  go_upto_region 4 with fail
  generalize w2.heap.size=gS at*
  generalize World.alloc w2 _=w3 at*
  go_wp2_with fail
  go_loopw [17] (fun i wr=>∃(k:Nat) (aS:Option Addr) (cS:Nat) (C:List Rw),k<=n/\i=.int .i64 k/\ac wr w.heap.size [.slice none 0 0] 24/\ac wr gS [.slice aS 4 cS] 24/\dC wr aS cS C/\Hid (aG dg (R.take k)=(C,0))/\Below w.heap.size w wr) (fun i _=>n-(intOf i).toNat)
  case atStart=>exact⟨0,aN,GN,dg,Nat.zero_le _,rfl,BR,BS,NC,by simp[aG,Hid],bel⟩
  case round=>
   clear BR BS NC bel
   obtain⟨k,aS,cS,C,hk,rfl,BR,BS,I,hC,bel⟩:=hrel
   have hz:=vp hC.out
   have h4:=hide (bL hz)
   by_cases az:k<n
   .have cy:k<l.length:=by rw[<-hn.out];exact az
    obtain⟨x,hx⟩:∃x,l[k]? =some x:=⟨_,List.getElem?_eq_getElem cy⟩
    obtain⟨lb,lo,rfl,yA⟩:=S.row.where bF.four (by decide) (by intro h;subst h;simp at cy)
    have S':=S.keep bel (Nat.le_refl _)
    have d0:=S'.row.cell bF.four k 0 x _ hx rfl
    have d1:=S'.row.cell bF.four k 1 x _ hx rfl
    have d2:=S'.row.cell bF.four k 2 x _ hx rfl
    have d3:=S'.row.cell bF.four k 3 x _ hx rfl
    simp only[Nat.add_zero] at d0
    have MV:=Nat.lt_of_lt_of_le yA bel.size
    have jk:=S'.ent x (List.mem_of_getElem? hx)
    obtain⟨wz,wb⟩:=wN hC.out (SZ k x hx)
    obtain⟨nb,ng⟩:=Kn (r:=x.r) hz
    have cR:=fun W t=>xi x.r x.a x.c x.r.e.length W t rfl
    have BC:=ac.laid wr x.cells 73 _ rfl
    have bc:=newB (Below.refl wr.heap.size wr) (.cells x.cells.toArray 73)
    have jc:=jk.call bc
    have I1:=I.call bc
    replace BR:=BR.keep bc BR.lt
    replace BS:=BS.keep bc BS.lt
    have aU:=bel.trans (bc.mono bel.size)
    simp only[bF.cells] at BC bc jc I1 BR BS aU
    replace hx:=hide hx
    clear S' cy jk I bc bel
    go_upto_region 7 with fail
    generalize wr.heap.size=gC at*
    generalize World.alloc wr _=w4 at*
    have x0:=BC.cell 0
    have x1:=BC.cell 1
    have x2:=BC.cell 2
    have x3:=BC.cell 3
    have lC:=BC.lt
    go_wp2_with fail
    go_at_call 59
    refine(cR _ jc).mono ?_
    rintro e w5 ⟨rfl,b5⟩
    clear x0 x1 x2 x3 lC cR
    replace BR:=BR.keep b5 BR.lt
    replace BS:=BS.keep b5 BS.lt
    replace BC:=BC.keep b5 BC.lt
    replace I1:=I1.call b5
    replace jc:=jc.call b5
    replace aU:=aU.trans (b5.mono aU.size)
    clear b5
    by_cases hr:aV x.r=0
    .obtain⟨nE,nL⟩:=ng hr
     obtain⟨dk,LE⟩:∃d,Hid (d=(iq C x.r).length):=⟨_,hide rfl⟩
     have cN:=fun W h t=>Eg C x.r aS x.a cS x.c x.r.e.length 4 dk W h t (hide rfl) (hide h4.out.symm) LE hz hr
     rw[hr]
     rw[nE] at wz wb
     rw[nL] at wz
     have x0:=BC.cell 0
     have x1:=BC.cell 1
     have x2:=BC.cell 2
     have x3:=BC.cell 3
     have lC:=BC.lt
     have y0:=BS.cell 0
     have lS:=BS.lt
     go_wp2_with fail
     go_at_call 60
     refine(cN _ I1 jc).mono ?_
     rintro e w6 ⟨a',G',rfl,I6,b6⟩
     clear x0 x1 x2 x3 lC y0 lS cN jc I1 BC
     have BN:=ac.laid w6 [.slice a' dk G'] 24 _ rfl
     have bq:=newB b6 (.cells #[.slice a' dk G'] 24)
     have I7:=I6.alloc (.cells #[.slice a' dk G'] 24)
     replace BR:=BR.keep bq BR.lt
     replace BS:=BS.keep bq BS.lt
     replace aU:=aU.trans (bq.mono aU.size)
     clear b6 bq I6
     go_upto_region 11 with fail
     generalize w6.heap.size=gN at*
     generalize World.alloc w6 _=w7 at*
     by_cases hE:iu C x.r=0
     .rw[hE]
      have hw:=wz hE
      obtain rfl:dk=4:=by rw[LE.out];exact bL (u' hz hE)
      clear wz wb nb ng nE nL
      have z0:=BN.cell 0
      have lN:=BN.lt
      have y0:=BS.cell 0
      have f0:=BS.free 0
      have lS:=BS.lt
      have RG:=BS.set 0 (.slice a' 4 G')
      have iF:ac (w7.setCell ⟨gS,0,none⟩ (.slice a' 4 G')) w.heap.size [.slice none 0 0] 24:=BR.other 0 _ (by omega)
      have I8:=I7.boxed BS (.slice a' 4 G')
      have dy:=aU.setCell (p:=⟨gS,0,none⟩) (Nat.le_of_lt Kb) (.slice a' 4 G')
      go_wp2_with fail
      go_roundw
      case rel=>exact⟨k+1,a',G',iq C x.r,by omega,by go_num,iF,RG,I8,hide hw,dy⟩
      case measure=>simp[intOf];omega
     .have hw:=wb hE
      have PV:decide (iu C x.r=0)=false:=decide_eq_false hE
      generalize iu C x.r=E at*
      obtain rfl:DD=[]:=by rw[<-nG.out,hw]
      obtain rfl:EE=E:=by rw[<-ka.out,hw]
      obtain rfl:dn=0:=dp.out
      clear wz wb ka nG hw nb ng nE nL
      have z0:=BR.cell 0
      have f0:=BR.free 0
      have lR:=BR.lt
      go_wp2_with fail
      have B9:=BR.set 0 (.slice none 0 0)
      have aq:=aU.setCell (p:=⟨w.heap.size,0,none⟩) (Nat.le_refl _) (.slice none 0 0)
      have I9:=(dC.none w7).boxed BR (.slice none 0 0)
      have i0:=B9.cell 0
      exact bodyPost_ret (v:=.tuple #[.agg #[.slice none 0 0],.int .i64 EE]) (by simp[results,Tryz.results19,go_sem,i0]) rfl ⟨_,_,rfl,I9,aq⟩
    .have hE:=nb hr
     have hw:=wb (by rw[hE];exact hr)
     have PV:decide (aV x.r=0)=false:=decide_eq_false hr
     rw[hE] at hw
     clear wz wb ng nb
     generalize aV x.r=E at*
     obtain rfl:DD=[]:=by rw[<-nG.out,hw]
     obtain rfl:EE=E:=by rw[<-ka.out,hw]
     obtain rfl:dn=0:=dp.out
     clear ka nG hw hE
     have z0:=BR.cell 0
     have f0:=BR.free 0
     have lR:=BR.lt
     go_wp2_with fail
     have B9:=BR.set 0 (.slice none 0 0)
     have aq:=aU.setCell (p:=⟨w.heap.size,0,none⟩) (Nat.le_refl _) (.slice none 0 0)
     have I9:=(dC.none w5).boxed BR (.slice none 0 0)
     have i0:=B9.cell 0
     exact bodyPost_ret (v:=.tuple #[.agg #[.slice none 0 0],.int .i64 EE]) (by simp[results,Tryz.results19,go_sem,i0]) rfl ⟨_,_,rfl,I9,aq⟩
   .obtain rfl:k=n:=by omega
    have hw:=hC.out
    rw[List.take_of_length_le (by rw[uT.out];exact Nat.le_refl _)] at hw
    obtain rfl:DD=C:=by rw[<-nG.out,hw]
    obtain rfl:EE=0:=by rw[<-ka.out,hw]
    obtain rfl:dn=4:=dp.out.trans h4.out
    clear hw ka nG
    have y0:=BS.cell 0
    have lS:=BS.lt
    have z0:=BR.cell 0
    have f0:=BR.free 0
    have lR:=BR.lt
    go_wp2_with fail
    have B9:=BR.set 0 (.slice aS 4 cS)
    have aq:=bel.setCell (p:=⟨w.heap.size,0,none⟩) (Nat.le_refl _) (.slice aS 4 cS)
    have I9:=I.boxed BR (.slice aS 4 cS)
    have i0:=B9.cell 0
    exact bodyPost_ret (v:=.tuple #[.agg #[.slice aS 4 cS],.int .i64 0]) (by simp[results,Tryz.results19,go_sem,i0]) rfl ⟨_,_,rfl,I9,aq⟩
end Go.Proofs.YtoonnbhoiocoeaaGreatDoor
namespace Go.Proofs.YtoonnbhoiocoeaaGreatDoor
open Go.RowKit
open Go.Lib (byteCells)
theorem sI (a b:List Rw):bv a b=bv b a:=by
 cases h:bv a b with
 |true=>rw[kf h,me]
 |false=>
  cases k:bv b a with
  |true=>
   rw[kf k,me] at h
   cases h
  |false=>rfl
theorem Gy (x:Wd):
  (cT x.d≠0->cu x=cT x.d)/\(cT x.d=0->x.up=true/\x.d.wait≠[]->cu x=4)/\(cT x.d=0->¬(x.up=true/\x.d.wait≠[])->bP (iv x)≠0->cu x=bP (iv x))/\
   (cT x.d=0->¬(x.up=true/\x.d.wait≠[])->bP (iv x)=0->¬(bv x.c (aZ (iv x))=true/\x.rd.length=3)->cu x=4)/\
   (cT x.d=0->¬(x.up=true/\x.d.wait≠[])->bP (iv x)=0->(bv x.c (aZ (iv x))=true/\x.rd.length=3)->cu x=if x.rd.all (fd x.up (iv x).length)=true then 0 else 3):=by
 unfold cu
 refine⟨fun h=>if_pos h,fun h k=>?_,fun h k e=>?_,fun h k e s=>?_,fun h k e s=>?_⟩
 .rw[if_neg (by simp[h]),if_pos k]
 .rw[if_neg (by simp[h]),if_neg k,if_pos e]
 .rw[if_neg (by simp[h]),if_neg k,if_neg (by simp[e]),if_pos s]
 .rw[if_neg (by simp[h]),if_neg k,if_neg (by simp[e]),if_neg (fun q=>q s)]
theorem tU (x:Wd)(p:Pw)(w:World)(hg:Gl w)(I:ej w p x):
  Calls Tryz.prog 9 #[p.val x.up] w fun e w'=>e=.returned (.int .i64 (cu x))/\Below w.heap.size w w':=by
 obtain⟨z1,z2,z3,z4,z5⟩:=Gy x
 obtain⟨WE,UP⟩:∃WE,WE=cu x:=⟨_,rfl⟩
 rw[<-UP] at z1 z2 z3 z4 z5⊢
 clear UP
 obtain⟨C,D,U,R⟩:=x
 obtain⟨sa,sn,sG,a1,n1,c1,a2,n2,c2,ra,rn,rc⟩:=p
 simp only[Pw.val] at*
 have er:=I.er
 have e2:=I.e2
 simp only at er e2
 replace er:=hide er
 replace e2:=hide e2
 have cK:=fun W g s=>Cv D a1 a2 c1 c2 n1 n2 W g s I.e1 I.e2
 have cQ:=fun h0 W g s t=>qH D a1 a2 c1 c2 n1 n2 W g s t I.e1 I.e2 h0
 obtain⟨K,hK⟩:∃K,K=cT D:=⟨_,rfl⟩
 rw[<-hK] at cK cQ z1 z2 z3 z4 z5
 have BX:=ac.laid w [.slice sa sn sG,.slice a1 n1 c1,.slice a2 n2 c2,.bool U,.slice ra rn rc] 30 _ rfl
 have bel:=newB (Below.refl w.heap.size w) (.cells #[.slice sa sn sG,.slice a1 n1 c1,.slice a2 n2 c2,.bool U,.slice ra rn rc] 30)
 replace I:=I.alloc (.cells #[.slice sa sn sG,.slice a1 n1 c1,.slice a2 n2 c2,.bool U,.slice ra rn rc] 30)
 clear hK
 by_cases hk:K=0
 .subst hk
  replace z2:=z2 rfl
  replace z3:=z3 rfl
  replace z4:=z4 rfl
  replace z5:=z5 rfl
  clear z1
  cases U with
  |true=>
   by_cases hw:D.wait=[]
   .have hn:n2=0:=by rw[e2.out,hw];rfl
    subst hn
    have Yg:¬(True/\D.wait≠[]):=fun h=>h.2 hw
    replace z3:=z3 (by simp[hw])
    replace z4:=z4 (by simp[hw])
    replace z5:=z5 (by simp[hw])
    have zG:iv ⟨C,D,true,R⟩=ax D:=if_pos rfl
    rw[zG] at z3 z4 z5
    replace cQ:=cQ rfl
    clear z2 Yg hw e2
    go_enter Tryz.func9,Tryz.ntmps9
    go_upto_region 1 with fail
    generalize World.alloc w _=w1 at*
    have x0:=BX.cell 0
    have x1:=BX.cell 1
    have x2:=BX.cell 2
    have x3:=BX.cell 3
    have x4:=BX.cell 4
    have xl:=BX.lt
    go_wp2_with fail
    go_at_call 34
    refine(cK _ (hg.call bel) I.s1).mono ?_
    rintro e w2 ⟨rfl,b⟩
    clear x0 x1 x2 x3 x4 xl
    replace BX:=BX.keep b BX.lt
    replace I:=I.call b
    replace bel:=aa bel b
    clear b
    have x0:=BX.cell 0
    have x1:=BX.cell 1
    have x2:=BX.cell 2
    have x3:=BX.cell 3
    have x4:=BX.cell 4
    have xl:=BX.lt
    go_wp2_with fail
    go_at_call 18
    refine(cQ _ (hg.call bel) I.s1 I.s2).mono ?_
    rintro e w3 ⟨p1,p2,la,q1,q2,q3,q4,ln,lG,l,rfl,kY,kW,T1,T2,LS,dK,iQ,b⟩
    clear x0 x1 x2 x3 x4 xl
    replace BX:=BX.keep b BX.lt
    replace I:=I.call b
    clear T1 T2
    replace kY:=hide kY
    replace kW:=hide kW
    replace dK:=hide dK
    replace bel:=aa bel b
    clear b
    have x0:=BX.cell 0
    have x1:=BX.cell 1
    have x2:=BX.cell 2
    have x3:=BX.cell 3
    have x4:=BX.cell 4
    have xl:=BX.lt
    replace LS:=LS
    generalize ax D=L at*
    clear cQ cK
    have cS:=fun W s=>ks l la ln lG (aZ (l.map (·.r))).length W s dK (hide rfl)
    rw[iQ] at cS
    obtain⟨E2,j5⟩:∃E2,E2=bP L:=⟨_,rfl⟩
    obtain⟨D2,qj⟩:∃D2,D2=aZ L:=⟨_,rfl⟩
    rw[<-j5] at cS z3 z4 z5
    rw[<-qj] at cS z4 z5
    have x6:E2=0->D2.length=4:=fun e=>by rw[qj];exact bL (fp (by rw[<-j5];exact e))
    have pb:L.length=l.length:=by rw[<-iQ,List.length_map]
    rw[pb,<-dK.out] at z5
    obtain⟨dn,dp⟩:∃dn,dn=D2.length:=⟨_,rfl⟩
    rw[<-dp] at cS x6
    clear j5 qj iQ pb
    replace dp:=hide dp
    go_wp2_with fail
    go_at_call 19
    refine(cS _ LS).mono ?_
    rintro e w4 ⟨aN,GN,rfl,IN,b0⟩
    have b:=newB b0 (.cells #[.slice aN dn GN] 24)
    have BN:=ac.laid w4 [.slice aN dn GN] 24 _ rfl
    replace IN:=IN.alloc (.cells #[.slice aN dn GN] 24)
    clear b0 cS LS
    clear x0 x1 x2 x3 x4 xl
    replace BX:=BX.keep b BX.lt
    replace I:=I.call b
    replace bel:=aa bel b
    clear b
    have x0:=BX.cell 0
    have x1:=BX.cell 1
    have x2:=BX.cell 2
    have x3:=BX.cell 3
    have x4:=BX.cell 4
    have xl:=BX.lt
    go_upto_region 10 with fail
    generalize w4.heap.size=gN at*
    generalize World.alloc w4 _=w5 at*
    have n0:=BN.cell 0
    have nl:=BN.lt
    by_cases hz:E2=0
    .subst hz
     replace z4:=z4 rfl
     replace z5:=z5 rfl
     obtain rfl:dn=4:=x6 rfl
     have cM:=fun V k h=>u9 (C:=D2) (D:=C) (a:=aN) (b:=sa) (G:=GN) (H:=sG) (W:=V) k h (by rw[<-dp.out];decide)
     rw[<-dp.out,<-I.es,sI] at cM
     cases hs:bv C D2 with
     |false=>
      rw[hs] at cM z4
      have hW:=z4 (by simp)
      subst hW
      clear z3 z4 z5 x6
      go_wp2_with fail
      go_at_call 35
      refine(cM _ IN I.s).mono ?_
      rintro e w6 ⟨rfl,b⟩
      replace bel:=aa bel b
      go_wp2_with fail
      go_ret
      exact⟨rfl,bel⟩
     |true=>
      rw[hs] at cM z4 z5
      by_cases h3:R.length=3
      .have hW:=z5 ⟨rfl,h3⟩
       have qa:rn=3:=by rw[er.out];exact h3
       subst qa
       clear z3 z4 z5 x6
       go_wp2_with fail
       go_at_call 35
       refine(cM _ IN I.s).mono ?_
       rintro e w6 ⟨rfl,b⟩
       clear x0 x1 x2 x3 x4 xl
       replace BX:=BX.keep b BX.lt
       replace I:=I.call b
       clear BN n0 nl IN cM
       replace bel:=aa bel b
       clear b
       have x0:=BX.cell 0
       have x1:=BX.cell 1
       have x2:=BX.cell 2
       have x3:=BX.cell 3
       have x4:=BX.cell 4
       have xl:=BX.lt
       have SR:Sl w6 ra rc (R.map (Value.int .i64)):=I.r
       obtain⟨rb,ro,rfl,XP,_⟩:=SR.row.at (by intro e;rw[List.map_eq_nil_iff] at e;rw[e] at h3;simp at h3)
       replace hW:=hide hW
       replace h3:=hide h3
       go_wp2_with fail
       go_loopw [50] (fun i wr=>∃(k:Nat),k<=3/\i=.int .i64 k/\Hid (∀y∈R.take k,fd true ln y=true)/\wr=w6) (fun i _=>3-(intOf i).toNat)
       case atStart=>exact⟨0,by omega,rfl,hide (fun y hy=>by simp at hy),rfl⟩
       case round=>
        obtain⟨k,my,rfl,H,rfl⟩:=hrel
        by_cases az:k<3
        .have cy:k<R.length:=by rw[h3.out];exact az
         have r0:=SR.int k cy
         have hm:R.getD k 0∈R:=by rw[List.getD_eq_getElem?_getD,List.getElem?_eq_getElem cy];exact List.getElem_mem cy
         have ht:R.take (k+1)=R.take k++[R.getD k 0]:=by rw[List.take_add_one,List.getD_eq_getElem?_getD,List.getElem?_eq_getElem cy];rfl
         replace ht:=hide ht
         have mS:=hide hm
         generalize R.getD k 0=v at*
         clear cy hm
         have cI:=fun V=>cm v (-1) (ln:Int) V
         by_cases pM:-1<=v/\v<=(ln:Int)
         .have di:decide (-1<=v/\v<=(ln:Int))=true:=decide_eq_true pM
          rw[di] at cI
          by_cases hv:0<=v
          .have H2:∀y∈R.take (k+1),fd true ln y=true:=by
            intro y hy
            rw[ht.out] at hy
            rcases List.mem_append.1 hy with hy|hy
            .exact H.out y hy
            .rw[List.mem_singleton.1 hy]
             unfold fd
             rw[di]
             rfl
           replace H2:=hide H2
           clear H pM di
           go_wp2_with fail
           go_at_call 36
           refine(cI _).mono ?_
           rintro e w7 ⟨rfl,rfl⟩
           go_wp2_with fail
           go_roundw
           case rel=>exact⟨k+1,by omega,by go_num,H2,by trivial⟩
           case measure=>simp[intOf];omega
          .have H2:∀y∈R.take (k+1),fd true ln y=true:=by
            intro y hy
            rw[ht.out] at hy
            rcases List.mem_append.1 hy with hy|hy
            .exact H.out y hy
            .rw[List.mem_singleton.1 hy]
             unfold fd
             rw[di]
             rfl
           replace H2:=hide H2
           clear H pM di
           go_wp2_with fail
           go_at_call 36
           refine(cI _).mono ?_
           rintro e w7 ⟨rfl,rfl⟩
           go_wp2_with fail
           go_roundw
           case rel=>exact⟨k+1,by omega,by go_num,H2,by trivial⟩
           case measure=>simp[intOf];omega
         .have di:decide (-1<=v/\v<=(ln:Int))=false:=decide_eq_false pM
          rw[di] at cI
          have My:WE=3:=by
           rw[hW.out,if_neg]
           intro ha
           have:=List.all_eq_true.1 ha v mS.out
           unfold fd at this
           rw[di] at this
           simp at this
          clear pM di H hW
          subst My
          go_wp2_with fail
          go_at_call 36
          refine(cI _).mono ?_
          rintro e w7 ⟨rfl,rfl⟩
          go_wp2_with fail
          go_ret
          exact⟨rfl,bel⟩
        .obtain rfl:k=3:=by omega
         have Dt:WE=0:=by
          rw[hW.out,if_pos]
          refine List.all_eq_true.2 fun y hy=>?_
          have:=H.out y
          rw[List.take_of_length_le (by rw[h3.out];exact Nat.le_refl _)] at this
          exact this hy
         clear H hW
         subst Dt
         go_wp2_with fail
         go_ret
         exact⟨rfl,bel⟩
      .have hW:=z4 (fun h=>h3 h.2)
       subst hW
       have qa:¬rn=3:=by rw[er.out];exact h3
       have Rd:¬((rn:Int)=3):=by omega
       have oZ:((rn:Int) != 3)=true:=by simpa using Rd
       clear z3 z4 z5 x6
       go_wp2_with fail
       go_at_call 35
       refine(cM _ IN I.s).mono ?_
       rintro e w6 ⟨rfl,b⟩
       clear x0 x1 x2 x3 x4 xl
       replace BX:=BX.keep b BX.lt
       replace I:=I.call b
       replace bel:=aa bel b
       clear b
       have x0:=BX.cell 0
       have x1:=BX.cell 1
       have x2:=BX.cell 2
       have x3:=BX.cell 3
       have x4:=BX.cell 4
       have xl:=BX.lt
       go_wp2_with fail
       go_ret
       exact⟨rfl,bel⟩
    .have hd:decide (E2=0)=false:=decide_eq_false hz
     have hW:=z3 hz
     subst hW
     go_wp2_with fail
     go_ret
     exact⟨rfl,bel⟩
   .have hW:=z2 ⟨rfl,hw⟩
    subst hW
    have hn:0<n2:=by
     rw[e2.out]
     exact List.length_pos_iff.2 hw
    have hnI:(0:Int)<(n2:Int):=by omega
    clear z2 z3 z4 z5 cQ e2
    go_enter Tryz.func9,Tryz.ntmps9
    go_upto_region 1 with fail
    generalize World.alloc w _=w1 at*
    have x0:=BX.cell 0
    have x1:=BX.cell 1
    have x2:=BX.cell 2
    have x3:=BX.cell 3
    have x4:=BX.cell 4
    have xl:=BX.lt
    go_wp2_with fail
    go_at_call 34
    refine(cK _ (hg.call bel) I.s1).mono ?_
    rintro e w2 ⟨rfl,b⟩
    clear x0 x1 x2 x3 x4 xl
    replace BX:=BX.keep b BX.lt
    replace I:=I.call b
    replace bel:=aa bel b
    clear b
    have x0:=BX.cell 0
    have x1:=BX.cell 1
    have x2:=BX.cell 2
    have x3:=BX.cell 3
    have x4:=BX.cell 4
    have xl:=BX.lt
    go_wp2_with fail
    go_ret
    exact⟨rfl,bel⟩
  |false=>
   have zG:iv ⟨C,D,false,R⟩=[]:=rfl
   rw[zG] at z3 z4 z5
   replace z3:=z3 (by simp)
   replace z4:=z4 (by simp)
   replace z5:=z5 (by simp)
   clear z2 cQ e2
   go_enter Tryz.func9,Tryz.ntmps9
   go_upto_region 1 with fail
   generalize World.alloc w _=w1 at*
   have x0:=BX.cell 0
   have x1:=BX.cell 1
   have x2:=BX.cell 2
   have x3:=BX.cell 3
   have x4:=BX.cell 4
   have xl:=BX.lt
   go_wp2_with fail
   go_at_call 34
   refine(cK _ (hg.call bel) I.s1).mono ?_
   rintro e w2 ⟨rfl,b⟩
   clear x0 x1 x2 x3 x4 xl
   replace BX:=BX.keep b BX.lt
   replace I:=I.call b
   replace bel:=aa bel b
   clear b
   have x0:=BX.cell 0
   have x1:=BX.cell 1
   have x2:=BX.cell 2
   have x3:=BX.cell 3
   have x4:=BX.cell 4
   have xl:=BX.lt
   obtain⟨l,iQ⟩:∃l:List bF,l.map (·.r)=[]/\l=[]:=⟨[],rfl,rfl⟩
   obtain⟨iQ,KX⟩:=iQ
   have dK:Hid (0=l.length):=hide (by rw[KX];rfl)
   have LS:dI w2 none 0 l:=by rw[KX];exact⟨aY.ofNil _ _,fun q h=>by simp at h⟩
   clear cK KX
   generalize Ba:([]:List Rc)=L at*
   clear Ba
   have cS:=fun W s=>ks l none 0 0 (aZ (l.map (·.r))).length W s dK (hide rfl)
   rw[iQ] at cS
   obtain⟨E2,j5⟩:∃E2,E2=bP L:=⟨_,rfl⟩
   obtain⟨D2,qj⟩:∃D2,D2=aZ L:=⟨_,rfl⟩
   rw[<-j5] at cS z3 z4 z5
   rw[<-qj] at cS z4 z5
   have x6:E2=0->D2.length=4:=fun e=>by rw[qj];exact bL (fp (by rw[<-j5];exact e))
   have pb:L.length=l.length:=by rw[<-iQ,List.length_map]
   rw[pb,<-dK.out] at z5
   obtain⟨dn,dp⟩:∃dn,dn=D2.length:=⟨_,rfl⟩
   rw[<-dp] at cS x6
   clear j5 qj iQ pb
   replace dp:=hide dp
   go_wp2_with fail
   go_at_call 19
   refine(cS _ LS).mono ?_
   rintro e w4 ⟨aN,GN,rfl,IN,b0⟩
   have b:=newB b0 (.cells #[.slice aN dn GN] 24)
   have BN:=ac.laid w4 [.slice aN dn GN] 24 _ rfl
   replace IN:=IN.alloc (.cells #[.slice aN dn GN] 24)
   clear b0 cS LS
   clear x0 x1 x2 x3 x4 xl
   replace BX:=BX.keep b BX.lt
   replace I:=I.call b
   replace bel:=aa bel b
   clear b
   have x0:=BX.cell 0
   have x1:=BX.cell 1
   have x2:=BX.cell 2
   have x3:=BX.cell 3
   have x4:=BX.cell 4
   have xl:=BX.lt
   go_upto_region 10 with fail
   generalize w4.heap.size=gN at*
   generalize World.alloc w4 _=w5 at*
   have n0:=BN.cell 0
   have nl:=BN.lt
   by_cases hz:E2=0
   .subst hz
    replace z4:=z4 rfl
    replace z5:=z5 rfl
    obtain rfl:dn=4:=x6 rfl
    have cM:=fun V k h=>u9 (C:=D2) (D:=C) (a:=aN) (b:=sa) (G:=GN) (H:=sG) (W:=V) k h (by rw[<-dp.out];decide)
    rw[<-dp.out,<-I.es,sI] at cM
    cases hs:bv C D2 with
    |false=>
     rw[hs] at cM z4
     have hW:=z4 (by simp)
     subst hW
     clear z3 z4 z5 x6
     go_wp2_with fail
     go_at_call 35
     refine(cM _ IN I.s).mono ?_
     rintro e w6 ⟨rfl,b⟩
     replace bel:=aa bel b
     go_wp2_with fail
     go_ret
     exact⟨rfl,bel⟩
    |true=>
     rw[hs] at cM z4 z5
     by_cases h3:R.length=3
     .have hW:=z5 ⟨rfl,h3⟩
      have qa:rn=3:=by rw[er.out];exact h3
      subst qa
      clear z3 z4 z5 x6
      go_wp2_with fail
      go_at_call 35
      refine(cM _ IN I.s).mono ?_
      rintro e w6 ⟨rfl,b⟩
      clear x0 x1 x2 x3 x4 xl
      replace BX:=BX.keep b BX.lt
      replace I:=I.call b
      clear BN n0 nl IN cM
      replace bel:=aa bel b
      clear b
      have x0:=BX.cell 0
      have x1:=BX.cell 1
      have x2:=BX.cell 2
      have x3:=BX.cell 3
      have x4:=BX.cell 4
      have xl:=BX.lt
      have SR:Sl w6 ra rc (R.map (Value.int .i64)):=I.r
      obtain⟨rb,ro,rfl,XP,_⟩:=SR.row.at (by intro e;rw[List.map_eq_nil_iff] at e;rw[e] at h3;simp at h3)
      replace hW:=hide hW
      replace h3:=hide h3
      go_wp2_with fail
      go_loopw [50] (fun i wr=>∃(k:Nat),k<=3/\i=.int .i64 k/\Hid (∀y∈R.take k,fd false 0 y=true)/\wr=w6) (fun i _=>3-(intOf i).toNat)
      case atStart=>exact⟨0,by omega,rfl,hide (fun y hy=>by simp at hy),rfl⟩
      case round=>
       obtain⟨k,my,rfl,H,rfl⟩:=hrel
       by_cases az:k<3
       .have cy:k<R.length:=by rw[h3.out];exact az
        have r0:=SR.int k cy
        have hm:R.getD k 0∈R:=by rw[List.getD_eq_getElem?_getD,List.getElem?_eq_getElem cy];exact List.getElem_mem cy
        have ht:R.take (k+1)=R.take k++[R.getD k 0]:=by rw[List.take_add_one,List.getD_eq_getElem?_getD,List.getElem?_eq_getElem cy];rfl
        replace ht:=hide ht
        have mS:=hide hm
        generalize R.getD k 0=v at*
        clear cy hm
        have cI:=fun V=>cm v (-1) ((0:Nat):Int) V
        by_cases pM:-1<=v/\v<=((0:Nat):Int)
        .have di:decide (-1<=v/\v<=((0:Nat):Int))=true:=decide_eq_true pM
         rw[di] at cI
         by_cases hv:0<=v
         .have My:WE=3:=by
           rw[hW.out,if_neg]
           intro ha
           have:=List.all_eq_true.1 ha v mS.out
           unfold fd at this
           rw[di] at this
           simp at this
           omega
          clear pM di H hW
          subst My
          go_wp2_with fail
          go_at_call 36
          refine(cI _).mono ?_
          rintro e w7 ⟨rfl,rfl⟩
          go_wp2_with fail
          go_ret
          exact⟨rfl,bel⟩
         .have H2:∀y∈R.take (k+1),fd false 0 y=true:=by
           intro y hy
           rw[ht.out] at hy
           rcases List.mem_append.1 hy with hy|hy
           .exact H.out y hy
           .rw[List.mem_singleton.1 hy]
            unfold fd
            rw[di]
            simp;omega
          replace H2:=hide H2
          clear H pM di
          go_wp2_with fail
          go_at_call 36
          refine(cI _).mono ?_
          rintro e w7 ⟨rfl,rfl⟩
          go_wp2_with fail
          go_roundw
          case rel=>exact⟨k+1,by omega,by go_num,H2,by trivial⟩
          case measure=>simp[intOf];omega
        .have di:decide (-1<=v/\v<=((0:Nat):Int))=false:=decide_eq_false pM
         rw[di] at cI
         have My:WE=3:=by
          rw[hW.out,if_neg]
          intro ha
          have:=List.all_eq_true.1 ha v mS.out
          unfold fd at this
          rw[di] at this
          simp at this
         clear pM di H hW
         subst My
         go_wp2_with fail
         go_at_call 36
         refine(cI _).mono ?_
         rintro e w7 ⟨rfl,rfl⟩
         go_wp2_with fail
         go_ret
         exact⟨rfl,bel⟩
       .obtain rfl:k=3:=by omega
        have Dt:WE=0:=by
         rw[hW.out,if_pos]
         refine List.all_eq_true.2 fun y hy=>?_
         have:=H.out y
         rw[List.take_of_length_le (by rw[h3.out];exact Nat.le_refl _)] at this
         exact this hy
        clear H hW
        subst Dt
        go_wp2_with fail
        go_ret
        exact⟨rfl,bel⟩
     .have hW:=z4 (fun h=>h3 h.2)
      subst hW
      have qa:¬rn=3:=by rw[er.out];exact h3
      have Rd:¬((rn:Int)=3):=by omega
      have oZ:((rn:Int) != 3)=true:=by simpa using Rd
      clear z3 z4 z5 x6
      go_wp2_with fail
      go_at_call 35
      refine(cM _ IN I.s).mono ?_
      rintro e w6 ⟨rfl,b⟩
      clear x0 x1 x2 x3 x4 xl
      replace BX:=BX.keep b BX.lt
      replace I:=I.call b
      replace bel:=aa bel b
      clear b
      have x0:=BX.cell 0
      have x1:=BX.cell 1
      have x2:=BX.cell 2
      have x3:=BX.cell 3
      have x4:=BX.cell 4
      have xl:=BX.lt
      go_wp2_with fail
      go_ret
      exact⟨rfl,bel⟩
   .have hd:decide (E2=0)=false:=decide_eq_false hz
    have hW:=z3 hz
    subst hW
    go_wp2_with fail
    go_ret
    exact⟨rfl,bel⟩
 .have hd:decide (K=0)=false:=decide_eq_false hk
  have hW:=z1 hk
  subst hW
  clear z2 z3 z4 z5 cQ
  go_enter Tryz.func9,Tryz.ntmps9
  go_upto_region 1 with fail
  generalize World.alloc w _=w1 at*
  have x0:=BX.cell 0
  have x1:=BX.cell 1
  have x2:=BX.cell 2
  have x3:=BX.cell 3
  have x4:=BX.cell 4
  have xl:=BX.lt
  go_wp2_with fail
  go_at_call 34
  refine(cK _ (hg.call bel) I.s1).mono ?_
  rintro e w2 ⟨rfl,b⟩
  clear x0 x1 x2 x3 x4 xl
  replace BX:=BX.keep b BX.lt
  replace I:=I.call b
  replace bel:=aa bel b
  clear b
  have x0:=BX.cell 0
  have x1:=BX.cell 1
  have x2:=BX.cell 2
  have x3:=BX.cell 3
  have x4:=BX.cell 4
  have xl:=BX.lt
  go_wp2_with fail
  go_ret
  exact⟨rfl,bel⟩
end Go.Proofs.YtoonnbhoiocoeaaGreatDoor
namespace Go.Proofs.YtoonnbhoiocoeaaGreatDoor
open Go.RowKit
theorem KJ {l:List Pt}{j:Nat}{p:Pt}(f t:Int)(hx:l[j]? =some p):gH (l.take (j+1)) f t=if Fx f t p=true then gH (l.take j) f t++[p] else gH (l.take j) f t:=by
 unfold gH
 rw[List.take_add_one,hx,List.filter_append]
 cases h:Fx f t p with
 |true=>simp[h]
 |false=>simp[h]
theorem DS (l:List Pt)(ao:Option Addr)(cap n:Nat)(f t:Int)(w:World)(S:aI w ao cap l)(hn:l.length=n)(few:n<=40):
  Calls Tryz.prog 22 #[.slice ao n cap,.int .i64 f,.int .i64 t] w fun e w'=>∃a' G',e=.returned (.slice a' (gH l f t).length G')/\w'.ownsRow w.heap.size 56 2 (.slice a' (gH l f t).length G') (gH l f t).length (am (gH l f t))/\Below w.heap.size w w':=by
 have hn0:Hid (n=l.length):=hide hn.symm
 clear hn
 obtain⟨R,hR⟩:∃R,R=gH l f t:=⟨_,rfl⟩
 rw[<-hR]
 replace hR:=hide hR
 obtain⟨i0,hi,bU,bi,bk⟩:=info_parts jy
 go_enter Tryz.func22,Tryz.ntmps22
 go_wp2_with fail
 go_loopw [12,7] (fun i o wr=>∃(j q G:Nat) (a':Option Addr) (O:List Pt),j<=n/\i=.int .i64 j/\o=.slice a' q G/\q<=j/\Hid (q=O.length)/\Hid (O=gH (l.take j) f t)/\wr.ownsRow w.heap.size 56 2 (.slice a' q G) q (am O)/\Below w.heap.size w wr) (fun i _ _=>n-(intOf i).toNat)
 case atStart=>exact⟨0,0,0,none,[],by omega,rfl,rfl,by omega,hide rfl,hide rfl,World.ownsRow_nil _ _ _ _,Below.refl _ _⟩
 case round=>
  obtain⟨j,q,G,a',O,hj,rfl,rfl,hq,eq,eO,own,bel⟩:=hrel
  by_cases az:j<n
  .have S1:=S.keep bel (Nat.le_refl _)
   have Kr:j<l.length:=by rw[<-hn0.out];exact az
   obtain⟨b,off,rfl,pL⟩:=S1.where (by intro e;rw[e] at Kr;simp at Kr)
   obtain⟨x,y,e0,e1,hx,_⟩:=S1.pt j Kr
   have st:=KJ f t hx
   have o2:=own.alloc (.cells #[.int .i64 x,.int .i64 y] 56)
   have al:=av bel (.cells #[.int .i64 x,.int .i64 y] 56)
   clear hx Kr S1
   by_cases hf:f<=x
   .by_cases ht:x<t
    .rw[if_pos (by unfold Fx;simp;omega)] at st
     have uu:Hid (O++[(x,y)]=gH (l.take (j+1)) f t):=by rw[st,eO.out];exact hide rfl
     replace st:=hide st
     have BP:=ac.laid wr [.int .i64 x,.int .i64 y] 56 _ rfl
     go_upto_region 6 with fail
     generalize wr.heap.size=g9 at*
     generalize wr.alloc _=w8 at*
     have v1:w8.cell? ⟨g9,0,none⟩=some (.int .i64 x):=BP.cell 0
     have v2:w8.cell? ⟨g9,1,none⟩=some (.int .i64 y):=BP.cell 1
     have sj:=al.size
     clear e0 e1
     go_wp2_with (at_builtin;refine aW w8 rfl (.tmp 26) (.tmp 28) 42 rfl w.heap.size 56 i0 _ 2 16 Tryz.underlying42 hi bU bi bk rfl (by decide) (.slice a' q G) q _ (by rfl) o2 1 #[.int .i64 x,.int .i64 y] 56 (by rfl) (by rfl) (by simp[Value.oneCell']) (by decide) (by unfold maxLen;omega) (by omega) sj ?_)
     intro v9 w9 lH pi Bi
     have aq:=aH al o2 pi (Nat.le_refl _) sj
     rw[show am O++(#[Value.int .i64 x,.int .i64 y]:Array Value).toList=am (O++[(x,y)]) by rw[cq];rfl] at lH
     obtain⟨a9,G9,rfl,_,_,_⟩:=aI.ofOwn lH
     have L6:Hid (q+1=(O++[(x,y)]).length):=by rw[List.length_append,<-eq.out];exact hide rfl
     go_wp2_with fail
     go_roundw
     case rel=>exact⟨j+1,q+1,G9,a9,_,by omega,by go_num,rfl,by omega,L6,uu,lH,aq⟩
     case measure=>simp[intOf];omega
    .rw[if_neg (by unfold Fx;simp;omega)] at st
     have uu:Hid (O=gH (l.take (j+1)) f t):=by rw[st];exact eO
     replace st:=hide st
     go_wp2_with fail
     go_roundw
     case rel=>exact⟨j+1,q,G,a',O,by omega,by go_num,rfl,by omega,eq,uu,o2,al⟩
     case measure=>simp[intOf];omega
   .rw[if_neg (by unfold Fx;simp;omega)] at st
    have uu:Hid (O=gH (l.take (j+1)) f t):=by rw[st];exact eO
    replace st:=hide st
    go_wp2_with fail
    go_roundw
    case rel=>exact⟨j+1,q,G,a',O,by omega,by go_num,rfl,by omega,eq,uu,o2,al⟩
    case measure=>simp[intOf];omega
  .obtain rfl:j=n:=by omega
   have UH:=eO.out
   rw[hn0.out,List.take_length,<-hR.out] at UH
   subst UH
   go_wp2_with fail
   go_ret
   exact⟨_,_,by rw[eq.out];rfl,by rw[<-eq.out];exact own,bel⟩
end Go.Proofs.YtoonnbhoiocoeaaGreatDoor
