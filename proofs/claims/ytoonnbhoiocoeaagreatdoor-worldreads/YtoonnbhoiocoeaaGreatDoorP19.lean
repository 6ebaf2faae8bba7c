/-
  store.Next and store.Replay: what they make lies in memory of the call's own, as far as heads go.
-/
import Derived.Deep.RegionHeld3
import Derived.Deep.Cut
import Derived.Deep.CutRange
import Derived.Deep.RegionLaw
import Derived.Test.YtoonnbhoiocoeaaGreatDoorP18
import Derived.Test.YtoonnbhoiocoeaaGreatDoorP07
import Derived.Test.YtoonnbhoiocoeaaGreatDoorP05
import Derived.Test.YtoonnbhoiocoeaaGreatDoorP01
set_option maxHeartbeats 40000000
set_option maxRecDepth 100000
set_option linter.unusedVariables false
namespace Go.Proofs.YtoonnbhoiocoeaaGreatDoor
open Go.RowKit
structure fa (base:Nat)(W:World)(a:Option Addr)(G:Nat)(C:List Rw):Prop where
 ex:∃rs:List Lr,rs.map Lr.rw=C/\bJ W a G rs/\fw base rs
theorem fa.is {base:Nat}{W:World}{a:Option Addr}{G:Nat}{C:List Rw}(h:fa base W a G C):dC W a G C:=by
 obtain⟨rs,e,s,_⟩:=h.ex
 exact⟨rs,e,s⟩
theorem fa.down {base base':Nat}{W:World}{a:Option Addr}{G:Nat}{C:List Rw}(h:fa base W a G C)(hb:base'<=base):fa base' W a G C:=by
 obtain⟨rs,e,s,l⟩:=h.ex
 exact⟨rs,e,s,l.mono hb⟩
theorem fa.call {base:Nat}{W W':World}{a:Option Addr}{G:Nat}{C:List Rw}(h:fa base W a G C)(hb:Below W.heap.size W W'):fa base W' a G C:=by
 obtain⟨rs,e,s,l⟩:=h.ex
 exact⟨rs,e,s.call hb,l⟩
theorem fa.alloc {base:Nat}{W:World}{a:Option Addr}{G:Nat}{C:List Rw}(h:fa base W a G C)(o:Obj):fa base (W.alloc o) a G C:=by
 obtain⟨rs,e,s,l⟩:=h.ex
 exact⟨rs,e,s.alloc o,l⟩
theorem fa.nul (base:Nat)(w:World):fa base w none 0 []:=⟨[],rfl,⟨⟨.inl rfl,Nat.le_refl _,by decide,fun _=>rfl⟩,fun r hr=>(by cases hr)⟩,fw.nil _⟩
theorem fa.boxed {base:Nat}{w:World}{a:Option Addr}{G g:Nat}{C:List Rw}{a1:Option Addr}{n1 c1:Nat}(h:fa base w a G C)(B:ac w g [.slice a1 n1 c1] 24)(u:Value):fa base (w.setCell ⟨g,0,none⟩ u) a G C:=by
 obtain⟨rs,rfl,s,l⟩:=h.ex
 cases rs with
 |nil=>exact⟨[],rfl,⟨⟨.inl rfl,s.sl.le,s.sl.max,s.sl.nil⟩,fun r hr=>(by cases hr)⟩,l⟩
 |cons x q=>
  have grow:=ak (au w (some g)) 0 u
  have hl:=ar Lr.two (x::q)
  exact⟨x::q,rfl,⟨⟨s.sl.row.off grow (s.sl.row.offOne B (by rw[hl];simp only[List.length_cons];omega)),s.sl.le,s.sl.max,s.sl.nil⟩,fun r hr=>(s.good r hr).offSl grow B (ik _ _ _)⟩,l⟩
def qJ (E:Int)(C:List Rw)(W:World)(e:Ending)(w':World):Prop:=
 ∃a' G',e=.returned (.tuple #[.agg #[.slice a' C.length G'],.int .i64 E])/\fa W.heap.size w' a' G' C/\Below W.heap.size W w'
theorem oL {E:Int}{C:List Rw}{W:World}{e:Ending}{w':World}(h:∃rs a' G,e=.returned (.tuple #[.agg #[.slice a' rs.length G],.int .i64 E])/\rs.map Lr.rw=C/\bJ w' a' G rs/\fw W.heap.size rs/\Below W.heap.size W w'):qJ E C W e w':=by
 obtain⟨rs,a',G,he,rfl,s,l,b⟩:=h
 exact⟨a',G,by rw[he,List.length_map],⟨rs,rfl,s,l⟩,b⟩
theorem N5 {C:List Rw}{a:Option Addr}{G:Nat}{W:World}(L:List En)(la:Option Addr)(lc:Nat)(h:dC W a G C)(hL:aY En.cells W la lc L)(few:L.length<=140737488355328):
  Calls Tryz.prog 120 #[.agg #[.slice a C.length G],.slice la L.length lc] W (qJ (iX C (fG C L)) (ia C (fG C L) (iH C L)) W):=by
 obtain⟨rs,rfl,t⟩:=h.ex
 rw[List.length_map]
 exact(IY rs a G L la lc W t hL few).mono fun e w' h=>oL h
theorem Ku {C:List Rw}{a:Option Addr}{G:Nat}{W:World}(s n:Int)(h:dC W a G C):
  Calls Tryz.prog 121 #[.agg #[.slice a C.length G],.int .i64 s,.int .i64 n] W (qJ (iX C (eJ C s n)) (ia C (eJ C s n) (gn C s n)) W):=by
 obtain⟨rs,rfl,t⟩:=h.ex
 rw[List.length_map]
 exact(GJ rs a G s n W t).mono fun e w' h=>oL h
theorem GK {C:List Rw}{a:Option Addr}{G:Nat}{W:World}(s n:Int)(h:dC W a G C):
  Calls Tryz.prog 122 #[.agg #[.slice a C.length G],.int .i64 s,.int .i64 n] W (qJ (iX C (gm C s n)) (ia C (gm C s n) (jQ C s n)) W):=by
 obtain⟨rs,rfl,t⟩:=h.ex
 rw[List.length_map]
 exact(Fr rs a G s n W t).mono fun e w' h=>oL h
theorem JJ {C:List Rw}{a:Option Addr}{G:Nat}{W:World}(n:Int)(h:dC W a G C):
  Calls Tryz.prog 123 #[.agg #[.slice a C.length G],.int .i64 n] W (qJ (iX C (fP n)) (ia C (fP n) (ip C n)) W):=by
 obtain⟨rs,rfl,t⟩:=h.ex
 rw[List.length_map]
 exact(Gp rs a G n W t).mono fun e w' h=>oL h
def O6 (E:Int)(D:List Rw)(dn:Nat)(W:World)(e:Ending)(w':World):Prop:=
 ∃a' G',e=.returned (.tuple #[.agg #[.slice a' dn G'],.int .i64 E])/\fa W.heap.size w' a' G' D/\Below W.heap.size W w'
theorem wj {E:Int}{D:List Rw}{dn:Nat}{W:World}{f:Nat}{args:Array Value}(hd:Hid (dn=D.length))(c:Calls Tryz.prog f args W (qJ E D W)):Calls Tryz.prog f args W (O6 E D dn W):=by
 obtain rfl:=hd.out
 exact c
theorem Ng (W:World):
  Calls Tryz.prog 44 #[] W fun e w'=>∃a' G',e=.returned (.agg #[.slice a' 4 G'])/\fa W.heap.size w' a' G' Ct/\Below W.heap.size W w':=by
 refine(zP W).mono ?_
 rintro e w' ⟨a',G',rfl,s,b⟩
 exact⟨a',G',rfl,⟨_,rfl,s,fun r hr ad e=>by
  simp only[oK,List.mem_cons,List.not_mem_nil,or_false,or_self] at hr
  subst hr
  cases e⟩,b⟩
theorem zY (C:List Rw)(r:Rc)(a a3:Option Addr)(G c3 n3 cn dn:Nat)(w:World)(h:dC w a G C)(s3:aY ec w a3 c3 r.e)(h3:Hid (n3=r.e.length))(CU:Hid (cn=C.length))(dp:Hid (dn=(dW C r).length)):
  Calls Tryz.prog 90 #[.agg #[.slice a cn G],.agg #[.int .i64 r.k,.int .i64 r.s,.int .i64 r.n,.slice a3 n3 c3]] w (O6 (cd C r) (dW C r) dn w):=by
 have bel:=newB (newB (newB (Below.refl w.heap.size w) (.cells #[.slice a cn G] 24)) (.cells #[.int .i64 r.k,.int .i64 r.s,.int .i64 r.n,.slice a3 n3 c3] 73)) (.cells #[.slice none 0 0] 24)
 have B1:=((ac.laid w [.slice a cn G] 24 _ rfl).alc (.cells #[.int .i64 r.k,.int .i64 r.s,.int .i64 r.n,.slice a3 n3 c3] 73)).alc (.cells #[.slice none 0 0] 24)
 have B2:=(ac.laid (w.alloc (.cells #[.slice a cn G] 24)) [.int .i64 r.k,.int .i64 r.s,.int .i64 r.n,.slice a3 n3 c3] 73 (w.heap.size+1) (by simp)).alc (.cells #[.slice none 0 0] 24)
 have B3:=ac.laid ((w.alloc (.cells #[.slice a cn G] 24)).alloc (.cells #[.int .i64 r.k,.int .i64 r.s,.int .i64 r.n,.slice a3 n3 c3] 73)) [.slice none 0 0] 24 (w.heap.size+1+1) (by simp)
 have S:=h.keep bel (Nat.le_refl _)
 have S3:=s3.keep bel (Nat.le_refl _)
 have cC:=fun W (h:dC W a G C)=>Dv h
 have cN:=fun W (s:aY ec W a3 c3 r.e)=>uC r a3 c3 n3 W s h3.out
 rw[<-CU.out] at cC
 by_cases hz:aE C=0
 .by_cases hr:aV r=0
  .obtain⟨g1,g2,g3,g4,g5⟩:=NW hz
   have hE:cd C r=iu C r:=by unfold cd;rw[if_neg (by simp[hz]),if_neg (by simp[hr])]
   have hL:dW C r=iq C r:=by unfold dW;rw[if_neg (by simp[hz]),if_neg (by simp[hr])]
   have few:=yh hr
   have cP:=fun W (h:dC W a G C) (t:aY ec W a3 c3 r.e)=>N5 (jd r.e) a3 c3 h (QG t) (by rw[tE];omega)
   have cS:=fun W (h:dC W a G C)=>Ku r.s r.n h
   have cM:=fun W (h:dC W a G C)=>GK r.s r.n h
   have cD:=fun W (h:dC W a G C)=>JJ r.n h
   simp only[g1,g2,g3,g4,g5,tE] at cP cS cM cD
   rw[<-CU.out] at cP cS cM cD
   rw[<-h3.out] at cP
   rw[hz] at cC
   rw[hr] at cN
   obtain⟨w1,w2,w3,w4⟩:=wO C r
   have kd:=AF hr
   rw[<-hE,<-hL] at w1 w2 w3 w4
   obtain⟨K,s',m',l⟩:=r
   simp only at*
   generalize cd C ⟨K,s',m',l⟩=E at*
   generalize dW C ⟨K,s',m',l⟩=D at*
   clear hE hL g1 g2 g3 g4 g5 hr hz
   rcases kd with rfl|rfl|rfl|rfl
   .obtain⟨w5,w6⟩:=w1 rfl
    rw[<-w5,<-w6] at cP
    clear w1 w2 w3 w4 w5 w6 cS cM cD
    go_enter Tryz.func90,Tryz.ntmps90
    go_upto_region 1 with fail
    generalize World.alloc (World.alloc (World.alloc w _) _) _=wa at*
    have kn:=B1.cell 0
    have kg:=B1.lt
    go_wp2_with fail
    go_at_call 79
    refine(cC _ S).mono ?_
    rintro e wb ⟨rfl,bb⟩
    clear kn kg
    replace B1:=B1.keep bb B1.lt
    replace B2:=B2.keep bb B2.lt
    replace B3:=B3.keep bb B3.lt
    replace S:=S.call bb
    replace S3:=S3.call bb
    replace bel:=aa bel bb
    clear bb
    have lB:=B2.cell 0
    have ll:=B2.cell 1
    have lj:=B2.cell 2
    have lw:=B2.cell 3
    have lr:=B2.lt
    go_wp2_with fail
    go_at_call 119
    refine(cN _ S3).mono ?_
    rintro e wc ⟨rfl,bb⟩
    clear lB ll lj lw lr
    replace B1:=B1.keep bb B1.lt
    replace B2:=B2.keep bb B2.lt
    replace B3:=B3.keep bb B3.lt
    replace S:=S.call bb
    replace S3:=S3.call bb
    replace bel:=aa bel bb
    clear bb
    have kn:=B1.cell 0
    have kg:=B1.lt
    have lB:=B2.cell 0
    have ll:=B2.cell 1
    have lj:=B2.cell 2
    have lw:=B2.cell 3
    have lr:=B2.lt
    go_wp2_with fail
    go_at_call 120
    refine(wj dp (cP _ S S3)).mono ?_
    rintro e wd ⟨a',G',rfl,I,bb⟩
    replace I:=I.down bel.size
    clear kn kg lB ll lj lw lr
    replace B3:=B3.keep bb B3.lt
    replace bel:=aa bel bb
    clear bb
    have Ck:=B3.cell 0
    have Cu:=B3.lt
    have f0:=B3.free 0
    go_wp2_with fail
    have B9:=B3.set 0 (.slice a' dn G')
    have aq:=bel.setCell (p:=⟨w.heap.size+1+1,0,none⟩) (Nat.le_trans (Nat.le_succ _) (Nat.le_succ _)) (.slice a' dn G')
    have I9:=fa.boxed (I) B3 (.slice a' dn G')
    have i0:=B9.cell 0
    exact bodyPost_ret (v:=.tuple #[.agg #[.slice a' dn G'],.int .i64 E]) (by simp[results,Tryz.results90,go_sem,i0]) rfl ⟨_,_,rfl,I9,aq⟩
   .obtain⟨w5,w6⟩:=w2 rfl
    rw[<-w5,<-w6] at cS
    clear w1 w2 w3 w4 w5 w6 cP cM cD
    go_enter Tryz.func90,Tryz.ntmps90
    go_upto_region 1 with fail
    generalize World.alloc (World.alloc (World.alloc w _) _) _=wa at*
    have kn:=B1.cell 0
    have kg:=B1.lt
    go_wp2_with fail
    go_at_call 79
    refine(cC _ S).mono ?_
    rintro e wb ⟨rfl,bb⟩
    clear kn kg
    replace B1:=B1.keep bb B1.lt
    replace B2:=B2.keep bb B2.lt
    replace B3:=B3.keep bb B3.lt
    replace S:=S.call bb
    replace S3:=S3.call bb
    replace bel:=aa bel bb
    clear bb
    have lB:=B2.cell 0
    have ll:=B2.cell 1
    have lj:=B2.cell 2
    have lw:=B2.cell 3
    have lr:=B2.lt
    go_wp2_with fail
    go_at_call 119
    refine(cN _ S3).mono ?_
    rintro e wc ⟨rfl,bb⟩
    clear lB ll lj lw lr
    replace B1:=B1.keep bb B1.lt
    replace B2:=B2.keep bb B2.lt
    replace B3:=B3.keep bb B3.lt
    replace S:=S.call bb
    replace S3:=S3.call bb
    replace bel:=aa bel bb
    clear bb
    have kn:=B1.cell 0
    have kg:=B1.lt
    have lB:=B2.cell 0
    have ll:=B2.cell 1
    have lj:=B2.cell 2
    have lw:=B2.cell 3
    have lr:=B2.lt
    go_wp2_with fail
    go_at_call 121
    refine(wj dp (cS _ S)).mono ?_
    rintro e wd ⟨a',G',rfl,I,bb⟩
    replace I:=I.down bel.size
    clear kn kg lB ll lj lw lr
    replace B3:=B3.keep bb B3.lt
    replace bel:=aa bel bb
    clear bb
    have Ck:=B3.cell 0
    have Cu:=B3.lt
    have f0:=B3.free 0
    go_wp2_with fail
    have B9:=B3.set 0 (.slice a' dn G')
    have aq:=bel.setCell (p:=⟨w.heap.size+1+1,0,none⟩) (Nat.le_trans (Nat.le_succ _) (Nat.le_succ _)) (.slice a' dn G')
    have I9:=fa.boxed (I) B3 (.slice a' dn G')
    have i0:=B9.cell 0
    exact bodyPost_ret (v:=.tuple #[.agg #[.slice a' dn G'],.int .i64 E]) (by simp[results,Tryz.results90,go_sem,i0]) rfl ⟨_,_,rfl,I9,aq⟩
   .obtain⟨w5,w6⟩:=w3 rfl
    rw[<-w5,<-w6] at cM
    clear w1 w2 w3 w4 w5 w6 cP cS cD
    go_enter Tryz.func90,Tryz.ntmps90
    go_upto_region 1 with fail
    generalize World.alloc (World.alloc (World.alloc w _) _) _=wa at*
    have kn:=B1.cell 0
    have kg:=B1.lt
    go_wp2_with fail
    go_at_call 79
    refine(cC _ S).mono ?_
    rintro e wb ⟨rfl,bb⟩
    clear kn kg
    replace B1:=B1.keep bb B1.lt
    replace B2:=B2.keep bb B2.lt
    replace B3:=B3.keep bb B3.lt
    replace S:=S.call bb
    replace S3:=S3.call bb
    replace bel:=aa bel bb
    clear bb
    have lB:=B2.cell 0
    have ll:=B2.cell 1
    have lj:=B2.cell 2
    have lw:=B2.cell 3
    have lr:=B2.lt
    go_wp2_with fail
    go_at_call 119
    refine(cN _ S3).mono ?_
    rintro e wc ⟨rfl,bb⟩
    clear lB ll lj lw lr
    replace B1:=B1.keep bb B1.lt
    replace B2:=B2.keep bb B2.lt
    replace B3:=B3.keep bb B3.lt
    replace S:=S.call bb
    replace S3:=S3.call bb
    replace bel:=aa bel bb
    clear bb
    have kn:=B1.cell 0
    have kg:=B1.lt
    have lB:=B2.cell 0
    have ll:=B2.cell 1
    have lj:=B2.cell 2
    have lw:=B2.cell 3
    have lr:=B2.lt
    go_wp2_with fail
    go_at_call 122
    refine(wj dp (cM _ S)).mono ?_
    rintro e wd ⟨a',G',rfl,I,bb⟩
    replace I:=I.down bel.size
    clear kn kg lB ll lj lw lr
    replace B3:=B3.keep bb B3.lt
    replace bel:=aa bel bb
    clear bb
    have Ck:=B3.cell 0
    have Cu:=B3.lt
    have f0:=B3.free 0
    go_wp2_with fail
    have B9:=B3.set 0 (.slice a' dn G')
    have aq:=bel.setCell (p:=⟨w.heap.size+1+1,0,none⟩) (Nat.le_trans (Nat.le_succ _) (Nat.le_succ _)) (.slice a' dn G')
    have I9:=fa.boxed (I) B3 (.slice a' dn G')
    have i0:=B9.cell 0
    exact bodyPost_ret (v:=.tuple #[.agg #[.slice a' dn G'],.int .i64 E]) (by simp[results,Tryz.results90,go_sem,i0]) rfl ⟨_,_,rfl,I9,aq⟩
   .obtain⟨w5,w6⟩:=w4 rfl
    rw[<-w5,<-w6] at cD
    clear w1 w2 w3 w4 w5 w6 cP cS cM
    go_enter Tryz.func90,Tryz.ntmps90
    go_upto_region 1 with fail
    generalize World.alloc (World.alloc (World.alloc w _) _) _=wa at*
    have kn:=B1.cell 0
    have kg:=B1.lt
    go_wp2_with fail
    go_at_call 79
    refine(cC _ S).mono ?_
    rintro e wb ⟨rfl,bb⟩
    clear kn kg
    replace B1:=B1.keep bb B1.lt
    replace B2:=B2.keep bb B2.lt
    replace B3:=B3.keep bb B3.lt
    replace S:=S.call bb
    replace S3:=S3.call bb
    replace bel:=aa bel bb
    clear bb
    have lB:=B2.cell 0
    have ll:=B2.cell 1
    have lj:=B2.cell 2
    have lw:=B2.cell 3
    have lr:=B2.lt
    go_wp2_with fail
    go_at_call 119
    refine(cN _ S3).mono ?_
    rintro e wc ⟨rfl,bb⟩
    clear lB ll lj lw lr
    replace B1:=B1.keep bb B1.lt
    replace B2:=B2.keep bb B2.lt
    replace B3:=B3.keep bb B3.lt
    replace S:=S.call bb
    replace S3:=S3.call bb
    replace bel:=aa bel bb
    clear bb
    have kn:=B1.cell 0
    have kg:=B1.lt
    have lB:=B2.cell 0
    have ll:=B2.cell 1
    have lj:=B2.cell 2
    have lw:=B2.cell 3
    have lr:=B2.lt
    go_wp2_with fail
    go_at_call 123
    refine(wj dp (cD _ S)).mono ?_
    rintro e wd ⟨a',G',rfl,I,bb⟩
    replace I:=I.down bel.size
    clear kn kg lB ll lj lw lr
    replace B3:=B3.keep bb B3.lt
    replace bel:=aa bel bb
    clear bb
    have Ck:=B3.cell 0
    have Cu:=B3.lt
    have f0:=B3.free 0
    go_wp2_with fail
    have B9:=B3.set 0 (.slice a' dn G')
    have aq:=bel.setCell (p:=⟨w.heap.size+1+1,0,none⟩) (Nat.le_trans (Nat.le_succ _) (Nat.le_succ _)) (.slice a' dn G')
    have I9:=fa.boxed (I) B3 (.slice a' dn G')
    have i0:=B9.cell 0
    exact bodyPost_ret (v:=.tuple #[.agg #[.slice a' dn G'],.int .i64 E]) (by simp[results,Tryz.results90,go_sem,i0]) rfl ⟨_,_,rfl,I9,aq⟩
  .have hE:cd C r=aV r:=by unfold cd;rw[if_neg (by simp[hz]),if_pos hr]
   have hD:dW C r=[]:=J2 (by rw[hE];exact hr)
   have PV:decide (aV r=0)=false:=decide_eq_false hr
   rw[hz] at cC
   rw[hD] at dp⊢
   rw[hE]
   obtain rfl:dn=0:=dp.out
   generalize aV r=E at*
   obtain⟨K,s',m',l⟩:=r
   simp only at*
   clear hE hD dp hz
   go_enter Tryz.func90,Tryz.ntmps90
   go_upto_region 1 with fail
   generalize World.alloc (World.alloc (World.alloc w _) _) _=wa at*
   have kn:=B1.cell 0
   have kg:=B1.lt
   go_wp2_with fail
   go_at_call 79
   refine(cC _ S).mono ?_
   rintro e wb ⟨rfl,bb⟩
   clear kn kg
   replace B1:=B1.keep bb B1.lt
   replace B2:=B2.keep bb B2.lt
   replace B3:=B3.keep bb B3.lt
   replace S:=S.call bb
   replace S3:=S3.call bb
   replace bel:=aa bel bb
   clear bb
   have lB:=B2.cell 0
   have ll:=B2.cell 1
   have lj:=B2.cell 2
   have lw:=B2.cell 3
   have lr:=B2.lt
   go_wp2_with fail
   go_at_call 119
   refine(cN _ S3).mono ?_
   rintro e wc ⟨rfl,bb⟩
   clear lB ll lj lw lr
   replace B1:=B1.keep bb B1.lt
   replace B2:=B2.keep bb B2.lt
   replace B3:=B3.keep bb B3.lt
   replace S:=S.call bb
   replace S3:=S3.call bb
   replace bel:=aa bel bb
   clear bb
   have Ck:=B3.cell 0
   have Cu:=B3.lt
   have f0:=B3.free 0
   go_wp2_with fail
   have B9:=B3.set 0 (.slice none 0 0)
   have aq:=bel.setCell (p:=⟨w.heap.size+1+1,0,none⟩) (Nat.le_trans (Nat.le_succ _) (Nat.le_succ _)) (.slice none 0 0)
   have I9:=fa.boxed (fa.nul w.heap.size _) B3 (.slice none 0 0)
   have i0:=B9.cell 0
   exact bodyPost_ret (v:=.tuple #[.agg #[.slice none 0 0],.int .i64 E]) (by simp[results,Tryz.results90,go_sem,i0]) rfl ⟨_,_,rfl,I9,aq⟩
 .have hE:cd C r=aE C:=if_pos hz
  have hD:dW C r=[]:=if_pos hz
  have PV:decide (aE C=0)=false:=decide_eq_false hz
  rw[hD] at dp⊢
  rw[hE]
  obtain rfl:dn=0:=dp.out
  generalize aE C=E at*
  obtain⟨K,s',m',l⟩:=r
  simp only at*
  clear hE hD dp
  go_enter Tryz.func90,Tryz.ntmps90
  go_upto_region 1 with fail
  generalize World.alloc (World.alloc (World.alloc w _) _) _=wa at*
  have kn:=B1.cell 0
  have kg:=B1.lt
  go_wp2_with fail
  go_at_call 79
  refine(cC _ S).mono ?_
  rintro e wb ⟨rfl,bb⟩
  clear kn kg
  replace B1:=B1.keep bb B1.lt
  replace B2:=B2.keep bb B2.lt
  replace B3:=B3.keep bb B3.lt
  replace S:=S.call bb
  replace S3:=S3.call bb
  replace bel:=aa bel bb
  clear bb
  have Ck:=B3.cell 0
  have Cu:=B3.lt
  have f0:=B3.free 0
  go_wp2_with fail
  have B9:=B3.set 0 (.slice none 0 0)
  have aq:=bel.setCell (p:=⟨w.heap.size+1+1,0,none⟩) (Nat.le_trans (Nat.le_succ _) (Nat.le_succ _)) (.slice none 0 0)
  have I9:=fa.boxed (fa.nul w.heap.size _) B3 (.slice none 0 0)
  have i0:=B9.cell 0
  exact bodyPost_ret (v:=.tuple #[.agg #[.slice none 0 0],.int .i64 E]) (by simp[results,Tryz.results90,go_sem,i0]) rfl ⟨_,_,rfl,I9,aq⟩
theorem kZ (l:List bF)(la:Option Addr)(n c dn:Nat)(w:World)(S:dI w la c l)(hn:Hid (n=l.length))(dp:Hid (dn=(aZ (l.map (·.r))).length)):
  Calls Tryz.prog 54 #[.slice la n c] w (O6 (bP (l.map (·.r))) (aZ (l.map (·.r))) dn w):=by
 have hmax:=S.row.max
 have fF:=S.row.le
 have G0:n<=c:=by rw[hn.out];exact fF
 obtain⟨R,hR⟩:∃R,R=l.map (·.r):=⟨_,rfl⟩
 have uT:R.length=n:=by rw[hR,List.length_map,hn.out]
 rw[<-hR] at dp⊢
 have BR:=ac.laid w [.slice none 0 0] 24 _ rfl
 have bel:=newB (Below.refl w.heap.size w) (.cells #[.slice none 0 0] 24)
 by_cases hm:60<n
 .have jf:(60:Int)<n:=by omega
  obtain⟨e1,e2⟩:=x5 (R:=R) (by omega)
  rw[e2] at dp⊢
  rw[e1]
  obtain rfl:dn=0:=dp.out
  clear dp e1 e2 hR uT hmax fF
  go_enter Tryz.func54,Tryz.ntmps54
  go_upto_region 1 with fail
  generalize World.alloc w _=w1 at*
  have x0:=BR.cell 0
  have f0:=BR.free 0
  have xl:=BR.lt
  go_wp2_with fail
  have B9:=BR.set 0 (.slice none 0 0)
  have aq:=bel.setCell (p:=⟨w.heap.size,0,none⟩) (Nat.le_refl _) (.slice none 0 0)
  have I9:=(fa.nul w.heap.size w1).boxed BR (.slice none 0 0)
  have i0:=B9.cell 0
  exact bodyPost_ret (v:=.tuple #[.agg #[.slice none 0 0],.int .i64 2]) (by simp[results,Tryz.results54,go_sem,i0]) rfl ⟨_,_,rfl,I9,aq⟩
 .have jf:¬(60:Int)<n:=by omega
  obtain⟨e1,e2⟩:=Az (R:=R) (by omega)
  rw[e2] at dp⊢
  rw[e1]
  have T7:n<=60:=by omega
  have SZ:∀(k:Nat) (x:bF),l[k]? =some x->R[k]? =some x.r:=by
   intro k x hx
   rw[hR,List.getElem?_map,hx]
   rfl
  clear e1 e2 hmax fF
  generalize ka:(aG dg R).2=EE at*
  generalize nG:(aG dg R).1=DD at*
  replace ka:=hide ka
  replace nG:=hide nG
  replace hR:=hide hR
  replace uT:=hide uT
  go_enter Tryz.func54,Tryz.ntmps54
  go_upto_region 1 with fail
  generalize World.alloc w _=w1 at*
  go_wp2_with fail
  go_at_call 44
  refine(Ng _).mono ?_
  rintro e w2 ⟨aN,GN,rfl,IN,b2⟩
  replace IN:=IN.down bel.size
  have BS:=ac.laid w2 [.slice aN 4 GN] 24 _ rfl
  have bq:=newB b2 (.cells #[.slice aN 4 GN] 24)
  have NC:=IN.alloc (.cells #[.slice aN 4 GN] 24)
  have Kb:w.heap.size<w2.heap.size:=Nat.lt_of_lt_of_le BR.lt b2.size
  replace BR:=BR.keep bq BR.lt
  replace bel:=aa bel bq
  clear b2 bq IN
  go_upto_region 4 with fail
  generalize w2.heap.size=gS at*
  generalize World.alloc w2 _=w3 at*
  go_wp2_with fail
  go_loopw [15] (fun i wr=>∃(k:Nat) (aS:Option Addr) (cS:Nat) (C:List Rw),k<=n/\i=.int .i64 k/\ac wr w.heap.size [.slice none 0 0] 24/\ac wr gS [.slice aS 4 cS] 24/\fa w.heap.size wr aS cS C/\Hid (aG dg (R.take k)=(C,0))/\Below w.heap.size w wr) (fun i _=>n-(intOf i).toNat)
  case atStart=>exact⟨0,aN,GN,dg,Nat.zero_le _,rfl,BR,BS,NC,by simp[aG,Hid],bel⟩
  case round=>
   clear BR BS NC bel
   obtain⟨k,aS,cS,C,hk,rfl,BR,BS,I,hC,bel⟩:=hrel
   have hz:=vp hC.out
   have h4:=hide (bL hz)
   by_cases az:k<n
   .have cy:k<l.length:=by rw[<-hn.out];exact az
    obtain⟨x,hx⟩:∃x,l[k]? =some x:=⟨_,List.getElem?_eq_getElem cy⟩
    obtain⟨lb,lo,rfl,yA⟩:=S.row.where bF.four (by decide) (by intro h;subst h;simp at cy)
    have S':=S.keep bel (Nat.le_refl _)
    have d0:=S'.row.cell bF.four k 0 x _ hx rfl
    have d1:=S'.row.cell bF.four k 1 x _ hx rfl
    have d2:=S'.row.cell bF.four k 2 x _ hx rfl
    have d3:=S'.row.cell bF.four k 3 x _ hx rfl
    simp only[Nat.add_zero] at d0
    have MV:=Nat.lt_of_lt_of_le yA bel.size
    have jk:=S'.ent x (List.mem_of_getElem? hx)
    obtain⟨wz,wb⟩:=wN hC.out (SZ k x hx)
    obtain⟨dk,LE⟩:∃d,Hid (d=(dW C x.r).length):=⟨_,hide rfl⟩
    have cN:=fun W h t=>zY C x.r aS x.a cS x.c x.r.e.length 4 dk W h t (hide rfl) (hide h4.out.symm) LE
    have BC:=ac.laid wr x.cells 73 _ rfl
    have bc:=newB (Below.refl wr.heap.size wr) (.cells x.cells.toArray 73)
    have jc:=jk.call bc
    have I1:=I.call bc
    replace BR:=BR.keep bc BR.lt
    replace BS:=BS.keep bc BS.lt
    have aU:=bel.trans (bc.mono bel.size)
    have ly:=bL hz
    simp only[bF.cells] at BC bc jc I1 BR BS aU
    replace hx:=hide hx
    clear S' cy jk I bc bel ly
    go_upto_region 7 with fail
    generalize wr.heap.size=gC at*
    generalize World.alloc wr _=w4 at*
    have x0:=BC.cell 0
    have x1:=BC.cell 1
    have x2:=BC.cell 2
    have x3:=BC.cell 3
    have lC:=BC.lt
    have y0:=BS.cell 0
    have lS:=BS.lt
    go_wp2_with fail
    go_at_call 90
    refine(cN _ I1.is jc).mono ?_
    rintro e w5 ⟨a',G',rfl,I5,b5⟩
    replace I5:=I5.down aU.size
    clear x0 x1 x2 x3 lC y0 lS I1 jc cN BC
    replace BR:=BR.keep b5 BR.lt
    replace BS:=BS.keep b5 BS.lt
    replace aU:=aU.trans (b5.mono aU.size)
    clear b5
    have y0:=BS.cell 0
    have f0:=BS.free 0
    have lS:=BS.lt
    have RG:=BS.set 0 (.slice a' dk G')
    have iF:ac (w5.setCell ⟨gS,0,none⟩ (.slice a' dk G')) w.heap.size [.slice none 0 0] 24:=BR.other 0 _ (by omega)
    have I6:=I5.boxed BS (.slice a' dk G')
    have dy:=aU.setCell (p:=⟨gS,0,none⟩) (Nat.le_of_lt Kb) (.slice a' dk G')
    by_cases hE:cd C x.r=0
    .rw[hE]
     have hw:=wz hE
     obtain rfl:dk=4:=by rw[LE.out];exact bL (jH hE)
     clear wz wb
     go_wp2_with fail
     go_roundw
     case rel=>exact⟨k+1,a',G',dW C x.r,by omega,by go_num,iF,RG,I6,hide hw,dy⟩
     case measure=>simp[intOf];omega
    .have hw:=wb hE
     have PV:decide (cd C x.r=0)=false:=decide_eq_false hE
     generalize cd C x.r=E at*
     obtain rfl:DD=[]:=by rw[<-nG.out,hw]
     obtain rfl:EE=E:=by rw[<-ka.out,hw]
     obtain rfl:dn=0:=dp.out
     clear wz wb ka nG hw
     go_upto_region 9 with fail
     clear y0 f0 lS BS I5 aU BR
     generalize World.setCell w5 _ _=w6 at*
     have z0:=iF.cell 0
     have f0:=iF.free 0
     have lR:=iF.lt
     go_wp2_with fail
     have B9:=iF.set 0 (.slice none 0 0)
     have aq:=dy.setCell (p:=⟨w.heap.size,0,none⟩) (Nat.le_refl _) (.slice none 0 0)
     have I9:=(fa.nul w.heap.size w6).boxed iF (.slice none 0 0)
     have i0:=B9.cell 0
     exact bodyPost_ret (v:=.tuple #[.agg #[.slice none 0 0],.int .i64 EE]) (by simp[results,Tryz.results54,go_sem,i0]) rfl ⟨_,_,rfl,I9,aq⟩
   .obtain rfl:k=n:=by omega
    have hw:=hC.out
    rw[List.take_of_length_le (by rw[uT.out];exact Nat.le_refl _)] at hw
    obtain rfl:DD=C:=by rw[<-nG.out,hw]
    obtain rfl:EE=0:=by rw[<-ka.out,hw]
    obtain rfl:dn=4:=dp.out.trans h4.out
    clear hw ka nG
    have y0:=BS.cell 0
    have lS:=BS.lt
    have z0:=BR.cell 0
    have f0:=BR.free 0
    have lR:=BR.lt
    go_wp2_with fail
    have B9:=BR.set 0 (.slice aS 4 cS)
    have aq:=bel.setCell (p:=⟨w.heap.size,0,none⟩) (Nat.le_refl _) (.slice aS 4 cS)
    have I9:=I.boxed BR (.slice aS 4 cS)
    have i0:=B9.cell 0
    exact bodyPost_ret (v:=.tuple #[.agg #[.slice aS 4 cS],.int .i64 0]) (by simp[results,Tryz.results54,go_sem,i0]) rfl ⟨_,_,rfl,I9,aq⟩
end Go.Proofs.YtoonnbhoiocoeaaGreatDoor
namespace Go.Proofs.YtoonnbhoiocoeaaGreatDoor
end Go.Proofs.YtoonnbhoiocoeaaGreatDoor
namespace Go.Proofs.YtoonnbhoiocoeaaGreatDoor
open Go.RowKit
end Go.Proofs.YtoonnbhoiocoeaaGreatDoor
namespace Go.Proofs.YtoonnbhoiocoeaaGreatDoor
open Go.RowKit
open Go.Lib (byteCells)
theorem jl {w:World}{g:Nat}{c0 c1:Value}{t:TypeId}(h:ac w g [c0,c1] t)(u0 u1:Value):ac ((w.setCell ⟨g,0,none⟩ u0).setCell ⟨g,1,none⟩ u1) g [u0,u1] t:=(h.set 0 u0).set 1 u1
theorem d8 {B:Nat}{w W:World}(h:Below B w W){g:Nat}(hg:B<=g)(u0 u1:Value):Below B w ((W.setCell ⟨g,0,none⟩ u0).setCell ⟨g,1,none⟩ u1):=
 (h.setCell (p:=⟨g,0,none⟩) hg u0).setCell (p:=⟨g,1,none⟩) hg u1
theorem ta {w:World}{a:Option Addr}{cap g i:Nat}{l:List UInt8}{cs:List Value}{t:TypeId}(S:Sl w a cap (byteCells l))(B:ac w g cs t)(hk:∀c∈cs,∀b,c≠.int .u8 b)(v:Value):Sl (w.setCell ⟨g,i,none⟩ v) a cap (byteCells l):=by
 obtain⟨hr,h1,h2,h3⟩:=S
 refine⟨?_,h1,h2,h3⟩
 rcases hr with h| ⟨b,off,e,hb,hc⟩
 .exact .inl h
 .by_cases hl:byteCells l=[]
  .exact .inl hl
  .refine .inr ⟨b,off,e,by simpa using hb,fun j u hu=>?_⟩
   have aF:b≠g:=by
    rintro rfl
    have rq:=hc j u hu
    obtain⟨x,hx,rfl⟩:∃x,x∈l/\u=.int .u8 x.toNat:=by
     have:=List.mem_of_getElem? hu
     obtain⟨x,hx,e⟩:=List.mem_map.1 this
     exact⟨x,hx,e.symm⟩
    rw[B.cell] at rq
    exact hk _ (List.mem_of_getElem? rq) _ rfl
   rw[<-hc j u hu]
   simp only[World.cell?]
   rw[heap_setCell_other w ⟨g,i,none⟩ b v aF]
def Dp (w:World)(D:Dk)(E:Int)(e:Ending)(w':World):Prop:=
 ∃(a1 a2:Option Addr) (n1 n2 c1 c2:Nat),e=.returned (.tuple #[.agg #[.slice a1 n1 c1,.slice a2 n2 c2],.int .i64 E])/\n1=D.safe.length/\n2=D.wait.length/\Sl w' a1 c1 (byteCells D.safe)/\Sl w' a2 c2 (byteCells D.wait)/\Below w.heap.size w w'
theorem D5 {w w':World}{E:Int}(b:Below w.heap.size w w'):Dp w pZ E (.returned (.tuple #[.agg #[.slice none 0 0,.slice none 0 0],.int .i64 E])) w':=
 ⟨none,none,0,0,0,0,rfl,rfl,rfl,Sl.ofNil _,Sl.ofNil _,b⟩
def Qr (w:World)(a:Option Addr):Prop:=∀ad,a=some ad->∃l,ac w ad.block (byteCells l) 5
def IR (w:World)(D:Dk)(E:Int)(e:Ending)(w':World):Prop:=
 ∃(a1 a2:Option Addr) (n1 n2 c1 c2:Nat),e=.returned (.tuple #[.agg #[.slice a1 n1 c1,.slice a2 n2 c2],.int .i64 E])/\n1=D.safe.length/\n2=D.wait.length/\Sl w' a1 c1 (byteCells D.safe)/\Sl w' a2 c2 (byteCells D.wait)/\Below w.heap.size w w'/\Qr w' a1/\Qr w' a2
theorem IR.d {w w':World}{D:Dk}{E:Int}{e:Ending}(h:IR w D E e w'):Dp w D E e w':=by
 obtain⟨a1,a2,n1,n2,c1,c2,he,h1,h2,s1,s2,b,_,_⟩:=h
 exact⟨a1,a2,n1,n2,c1,c2,he,h1,h2,s1,s2,b⟩
theorem He {w w':World}{E:Int}(b:Below w.heap.size w w'):IR w pZ E (.returned (.tuple #[.agg #[.slice none 0 0,.slice none 0 0],.int .i64 E])) w':=
 ⟨none,none,0,0,0,0,rfl,rfl,rfl,Sl.ofNil _,Sl.ofNil _,b,(fun _ h=>(by cases h)),(fun _ h=>(by cases h))⟩
theorem kq (a1 a2:Option Addr)(n1 n2 c1 c2:Nat):∀c∈([.slice a1 n1 c1,.slice a2 n2 c2]:List Value),∀b,c≠.int .u8 b:=by
 intro c hc b
 simp only[List.mem_cons,List.not_mem_nil,or_false] at hc
 rcases hc with rfl|rfl<;>(intro h;cases h)
theorem Jn (d:Dk)(a1 a2:Option Addr)(c1 c2 n1 n2:Nat)(w:World)(hg:Gl w)(s1:Sl w a1 c1 (byteCells d.safe))(s2:Sl w a2 c2 (byteCells d.wait))(h1:n1=d.safe.length)(h2:n2=d.wait.length)(few:n1+n2<=9223372036854775807):
  Calls Tryz.prog 109 #[.agg #[.slice a1 n1 c1,.slice a2 n2 c2]] w (Dp w (lu d) (jX d)):=by
 have cC:=fun W g s=>nd d a1 a2 c1 c2 n1 n2 W g s h1 h2 few
 have B1:=(ac.laid w [.slice a1 n1 c1,.slice a2 n2 c2] 27 _ rfl).alc (.cells #[.slice none 0 0,.slice none 0 0] 27)
 have B2:=ac.laid (w.alloc (.cells #[.slice a1 n1 c1,.slice a2 n2 c2] 27)) [.slice none 0 0,.slice none 0 0] 27 (w.heap.size+1) (by simp)
 have bel:=newB (newB (Below.refl w.heap.size w) (.cells #[.slice a1 n1 c1,.slice a2 n2 c2] 27)) (.cells #[.slice none 0 0,.slice none 0 0] 27)
 have S1:=s1.keep bel (Nat.le_refl _)
 have S2:=s2.keep bel (Nat.le_refl _)
 have g:=hg.call bel
 by_cases h0:cT d=0
 .have ti:n1+n2<=60000:=by
   have:=h0
   unfold cT at this
   split at this
   .cases this
   .rw[h1,h2];omega
  have hE:jX d=cT ⟨d.safe++d.wait,[]⟩:=if_neg (by simp[h0])
  have ue:jX d≠0->lu d=pZ:=fun h=>if_neg h
  have KZ:jX d=0->lu d=⟨d.safe++d.wait,[]⟩:=fun h=>if_pos h
  have cJ:=fun W s t=>ml a1 a2 c1 c2 n1 n2 d.safe d.wait W s t h1 h2 (by omega)
  have cK:=fun gJ W g s=>nd ⟨d.safe++d.wait,[]⟩ (some ⟨gJ,0,none⟩) none (n1+n2) 0 (n1+n2) 0 W g s (by rw[List.length_append,h1,h2]) rfl (by omega)
  have tS:n1+n2=(d.safe++d.wait).length:=by rw[List.length_append,h1,h2]
  rw[h0] at cC
  rw[<-hE] at cK
  generalize jX d=E at*
  generalize lu d=D at*
  obtain⟨N,hN⟩:∃N,N=n1+n2:=⟨_,rfl⟩
  rw[<-hN] at cK cJ tS ti
  replace h1:=hide h1
  replace h2:=hide h2
  replace hN:=hide hN
  replace tS:=hide tS
  clear hE h0
  have x0:=B1.cell 0
  have x1:=B1.cell 1
  have l1:=B1.lt
  go_enter Tryz.func109,Tryz.ntmps109
  go_wp2_with fail
  generalize World.alloc (World.alloc w _) _=w2 at*
  go_at_call 139
  refine(cC _ g S1).mono ?_
  rintro e w3 ⟨rfl,b3⟩
  clear x0 x1 l1
  replace B1:=B1.keep b3 B1.lt
  replace B2:=B2.keep b3 B2.lt
  replace S1:=S1.call b3
  replace S2:=S2.call b3
  replace g:=g.call b3
  replace bel:=aa bel b3
  have x0:=B1.cell 0
  have x1:=B1.cell 1
  have l1:=B1.lt
  go_wp2_with fail
  go_at_call 66
  refine(cJ _ S1 S2).mono ?_
  rintro e w4 ⟨rfl,BJ,b4⟩
  have SJ:=nY BJ tS.out (by omega)
  have B5:=ac.laid w4 [.slice (some ⟨w3.heap.size,0,none⟩) N N,.slice none 0 0] 27 _ rfl
  have bq:=newB b4 (.cells #[.slice (some ⟨w3.heap.size,0,none⟩) N N,.slice none 0 0] 27)
  replace SJ:=SJ.alloc (.cells #[.slice (some ⟨w3.heap.size,0,none⟩) N N,.slice none 0 0] 27)
  replace B2:=B2.keep bq B2.lt
  replace g:=g.call bq
  replace bel:=aa bel bq
  clear x0 x1 l1 b4 bq BJ B1 S1 S2
  go_upto_region 5 with fail
  generalize w3.heap.size=gJ at*
  generalize w4.heap.size=g5 at*
  generalize w4.alloc _=w5 at*
  have x0:=B5.cell 0
  have x1:=B5.cell 1
  have l5:=B5.lt
  go_wp2_with fail
  go_at_call 139
  refine(cK _ _ g SJ).mono ?_
  rintro e w6 ⟨rfl,b6⟩
  clear x0 x1 l5
  replace B5:=B5.keep b6 B5.lt
  replace B2:=B2.keep b6 B2.lt
  replace SJ:=SJ.call b6
  replace bel:=aa bel b6
  have x0:=B5.cell 0
  have x1:=B5.cell 1
  have l5:=B5.lt
  have y0:=B2.cell 0
  have y1:=B2.cell 1
  have f0:=B2.free 0
  have f1:=B2.free 1
  have l2:=B2.lt
  by_cases Df:E=0
  .obtain rfl:=KZ Df
   subst Df
   clear ue KZ
   go_wp2_with fail
   have B9:=jl B2 (.slice (some ⟨gJ,0,none⟩) N N) (.slice none 0 0)
   have aq:=d8 bel (Nat.le_succ _) (.slice (some ⟨gJ,0,none⟩) N N) (.slice none 0 0)
   have S9:=ta (i:=1) (ta (i:=0) SJ B2 (kq _ _ _ _ _ _) (.slice (some ⟨gJ,0,none⟩) N N)) (B2.set 0 (.slice (some ⟨gJ,0,none⟩) N N)) (kq _ _ _ _ _ _) (.slice none 0 0)
   have i0:=B9.cell 0
   have i1:=B9.cell 1
   exact bodyPost_ret (v:=.tuple #[.agg #[.slice (some ⟨gJ,0,none⟩) N N,.slice none 0 0],.int .i64 0]) (by simp[results,Tryz.results109,go_sem,i0,i1]) rfl ⟨_,none,N,0,N,0,rfl,tS.out,rfl,S9,Sl.ofNil _,aq⟩
  .obtain rfl:=ue Df
   have hd:decide (E=0)=false:=decide_eq_false Df
   clear ue KZ
   go_wp2_with fail
   have B9:=jl B2 (.slice none 0 0) (.slice none 0 0)
   have aq:=d8 bel (Nat.le_succ _) (.slice none 0 0) (.slice none 0 0)
   have i0:=B9.cell 0
   have i1:=B9.cell 1
   exact bodyPost_ret (v:=.tuple #[.agg #[.slice none 0 0,.slice none 0 0],.int .i64 E]) (by simp[results,Tryz.results109,go_sem,i0,i1]) rfl (D5 aq)
 .have hE:jX d=cT d:=if_pos h0
  have hD:lu d=pZ:=if_neg (by rw[hE];exact h0)
  rw[hE,hD]
  have hd:decide (cT d=0)=false:=decide_eq_false h0
  generalize cT d=E at*
  replace h1:=hide h1
  replace h2:=hide h2
  clear hE hD
  have x0:=B1.cell 0
  have x1:=B1.cell 1
  have l1:=B1.lt
  go_enter Tryz.func109,Tryz.ntmps109
  go_wp2_with fail
  generalize World.alloc (World.alloc w _) _=w2 at*
  go_at_call 139
  refine(cC _ g S1).mono ?_
  rintro e w3 ⟨rfl,b3⟩
  replace B2:=B2.keep b3 B2.lt
  replace bel:=aa bel b3
  have y0:=B2.cell 0
  have y1:=B2.cell 1
  have f0:=B2.free 0
  have f1:=B2.free 1
  have l2:=B2.lt
  go_wp2_with fail
  have B9:=jl B2 (.slice none 0 0) (.slice none 0 0)
  have aq:=d8 bel (Nat.le_succ _) (.slice none 0 0) (.slice none 0 0)
  have i0:=B9.cell 0
  have i1:=B9.cell 1
  exact bodyPost_ret (v:=.tuple #[.agg #[.slice none 0 0,.slice none 0 0],.int .i64 E]) (by simp[results,Tryz.results109,go_sem,i0,i1]) rfl (D5 aq)
end Go.Proofs.YtoonnbhoiocoeaaGreatDoor
namespace Go.Proofs.YtoonnbhoiocoeaaGreatDoor
open Go.RowKit
def pV (A:Act)(lo n:Nat)(V:Nat->Value):Act:= {tmps:=A.tmps.mapIdx (fun k x=>if lo<=k/\k<lo+n then V (k-lo) else x),defers:=A.defers}
theorem eD {A:Act}{lo n:Nat}{V:Nat->Value}(i d:Nat)(hd:d=lo+i)(hi:i<n)(v:Value):(pV A lo n V).put (some d) v=pV A lo n (df V i v):=by
 subst hd
 unfold pV Act.put
 simp only[Act.mk.injEq,and_true]
 apply Array.ext_getElem?
 intro k
 rw[Array.getElem?_setIfInBounds,Array.getElem?_mapIdx,Array.getElem?_mapIdx,Array.size_mapIdx]
 by_cases hk:lo+i=k
 .subst hk
  rw[if_pos rfl]
  by_cases hs:lo+i<A.tmps.size
  .rw[if_pos hs,Array.getElem?_eq_getElem hs]
   simp[df,hi]
  .rw[if_neg hs,Array.getElem?_eq_none (by omega)]
   rfl
 .rw[if_neg hk]
  congr 1
  funext x
  by_cases hr:lo<=k/\k<lo+n
  .rw[if_pos hr,if_pos hr]
   unfold df
   rw[if_neg (by omega)]
  .rw[if_neg hr,if_neg hr]
theorem jb {A:Act}{lo n:Nat}{V:Nat->Value}(i d:Nat)(hd:d=lo+i)(hi:i<n)(h:lo+n<=A.tmps.size):(pV A lo n V).eval (.tmp d)=V i:=by
 subst hd
 show(pV A lo n V).tmps.getD (lo+i) undef=V i
 unfold pV
 have hl:lo+i<(A.tmps.mapIdx (fun k x=>if lo<=k/\k<lo+n then V (k-lo) else x)).size:=by simp;omega
 simp only[Array.getD,hl,dif_pos,Array.getInternal_eq_getElem,Array.getElem_mapIdx]
 rw[if_pos (by omega),Nat.add_sub_cancel_left]
theorem qP {A:Act}{lo n:Nat}{V:Nat->Value}(d:Nat)(hd:d<lo\/lo+n<=d):(pV A lo n V).eval (.tmp d)=A.eval (.tmp d):=by
 show(pV A lo n V).tmps.getD d undef=A.tmps.getD d undef
 unfold pV
 by_cases hl:d<A.tmps.size
 .have pO:d<(A.tmps.mapIdx (fun k x=>if lo<=k/\k<lo+n then V (k-lo) else x)).size:=by simpa using hl
  simp only[Array.getD,hl,pO,dif_pos,Array.getInternal_eq_getElem,Array.getElem_mapIdx]
  rw[if_neg (by omega)]
 .have pO:¬d<(A.tmps.mapIdx (fun k x=>if lo<=k/\k<lo+n then V (k-lo) else x)).size:=by simpa using hl
  simp only[Array.getD,hl,pO,dif_neg,not_false_eq_true]
theorem Fq (A:Act)(lo n:Nat):pV A lo n (fun i=>A.eval (.tmp (lo+i)))=A:=by
 cases A with
 |mk t ds=>
  unfold pV
  simp only[Act.mk.injEq,and_true]
  apply Array.ext
  .simp
  .intro k h1 h2
   simp only[Array.getElem_mapIdx]
   split
   .rename_i h
    show t.getD (lo+(k-lo)) undef=t[k]
    rw[show lo+(k-lo)=k by omega]
    simp[Array.getD,h2]
   .rfl
def uR (A:Act)(lo:Nat)(V:Nat->Value):Nat->Act
 |0=>A
 |n+1=>(uR A lo V n).put (some (lo+n)) (V n)
theorem uk (A:Act)(lo:Nat)(V:Nat->Value):∀n,uR A lo V n=pV A lo n V
 |0=>by
  cases A with
  |mk t ds=>
   unfold uR pV
   simp only[Act.mk.injEq,and_true]
   apply Array.ext_getElem?
   intro k
   rw[Array.getElem?_mapIdx]
   have:(fun x:Value=>if lo<=k/\k<lo+0 then V (k-lo) else x)=id:=by
    funext x
    rw[if_neg (by omega)]
    rfl
   rw[this,Option.map_id]
   rfl
 |n+1=>by
  rw[uR,uk A lo V n]
  unfold pV Act.put
  simp only[Act.mk.injEq,and_true]
  apply Array.ext_getElem?
  intro k
  rw[Array.getElem?_setIfInBounds,Array.getElem?_mapIdx,Array.getElem?_mapIdx,Array.size_mapIdx]
  by_cases hk:lo+n=k
  .subst hk
   rw[if_pos rfl]
   by_cases hs:lo+n<A.tmps.size
   .rw[if_pos hs,Array.getElem?_eq_getElem hs]
    simp
   .rw[if_neg hs,Array.getElem?_eq_none (by omega)]
    rfl
  .rw[if_neg hk]
   congr 1
   funext x
   by_cases hr:lo<=k/\k<lo+n
   .rw[if_pos hr,if_pos (by omega)]
   .rw[if_neg hr,if_neg (by omega)]
theorem bQ {P:Program}{ops:Array Oper}{o:Oper}{a:Act}{w W':World}{K:Act->World->Prop}{Q:Exit->Act->World->Prop}{E:Prop}{v:Value}{d:Nat}(hg:o.guard=none)(hd:o.dst=some d)
  (ky:∀ρ,ρ=a.eval->(execOp ρ o).run P w=.ok (.value v) W') (h:K (a.put (some d) v) W'):if Region.wanted o (yielded ops a.tmps)=true then Oper.wp P o a w K Q else E:=by
 have hw:Region.wanted o (yielded ops a.tmps)=true:=by simp[Region.wanted,hg]
 rw[if_pos hw]
 unfold Oper.wp
 rw[ky _ rfl,Oper.upon_value,hd]
 exact h
theorem step_skip {P:Program}{ops:Array Oper}{o:Oper}{a:Act}{w W':World}{K:Act->World->Prop}{Q:Exit->Act->World->Prop}{E:Prop}{n:Next}(hg:o.guard=none)(hd:o.dst=none)
  (hn:n=.skip\/∃v,n=.value v) (ky:∀ρ,ρ=a.eval->(execOp ρ o).run P w=.ok n W') (h:K a W'):if Region.wanted o (yielded ops a.tmps)=true then Oper.wp P o a w K Q else E:=by
 have hw:Region.wanted o (yielded ops a.tmps)=true:=by simp[Region.wanted,hg]
 rw[if_pos hw]
 unfold Oper.wp
 rw[ky _ rfl]
 rcases hn with rfl| ⟨v,rfl⟩
 .rw[Oper.upon_skip,hd]
  exact h
 .rw[Oper.upon_value,hd]
  exact h
theorem named {P:Program}{c:Code}{Q:Exit->Act->World->Prop}{a:Act}{w:World}(h:∀A,A=a->c.wp P Q A w):c.wp P Q a w:=h a rfl
end Go.Proofs.YtoonnbhoiocoeaaGreatDoor
namespace Go.Proofs.YtoonnbhoiocoeaaGreatDoor
open Go.RowKit
theorem zL {P:Program}{ops:Array Oper}{o:Oper}{a:Act}{w:World}{K:Act->World->Prop}{Q:Exit->Act->World->Prop}{E:Prop}
  (hg:o.guard=none) (f:FuncId) (s:Operand) (t:TypeId) (LT:o.op=.call {callee:=.value (.func f),args:=#[s],argTypes:=#[t]})
  (v:Value) (hv:a.eval s=v) (hf:Sem.run P (callFunc f #[v]) w=.ok (.enter f #[v]) w) {R:Ending->World->Prop} (c:Calls P f #[v] w R) (hr:∀e w',R e w'->∃u,e=.returned u) (h:∀u w',R (.returned u) w'->K (a.put o.dst u) w'):
  if Region.wanted o (yielded ops a.tmps)=true then Oper.wp P o a w K Q else E:=by
 have hw:Region.wanted o (yielded ops a.tmps)=true:=by simp[Region.wanted,hg]
 rw[if_pos hw]
 unfold Oper.wp
 have e1:(execOp a.eval o).run P w=.ok (.enter f #[v]) w:=by
  have e0:a.eval (.func f)=.func (.func f) #[] #[]:=rfl
  simp[execOp,LT,resolve,invoke,e0,hv,Deferred.ofValue,hf]
 rw[e1,Oper.upon_enter]
 refine c.mono ?_
 intro e w' he
 obtain⟨u,rfl⟩:=hr e w' he
 exact h u w' he
theorem pX {P:Program}{ops:Array Oper}{o:Oper}{a:Act}{w:World}{K:Act->World->Prop}{Q:Exit->Act->World->Prop}{E:Prop}
  (hg:o.guard=none) (f:FuncId) (s s':Operand) (t t':TypeId) (LT:o.op=.call {callee:=.value (.func f),args:=#[s,s'],argTypes:=#[t,t']})
  (v v':Value) (hv:a.eval s=v) (Ii:a.eval s'=v') (hf:Sem.run P (callFunc f #[v,v']) w=.ok (.enter f #[v,v']) w) {R:Ending->World->Prop} (c:Calls P f #[v,v'] w R) (hr:∀e w',R e w'->∃u,e=.returned u) (h:∀u w',R (.returned u) w'->K (a.put o.dst u) w'):
  if Region.wanted o (yielded ops a.tmps)=true then Oper.wp P o a w K Q else E:=by
 have hw:Region.wanted o (yielded ops a.tmps)=true:=by simp[Region.wanted,hg]
 rw[if_pos hw]
 unfold Oper.wp
 have e1:(execOp a.eval o).run P w=.ok (.enter f #[v,v']) w:=by
  have e0:a.eval (.func f)=.func (.func f) #[] #[]:=rfl
  simp[execOp,LT,resolve,invoke,e0,hv,Ii,Deferred.ofValue,hf]
 rw[e1,Oper.upon_enter]
 refine c.mono ?_
 intro e w' he
 obtain⟨u,rfl⟩:=hr e w' he
 exact h u w' he
end Go.Proofs.YtoonnbhoiocoeaaGreatDoor
