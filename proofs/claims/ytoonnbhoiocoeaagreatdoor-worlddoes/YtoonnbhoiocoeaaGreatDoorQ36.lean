/-
  rainbookref.FreshShelf: four rows of nothing.
-/
import Derived.Test.YtoonnbhoiocoeaaGreatDoorHQRefPutS
import Derived.Test.YtoonnbhoiocoeaaGreatDoorQ35
set_option maxHeartbeats 40000000
set_option maxRecDepth 100000
set_option linter.unusedVariables false
namespace Go.Proofs.YtoonnbhoiocoeaaGreatDoor
open Go.RowKit
theorem Aj (w:World):
  Calls Tryz.prog 46 #[] w fun e w'=>∃a' G,e=.returned (.agg #[.slice a' 4 G])/\bL w' a' G pa/\Below w.heap.size w w':=by
 obtain⟨i0,hi,bK,bm,bQ⟩:=info_parts xL
 have B0:=ag.laid w [.slice none 0 0] 24 _ rfl
 go_enter Tryz.func46,Tryz.ntmps46
 go_wp2_with (at_make;refine wpList_make_full _ rfl (.const (.int .i64 4)) (.const (.int .i64 4)) 22 rfl (w.heap.size+1) 53 i0 (.agg #[.slice none 0 0,.slice none 0 0]) 2 Tryz.underlying22 hi bK bm _ _ _ _ 4 rfl rfl rfl rfl (by rw[bQ];omega) (by unfold maxLen;omega) (by simp) ?_)
 intro w1 own grow
 rw[show(madeCells #[Value.slice none 0 0,Value.slice none 0 0] 8).toList=pa.flatMap Lr.cells by kernel_rfl] at own
 have bel:Below w.heap.size w w1:=((Below.refl _ _).alloc (Nat.le_refl _) _).grown grow (by simp) (fun k h=>by cases h)
 have B1:=B0.grown grow (fun k h=>by cases h)
 have f0:=B1.free 0
 have d0:w1.cell? ⟨w.heap.size,0,none⟩=some (.slice none 0 0):=B1.cell 0
 have jF:=B1.lt
 go_wp2_with fail
 have eV:=own.kept (row:=some w.heap.size) (al (au w1 (some w.heap.size)) 0 (.slice (some ⟨w.heap.size+1,0,none⟩) 4 4)) (.inr (by intro e;have:w.heap.size+1=w.heap.size:=Option.some.inj e;omega))
 obtain⟨a9,c9,ev,s9,_,_⟩:=be.ofOwn Lr.two (by decide) eV
 simp only[Value.slice.injEq,true_and] at ev
 obtain⟨rfl,rfl⟩:=ev
 refine bodyPost_ret (v:=.agg #[.slice (some ⟨w.heap.size+1,0,none⟩) 4 4]) (by simp[results,Tryz.results46,go_sem,d0]) rfl ?_
 refine⟨_,_,rfl,⟨s9,fun r hr=>?_⟩,bel.setCell (Nat.le_refl _) _⟩
 simp only[pa,List.mem_cons,List.not_mem_nil,or_false,or_self] at hr
 subst hr
 exact A4 _
theorem C7 {C:List Rw}{a:Option Addr}{G:Nat}{W:World}(h:cu W a G C):
  Calls Tryz.prog 88 #[.agg #[.slice a C.length G]] W fun e w'=>e=.returned (.int .i64 (az C))/\Below W.heap.size W w':=by
 obtain⟨rs,rfl,s⟩:=h.ex
 rw[List.length_map]
 exact Am rs a G W s
theorem pU {C D:List Rw}{a b:Option Addr}{G H:Nat}{W:World}(h:cu W a G C)(k:cu W b H D)(hl:C.length<=140737488355328):
  Calls Tryz.prog 35 #[.agg #[.slice a C.length G],.agg #[.slice b D.length H]] W fun e w'=>e=.returned (.bool (bp C D))/\Below W.heap.size W w':=by
 obtain⟨rs,rfl,s⟩:=h.ex
 obtain⟨qs,rfl,t⟩:=k.ex
 rw[List.length_map] at hl
 rw[List.length_map,List.length_map]
 exact Au rs qs a b G H W s t hl
theorem pI (W:World):
  Calls Tryz.prog 46 #[] W fun e w'=>∃a' G',e=.returned (.agg #[.slice a' 4 G'])/\cu w' a' G' Do/\Below W.heap.size W w':=by
 refine(Aj W).mono ?_
 rintro e w' ⟨a',G',rfl,s,b⟩
 exact⟨a',G',rfl,⟨_,rfl,s⟩,b⟩
theorem Ov {C:List Rw}{a:Option Addr}{G:Nat}{W:World}(L:List En)(la:Option Addr)(lc:Nat)(h:cu W a G C)(hL:be En.cells W la lc L)(few:L.length<=140737488355328)(hR:eY C):
  Calls Tryz.prog 99 #[.agg #[.slice a C.length G],.slice la L.length lc] W (uO (fB C L) (iO C L) W):=by
 obtain⟨rs,rfl,t⟩:=h.ex
 rw[List.length_map]
 exact(EP rs a G L la lc W t hL few hR).mono fun e w' h=>qS h
theorem KU {C:List Rw}{a:Option Addr}{G:Nat}{W:World}(s n:Int)(h:cu W a G C)(hR:eY C):
  Calls Tryz.prog 100 #[.agg #[.slice a C.length G],.int .i64 s,.int .i64 n] W (uO (eB C s n) (gA C s n) W):=by
 obtain⟨rs,rfl,t⟩:=h.ex
 rw[List.length_map]
 exact(Cx rs a G s n W t hR).mono fun e w' h=>qS h
theorem HT {C:List Rw}{a:Option Addr}{G:Nat}{W:World}(s n:Int)(h:cu W a G C)(hR:eY C)(hw:(Lit.int .i64 n).wf=true):
  Calls Tryz.prog 101 #[.agg #[.slice a C.length G],.int .i64 s,.int .i64 n] W (uO (gG C s n) (j7 C s n) W):=by
 obtain⟨rs,rfl,t⟩:=h.ex
 rw[List.length_map]
 exact(Eu rs a G s n W t hR hw).mono fun e w' h=>qS h
theorem Lh {C:List Rw}{a:Option Addr}{G:Nat}{W:World}(n:Int)(h:cu W a G C)(hR:eY C):
  Calls Tryz.prog 102 #[.agg #[.slice a C.length G],.int .i64 n] W (uO (fN n) (iI C n) W):=by
 obtain⟨rs,rfl,t⟩:=h.ex
 rw[List.length_map]
 exact(DA rs a G n W t hR).mono fun e w' h=>qS h
theorem Kh {n:Int}(h0:0<=n)(h1:n<=100001):(Lit.int .i64 n).wf=true:=by
 have a:IntKind.i64.min<=n:=Int.le_trans (by decide) h0
 have b:n<=IntKind.i64.max:=Int.le_trans h1 (by decide)
 show(decide (IntKind.i64.min<=n)&&decide (n<=IntKind.i64.max))=true
 rw[decide_eq_true a,decide_eq_true b]
 rfl
theorem UO {r:Rc}(h:aP r=0)(hk:r.k=3):0<=r.n/\r.n<=100001:=by
 unfold aP at h
 rw[if_neg (by rw[hk];decide),if_pos (by rw[hk];decide)] at h
 split at h
 .cases h
 split at h
 .rename_i h1
  exact⟨h1.2.2.1,h1.2.2.2⟩
 cases h
theorem vD (C:List Rw)(r:Rc)(a a3:Option Addr)(G c3 n3 cn dn:Nat)(w:World)(h:cu w a G C)(s3:be ec w a3 c3 r.e)(h3:Hid (n3=r.e.length))(wy:Hid (cn=C.length))(ck:Hid (dn=(gj C r).length))(hz:az C=0)(hr:aP r=0):
  Calls Tryz.prog 60 #[.agg #[.slice a cn G],.agg #[.int .i64 r.k,.int .i64 r.s,.int .i64 r.n,.slice a3 n3 c3]] w (Mk (gm C r) (gj C r) dn w):=by
 have bel:=newB (newB (newB (Below.refl w.heap.size w) (.cells #[.slice a cn G] 24)) (.cells #[.int .i64 r.k,.int .i64 r.s,.int .i64 r.n,.slice a3 n3 c3] 73)) (.cells #[.slice none 0 0] 24)
 have B1:=((ag.laid w [.slice a cn G] 24 _ rfl).alc (.cells #[.int .i64 r.k,.int .i64 r.s,.int .i64 r.n,.slice a3 n3 c3] 73)).alc (.cells #[.slice none 0 0] 24)
 have B2:=(ag.laid (w.alloc (.cells #[.slice a cn G] 24)) [.int .i64 r.k,.int .i64 r.s,.int .i64 r.n,.slice a3 n3 c3] 73 (w.heap.size+1) (by simp)).alc (.cells #[.slice none 0 0] 24)
 have B3:=ag.laid ((w.alloc (.cells #[.slice a cn G] 24)).alloc (.cells #[.int .i64 r.k,.int .i64 r.s,.int .i64 r.n,.slice a3 n3 c3] 73)) [.slice none 0 0] 24 (w.heap.size+1+1) (by simp)
 have S:=h.keep bel (Nat.le_refl _)
 have S3:=s3.keep bel (Nat.le_refl _)
 have hR:=jO hz
 have few:=Fzs hr
 have hn:=UO hr
 have cP:=fun W (h:cu W a G C) (t:be ec W a3 c3 r.e)=>Ov (yc r.e) a3 c3 h (Rj t) (by rw[uc];omega) hR
 have cS:=fun W (h:cu W a G C)=>KU r.s r.n h hR
 have cM:=fun hk W (h:cu W a G C)=>HT r.s r.n h hR (Kh (hn hk).1 (hn hk).2)
 have cD:=fun W (h:cu W a G C)=>Lh r.n h hR
 simp only[uc] at cP
 rw[<-wy.out] at cP cS cD
 simp only[<-wy.out] at cM
 rw[<-h3.out] at cP
 obtain⟨w1,w2,w3,w4⟩:=EB C r
 have kd:=AJ hr
 obtain⟨K,s',m',l⟩:=r
 simp only at*
 generalize gm C ⟨K,s',m',l⟩=E at*
 generalize gj C ⟨K,s',m',l⟩=D at*
 clear hr hz hn hR
 rcases kd with rfl|rfl|rfl|rfl
 .obtain⟨w5,w6⟩:=w1 rfl
  rw[<-w5,<-w6] at cP
  clear w1 w2 w3 w4 w5 w6 cS cM cD
  go_enter Tryz.func60,Tryz.ntmps60
  go_upto_region 1 with fail
  generalize World.alloc (World.alloc (World.alloc w _) _) _=wa at*
  have iU:=B1.cell 0
  have iQ:=B1.lt
  obtain⟨jE,jG,jI,jK,jH⟩:=B2.c4
  go_wp2_with fail
  go_at_call 99
  refine(C0 ck (cP _ S S3)).mono ?_
  rintro e wd ⟨a',G',rfl,I,bb⟩
  clear iU iQ jE jG jI jK jH
  replace B3:=B3.keep bb B3.lt
  replace bel:=ac bel bb
  clear bb
  have wD:=B3.cell 0
  have xh:=B3.lt
  have f0:=B3.free 0
  go_wp2_with fail
  have B9:=B3.set 0 (.slice a' dn G')
  have aq:=bel.setCell (p:=⟨w.heap.size+1+1,0,none⟩) (Nat.le_trans (Nat.le_succ _) (Nat.le_succ _)) (.slice a' dn G')
  have I9:=cu.boxed (I) B3 (.slice a' dn G')
  have i0:=B9.cell 0
  exact bodyPost_ret (v:=.tuple #[.agg #[.slice a' dn G'],.int .i64 E]) (by simp[results,Tryz.results60,go_sem,i0]) rfl ⟨_,_,rfl,I9,aq⟩
 .obtain⟨w5,w6⟩:=w2 rfl
  rw[<-w5,<-w6] at cS
  clear w1 w2 w3 w4 w5 w6 cP cM cD
  go_enter Tryz.func60,Tryz.ntmps60
  go_upto_region 1 with fail
  generalize World.alloc (World.alloc (World.alloc w _) _) _=wa at*
  have iU:=B1.cell 0
  have iQ:=B1.lt
  obtain⟨jE,jG,jI,jK,jH⟩:=B2.c4
  go_wp2_with fail
  go_at_call 100
  refine(C0 ck (cS _ S)).mono ?_
  rintro e wd ⟨a',G',rfl,I,bb⟩
  clear iU iQ jE jG jI jK jH
  replace B3:=B3.keep bb B3.lt
  replace bel:=ac bel bb
  clear bb
  have wD:=B3.cell 0
  have xh:=B3.lt
  have f0:=B3.free 0
  go_wp2_with fail
  have B9:=B3.set 0 (.slice a' dn G')
  have aq:=bel.setCell (p:=⟨w.heap.size+1+1,0,none⟩) (Nat.le_trans (Nat.le_succ _) (Nat.le_succ _)) (.slice a' dn G')
  have I9:=cu.boxed (I) B3 (.slice a' dn G')
  have i0:=B9.cell 0
  exact bodyPost_ret (v:=.tuple #[.agg #[.slice a' dn G'],.int .i64 E]) (by simp[results,Tryz.results60,go_sem,i0]) rfl ⟨_,_,rfl,I9,aq⟩
 .obtain⟨w5,w6⟩:=w3 rfl
  replace cM:=cM rfl
  rw[<-w5,<-w6] at cM
  clear w1 w2 w3 w4 w5 w6 cP cS cD
  go_enter Tryz.func60,Tryz.ntmps60
  go_upto_region 1 with fail
  generalize World.alloc (World.alloc (World.alloc w _) _) _=wa at*
  have iU:=B1.cell 0
  have iQ:=B1.lt
  obtain⟨jE,jG,jI,jK,jH⟩:=B2.c4
  go_wp2_with fail
  go_at_call 101
  refine(C0 ck (cM _ S)).mono ?_
  rintro e wd ⟨a',G',rfl,I,bb⟩
  clear iU iQ jE jG jI jK jH
  replace B3:=B3.keep bb B3.lt
  replace bel:=ac bel bb
  clear bb
  have wD:=B3.cell 0
  have xh:=B3.lt
  have f0:=B3.free 0
  go_wp2_with fail
  have B9:=B3.set 0 (.slice a' dn G')
  have aq:=bel.setCell (p:=⟨w.heap.size+1+1,0,none⟩) (Nat.le_trans (Nat.le_succ _) (Nat.le_succ _)) (.slice a' dn G')
  have I9:=cu.boxed (I) B3 (.slice a' dn G')
  have i0:=B9.cell 0
  exact bodyPost_ret (v:=.tuple #[.agg #[.slice a' dn G'],.int .i64 E]) (by simp[results,Tryz.results60,go_sem,i0]) rfl ⟨_,_,rfl,I9,aq⟩
 obtain⟨w5,w6⟩:=w4 rfl
 rw[<-w5,<-w6] at cD
 clear w1 w2 w3 w4 w5 w6 cP cS cM
 go_enter Tryz.func60,Tryz.ntmps60
 go_upto_region 1 with fail
 generalize World.alloc (World.alloc (World.alloc w _) _) _=wa at*
 have iU:=B1.cell 0
 have iQ:=B1.lt
 obtain⟨jE,jG,jI,jK,jH⟩:=B2.c4
 go_wp2_with fail
 go_at_call 102
 refine(C0 ck (cD _ S)).mono ?_
 rintro e wd ⟨a',G',rfl,I,bb⟩
 clear iU iQ jE jG jI jK jH
 replace B3:=B3.keep bb B3.lt
 replace bel:=ac bel bb
 clear bb
 have wD:=B3.cell 0
 have xh:=B3.lt
 have f0:=B3.free 0
 go_wp2_with fail
 have B9:=B3.set 0 (.slice a' dn G')
 have aq:=bel.setCell (p:=⟨w.heap.size+1+1,0,none⟩) (Nat.le_trans (Nat.le_succ _) (Nat.le_succ _)) (.slice a' dn G')
 have I9:=cu.boxed (I) B3 (.slice a' dn G')
 have i0:=B9.cell 0
 exact bodyPost_ret (v:=.tuple #[.agg #[.slice a' dn G'],.int .i64 E]) (by simp[results,Tryz.results60,go_sem,i0]) rfl ⟨_,_,rfl,I9,aq⟩
theorem Ht (C:List Rw)(r:Rc)(a a3:Option Addr)(G c3 n3 cn dn:Nat)(w:World)(h:cu w a G C)(s3:be ec w a3 c3 r.e)(h3:Hid (n3=r.e.length))(wy:Hid (cn=C.length))(ck:Hid (dn=(dH C r).length)):
  Calls Tryz.prog 50 #[.agg #[.slice a cn G],.agg #[.int .i64 r.k,.int .i64 r.s,.int .i64 r.n,.slice a3 n3 c3]] w (Mk (bJ C r) (dH C r) dn w):=by
 have bel:=newB (newB (newB (Below.refl w.heap.size w) (.cells #[.slice a cn G] 24)) (.cells #[.int .i64 r.k,.int .i64 r.s,.int .i64 r.n,.slice a3 n3 c3] 73)) (.cells #[.slice none 0 0] 24)
 have B1:=((ag.laid w [.slice a cn G] 24 _ rfl).alc (.cells #[.int .i64 r.k,.int .i64 r.s,.int .i64 r.n,.slice a3 n3 c3] 73)).alc (.cells #[.slice none 0 0] 24)
 have B2:=(ag.laid (w.alloc (.cells #[.slice a cn G] 24)) [.int .i64 r.k,.int .i64 r.s,.int .i64 r.n,.slice a3 n3 c3] 73 (w.heap.size+1) (by simp)).alc (.cells #[.slice none 0 0] 24)
 have B3:=ag.laid ((w.alloc (.cells #[.slice a cn G] 24)).alloc (.cells #[.int .i64 r.k,.int .i64 r.s,.int .i64 r.n,.slice a3 n3 c3] 73)) [.slice none 0 0] 24 (w.heap.size+1+1) (by simp)
 have S:=h.keep bel (Nat.le_refl _)
 have S3:=s3.keep bel (Nat.le_refl _)
 have cC:=fun W (h:cu W a G C)=>C7 h
 have cN:=fun W (s:be ec W a3 c3 r.e)=>pu r a3 c3 n3 W s h3.out
 rw[<-wy.out] at cC
 by_cases hz:az C=0
 .by_cases hr:aP r=0
  .have hE:bJ C r=gm C r:=by unfold bJ;rw[if_neg (by simp[hz]),if_neg (by simp[hr])]
   have hL:dH C r=gj C r:=by unfold dH;rw[if_neg (by simp[hz]),if_neg (by simp[hr])]
   rw[hL] at ck⊢
   rw[hE]
   have cX:=fun W h t=>vD C r a a3 G c3 n3 cn dn W h t h3 wy ck hz hr
   rw[hz] at cC
   rw[hr] at cN
   obtain⟨K,s',m',l⟩:=r
   simp only at*
   generalize gm C ⟨K,s',m',l⟩=E at*
   generalize gj C ⟨K,s',m',l⟩=D at*
   clear hE hL hr hz
   go_enter Tryz.func50,Tryz.ntmps50
   go_upto_region 1 with fail
   generalize World.alloc (World.alloc (World.alloc w _) _) _=wa at*
   have iU:=B1.cell 0
   have iQ:=B1.lt
   go_wp2_with fail
   go_at_call 88
   refine(cC _ S).mono ?_
   rintro e wb ⟨rfl,bb⟩
   clear iU iQ
   replace B1:=B1.keep bb B1.lt
   replace B2:=B2.keep bb B2.lt
   replace B3:=B3.keep bb B3.lt
   replace S:=S.call bb
   replace S3:=S3.call bb
   replace bel:=ac bel bb
   clear bb
   obtain⟨jE,jG,jI,jK,jH⟩:=B2.c4
   go_wp2_with fail
   go_at_call 59
   refine(cN _ S3).mono ?_
   rintro e wc ⟨rfl,bb⟩
   clear jE jG jI jK jH
   replace B1:=B1.keep bb B1.lt
   replace B2:=B2.keep bb B2.lt
   replace B3:=B3.keep bb B3.lt
   replace S:=S.call bb
   replace S3:=S3.call bb
   replace bel:=ac bel bb
   clear bb
   have iU:=B1.cell 0
   have iQ:=B1.lt
   obtain⟨jE,jG,jI,jK,jH⟩:=B2.c4
   go_wp2_with fail
   go_at_call 60
   refine(cX _ S S3).mono ?_
   rintro e wd ⟨a',G',rfl,I,bb⟩
   clear iU iQ jE jG jI jK jH
   replace B3:=B3.keep bb B3.lt
   replace bel:=ac bel bb
   clear bb
   have wD:=B3.cell 0
   have xh:=B3.lt
   have f0:=B3.free 0
   go_wp2_with fail
   have B9:=B3.set 0 (.slice a' dn G')
   have aq:=bel.setCell (p:=⟨w.heap.size+1+1,0,none⟩) (Nat.le_trans (Nat.le_succ _) (Nat.le_succ _)) (.slice a' dn G')
   have I9:=cu.boxed (I) B3 (.slice a' dn G')
   have i0:=B9.cell 0
   exact bodyPost_ret (v:=.tuple #[.agg #[.slice a' dn G'],.int .i64 E]) (by simp[results,Tryz.results50,go_sem,i0]) rfl ⟨_,_,rfl,I9,aq⟩
  have hE:bJ C r=aP r:=by unfold bJ;rw[if_neg (by simp[hz]),if_pos hr]
  have hD:dH C r=[]:=AG (by rw[hE];exact hr)
  have K5:decide (aP r=0)=false:=decide_eq_false hr
  rw[hz] at cC
  rw[hD] at ck⊢
  rw[hE]
  obtain rfl:dn=0:=ck.out
  generalize aP r=E at*
  obtain⟨K,s',m',l⟩:=r
  simp only at*
  clear hE hD ck hz
  go_enter Tryz.func50,Tryz.ntmps50
  go_upto_region 1 with fail
  generalize World.alloc (World.alloc (World.alloc w _) _) _=wa at*
  have iU:=B1.cell 0
  have iQ:=B1.lt
  go_wp2_with fail
  go_at_call 88
  refine(cC _ S).mono ?_
  rintro e wb ⟨rfl,bb⟩
  clear iU iQ
  replace B1:=B1.keep bb B1.lt
  replace B2:=B2.keep bb B2.lt
  replace B3:=B3.keep bb B3.lt
  replace S:=S.call bb
  replace S3:=S3.call bb
  replace bel:=ac bel bb
  clear bb
  obtain⟨jE,jG,jI,jK,jH⟩:=B2.c4
  go_wp2_with fail
  go_at_call 59
  refine(cN _ S3).mono ?_
  rintro e wc ⟨rfl,bb⟩
  clear jE jG jI jK jH
  replace B1:=B1.keep bb B1.lt
  replace B2:=B2.keep bb B2.lt
  replace B3:=B3.keep bb B3.lt
  replace S:=S.call bb
  replace S3:=S3.call bb
  replace bel:=ac bel bb
  clear bb
  have wD:=B3.cell 0
  have xh:=B3.lt
  have f0:=B3.free 0
  go_wp2_with fail
  have B9:=B3.set 0 (.slice none 0 0)
  have aq:=bel.setCell (p:=⟨w.heap.size+1+1,0,none⟩) (Nat.le_trans (Nat.le_succ _) (Nat.le_succ _)) (.slice none 0 0)
  have I9:=cu.boxed (cu.none _) B3 (.slice none 0 0)
  have i0:=B9.cell 0
  exact bodyPost_ret (v:=.tuple #[.agg #[.slice none 0 0],.int .i64 E]) (by simp[results,Tryz.results50,go_sem,i0]) rfl ⟨_,_,rfl,I9,aq⟩
 have hE:bJ C r=az C:=if_pos hz
 have hD:dH C r=[]:=if_pos hz
 have K5:decide (az C=0)=false:=decide_eq_false hz
 rw[hD] at ck⊢
 rw[hE]
 obtain rfl:dn=0:=ck.out
 generalize az C=E at*
 obtain⟨K,s',m',l⟩:=r
 simp only at*
 clear hE hD ck
 go_enter Tryz.func50,Tryz.ntmps50
 go_upto_region 1 with fail
 generalize World.alloc (World.alloc (World.alloc w _) _) _=wa at*
 have iU:=B1.cell 0
 have iQ:=B1.lt
 go_wp2_with fail
 go_at_call 88
 refine(cC _ S).mono ?_
 rintro e wb ⟨rfl,bb⟩
 clear iU iQ
 replace B1:=B1.keep bb B1.lt
 replace B2:=B2.keep bb B2.lt
 replace B3:=B3.keep bb B3.lt
 replace S:=S.call bb
 replace S3:=S3.call bb
 replace bel:=ac bel bb
 clear bb
 have wD:=B3.cell 0
 have xh:=B3.lt
 have f0:=B3.free 0
 go_wp2_with fail
 have B9:=B3.set 0 (.slice none 0 0)
 have aq:=bel.setCell (p:=⟨w.heap.size+1+1,0,none⟩) (Nat.le_trans (Nat.le_succ _) (Nat.le_succ _)) (.slice none 0 0)
 have I9:=cu.boxed (cu.none _) B3 (.slice none 0 0)
 have i0:=B9.cell 0
 exact bodyPost_ret (v:=.tuple #[.agg #[.slice none 0 0],.int .i64 E]) (by simp[results,Tryz.results50,go_sem,i0]) rfl ⟨_,_,rfl,I9,aq⟩
theorem Kw {C:List Rw}{r:Rc}(hz:az C=0):(aP r≠0->bJ C r=aP r)/\(aP r=0->bJ C r=gm C r/\dH C r=gj C r):=by
 refine⟨fun h=>?_,fun h=>⟨?_,?_⟩⟩
 .unfold bJ;rw[if_neg (by simp[hz]),if_pos h]
 .unfold bJ;rw[if_neg (by simp[hz]),if_neg (by simp[h])]
 unfold dH;rw[if_neg (by simp[hz]),if_neg (by simp[h])]
theorem nQ (l:List dK)(la:Option Addr)(n c dn:Nat)(w:World)(S:eK w la c l)(hn:Hid (n=l.length))(ck:Hid (dn=(cd (l.map (·.r))).length)):
  Calls Tryz.prog 19 #[.slice la n c] w (Mk (du (l.map (·.r))) (cd (l.map (·.r))) dn w):=by
 have hmax:=S.row.max
 have fE:=S.row.le
 have LT:n<=c:=by rw[hn.out];exact fE
 obtain⟨R,hR⟩:∃R,R=l.map (·.r):=⟨_,rfl⟩
 have De:R.length=n:=by rw[hR,List.length_map,hn.out]
 rw[<-hR] at ck⊢
 have BR:=ag.laid w [.slice none 0 0] 24 _ rfl
 have bel:=newB (Below.refl w.heap.size w) (.cells #[.slice none 0 0] 24)
 by_cases hm:60<n
 .have ik:(60:Int)<n:=by omega
  obtain⟨e1,e2⟩:=yN (R:=R) (by omega)
  rw[e2] at ck⊢
  rw[e1]
  obtain rfl:dn=0:=ck.out
  clear ck e1 e2 hR De hmax fE
  go_enter Tryz.func19,Tryz.ntmps19
  go_upto_region 1 with fail
  generalize World.alloc w _=w1 at*
  have x0:=BR.cell 0
  have f0:=BR.free 0
  have xl:=BR.lt
  go_wp2_with fail
  have B9:=BR.set 0 (.slice none 0 0)
  have aq:=bel.setCell (p:=⟨w.heap.size,0,none⟩) (Nat.le_refl _) (.slice none 0 0)
  have I9:=(cu.none w1).boxed BR (.slice none 0 0)
  have i0:=B9.cell 0
  exact bodyPost_ret (v:=.tuple #[.agg #[.slice none 0 0],.int .i64 2]) (by simp[results,Tryz.results19,go_sem,i0]) rfl ⟨_,_,rfl,I9,aq⟩
 have ik:¬(60:Int)<n:=by omega
 obtain⟨e1,e2⟩:=Bo (R:=R) (by omega)
 rw[e2] at ck⊢
 rw[e1]
 have Wo:n<=60:=by omega
 have Uw:∀(k:Nat) (x:dK),l[k]? =some x->R[k]? =some x.r:=by
  intro k x hx
  rw[hR,List.getElem?_map,hx]
  rfl
 clear e1 e2 hmax fE
 generalize f7:(aW dm R).2=EE at*
 generalize nZ:(aW dm R).1=DD at*
 replace f7:=aa f7
 replace nZ:=aa nZ
 replace hR:=aa hR
 replace De:=aa De
 go_enter Tryz.func19,Tryz.ntmps19
 go_upto_region 1 with fail
 generalize World.alloc w _=w1 at*
 go_wp2_with fail
 go_at_call 46
 refine(pI _).mono ?_
 rintro e w2 ⟨aN,GN,rfl,IN,b2⟩
 have BS:=ag.laid w2 [.slice aN 4 GN] 24 _ rfl
 have bq:=newB b2 (.cells #[.slice aN 4 GN] 24)
 have EY:=IN.alloc (.cells #[.slice aN 4 GN] 24)
 have Ks:w.heap.size<w2.heap.size:=Nat.lt_of_lt_of_le BR.lt b2.size
 replace BR:=BR.keep bq BR.lt
 replace bel:=ac bel bq
 clear b2 bq IN
 go_upto_region 4 with fail
 generalize w2.heap.size=gS at*
 generalize World.alloc w2 _=w3 at*
 go_wp2_with fail
 go_loopw [17] (fun i wr=>∃(k:Nat) (aS:Option Addr) (cS:Nat) (C:List Rw),k<=n/\i=.int .i64 k/\ag wr w.heap.size [.slice none 0 0] 24/\ag wr gS [.slice aS 4 cS] 24/\cu wr aS cS C/\Hid (aW dm (R.take k)=(C,0))/\Below w.heap.size w wr) (fun i _=>n-(intOf i).toNat)
 case atStart=>exact⟨0,aN,GN,dm,Nat.zero_le _,rfl,BR,BS,EY,by simp[aW,Hid],bel⟩
 case round=>
  clear BR BS EY bel
  obtain⟨k,aS,cS,C,hk,rfl,BR,BS,I,hC,bel⟩:=hrel
  have hz:=vL hC.out
  have h4:=aa (bZ hz)
  by_cases aE:k<n
  .have dy:k<l.length:=by rw[<-hn.out];exact aE
   obtain⟨x,hx⟩:∃x,l[k]? =some x:=⟨_,List.getElem?_eq_getElem dy⟩
   obtain⟨lb,lo,rfl,NZ⟩:=S.row.where dK.four (by decide) (by intro h;subst h;simp at dy)
   have S':=S.keep bel (Nat.le_refl _)
   have d0:=S'.row.cell dK.four k 0 x _ hx rfl
   have d1:=S'.row.cell dK.four k 1 x _ hx rfl
   have d2:=S'.row.cell dK.four k 2 x _ hx rfl
   have d3:=S'.row.cell dK.four k 3 x _ hx rfl
   simp only[Nat.add_zero] at d0
   have Th:=Nat.lt_of_lt_of_le NZ bel.size
   have pL:=S'.ent x (List.mem_of_getElem? hx)
   obtain⟨wz,wb⟩:=yC hC.out (Uw k x hx)
   obtain⟨nb,ng⟩:=Kw (r:=x.r) hz
   have cR:=fun W t=>pu x.r x.a x.c x.r.e.length W t rfl
   have BC:=ag.laid wr x.cells 73 _ rfl
   have bc:=newB (Below.refl wr.heap.size wr) (.cells x.cells.toArray 73)
   have kO:=pL.call bc
   have I1:=I.call bc
   replace BR:=BR.keep bc BR.lt
   replace BS:=BS.keep bc BS.lt
   have aY:=bel.trans (bc.mono bel.size)
   simp only[dK.cells] at BC bc kO I1 BR BS aY
   replace hx:=aa hx
   clear S' dy pL I bc bel
   go_upto_region 7 with fail
   generalize wr.heap.size=gC at*
   generalize World.alloc wr _=w4 at*
   obtain⟨x0,x1,x2,x3,lC⟩:=BC.c4
   go_wp2_with fail
   go_at_call 59
   refine(cR _ kO).mono ?_
   rintro e w5 ⟨rfl,b5⟩
   clear x0 x1 x2 x3 lC cR
   replace BR:=BR.keep b5 BR.lt
   replace BS:=BS.keep b5 BS.lt
   replace BC:=BC.keep b5 BC.lt
   replace I1:=I1.call b5
   replace kO:=kO.call b5
   replace aY:=aY.trans (b5.mono aY.size)
   clear b5
   by_cases hr:aP x.r=0
   .obtain⟨nE,nL⟩:=ng hr
    obtain⟨dk,Na⟩:∃d,Hid (d=(gj C x.r).length):=⟨_,aa rfl⟩
    have cN:=fun W h t=>vD C x.r aS x.a cS x.c x.r.e.length 4 dk W h t (aa rfl) (aa h4.out.symm) Na hz hr
    rw[hr]
    rw[nE] at wz wb
    rw[nL] at wz
    obtain⟨x0,x1,x2,x3,lC⟩:=BC.c4
    have y0:=BS.cell 0
    have lS:=BS.lt
    go_wp2_with fail
    go_at_call 60
    refine(cN _ I1 kO).mono ?_
    rintro e w6 ⟨a',G',rfl,I6,b6⟩
    clear x0 x1 x2 x3 lC y0 lS cN kO I1 BC
    have BN:=ag.laid w6 [.slice a' dk G'] 24 _ rfl
    have bq:=newB b6 (.cells #[.slice a' dk G'] 24)
    have I7:=I6.alloc (.cells #[.slice a' dk G'] 24)
    replace BR:=BR.keep bq BR.lt
    replace BS:=BS.keep bq BS.lt
    replace aY:=aY.trans (bq.mono aY.size)
    clear b6 bq I6
    go_upto_region 11 with fail
    generalize w6.heap.size=gN at*
    generalize World.alloc w6 _=w7 at*
    by_cases hE:gm C x.r=0
    .rw[hE]
     have hw:=wz hE
     obtain rfl:dk=4:=by rw[Na.out];exact bZ (wu hz hE)
     clear wz wb nb ng nE nL
     have z0:=BN.cell 0
     have lN:=BN.lt
     have y0:=BS.cell 0
     have f0:=BS.free 0
     have lS:=BS.lt
     have TV:=BS.set 0 (.slice a' 4 G')
     have jZ:ag (w7.setCell ⟨gS,0,none⟩ (.slice a' 4 G')) w.heap.size [.slice none 0 0] 24:=BR.other 0 _ (by omega)
     have I8:=I7.boxed BS (.slice a' 4 G')
     have dD:=aY.setCell (p:=⟨gS,0,none⟩) (Nat.le_of_lt Ks) (.slice a' 4 G')
     go_wp2_with fail
     go_roundw
     case rel=>exact⟨k+1,a',G',gj C x.r,by omega,by go_num,jZ,TV,I8,aa hw,dD⟩
     case measure=>simp[intOf];omega
    have hw:=wb hE
    have K5:decide (gm C x.r=0)=false:=decide_eq_false hE
    generalize gm C x.r=E at*
    obtain rfl:DD=[]:=by rw[<-nZ.out,hw]
    obtain rfl:EE=E:=by rw[<-f7.out,hw]
    obtain rfl:dn=0:=ck.out
    clear wz wb f7 nZ hw nb ng nE nL
    have z0:=BR.cell 0
    have f0:=BR.free 0
    have lR:=BR.lt
    go_wp2_with fail
    have B9:=BR.set 0 (.slice none 0 0)
    have aq:=aY.setCell (p:=⟨w.heap.size,0,none⟩) (Nat.le_refl _) (.slice none 0 0)
    have I9:=(cu.none w7).boxed BR (.slice none 0 0)
    have i0:=B9.cell 0
    exact bodyPost_ret (v:=.tuple #[.agg #[.slice none 0 0],.int .i64 EE]) (by simp[results,Tryz.results19,go_sem,i0]) rfl ⟨_,_,rfl,I9,aq⟩
   have hE:=nb hr
   have hw:=wb (by rw[hE];exact hr)
   have K5:decide (aP x.r=0)=false:=decide_eq_false hr
   rw[hE] at hw
   clear wz wb ng nb
   generalize aP x.r=E at*
   obtain rfl:DD=[]:=by rw[<-nZ.out,hw]
   obtain rfl:EE=E:=by rw[<-f7.out,hw]
   obtain rfl:dn=0:=ck.out
   clear f7 nZ hw hE
   have z0:=BR.cell 0
   have f0:=BR.free 0
   have lR:=BR.lt
   go_wp2_with fail
   have B9:=BR.set 0 (.slice none 0 0)
   have aq:=aY.setCell (p:=⟨w.heap.size,0,none⟩) (Nat.le_refl _) (.slice none 0 0)
   have I9:=(cu.none w5).boxed BR (.slice none 0 0)
   have i0:=B9.cell 0
   exact bodyPost_ret (v:=.tuple #[.agg #[.slice none 0 0],.int .i64 EE]) (by simp[results,Tryz.results19,go_sem,i0]) rfl ⟨_,_,rfl,I9,aq⟩
  obtain rfl:k=n:=by omega
  have hw:=hC.out
  rw[List.take_of_length_le (by rw[De.out];exact Nat.le_refl _)] at hw
  obtain rfl:DD=C:=by rw[<-nZ.out,hw]
  obtain rfl:EE=0:=by rw[<-f7.out,hw]
  obtain rfl:dn=4:=ck.out.trans h4.out
  clear hw f7 nZ
  have y0:=BS.cell 0
  have lS:=BS.lt
  have z0:=BR.cell 0
  have f0:=BR.free 0
  have lR:=BR.lt
  go_wp2_with fail
  have B9:=BR.set 0 (.slice aS 4 cS)
  have aq:=bel.setCell (p:=⟨w.heap.size,0,none⟩) (Nat.le_refl _) (.slice aS 4 cS)
  have I9:=I.boxed BR (.slice aS 4 cS)
  have i0:=B9.cell 0
  exact bodyPost_ret (v:=.tuple #[.agg #[.slice aS 4 cS],.int .i64 0]) (by simp[results,Tryz.results19,go_sem,i0]) rfl ⟨_,_,rfl,I9,aq⟩
open Go.Lib (byteCells)
theorem sj (w:World):
  Calls Tryz.prog 47 #[] w fun e w'=>∃g,e=.returned (.slice (some ⟨g,0,none⟩) 3 3)/\ag w' g [.int .i64 (-1),.int .i64 (-1),.int .i64 (-1)] 3/\w.heap.size<=g/\Below w.heap.size w w':=by
 have B:=ag.laid w [.int .i64 (-1),.int .i64 (-1),.int .i64 (-1)] 3 _ rfl
 have bel:=newB (Below.refl w.heap.size w) (.cells #[.int .i64 (-1),.int .i64 (-1),.int .i64 (-1)] 3)
 go_enter Tryz.func47,Tryz.ntmps47
 go_wp2_with fail
 go_ret
 exact⟨_,rfl,B,Nat.le_refl _,bel⟩
theorem DS (W:World):
  Calls Tryz.prog 15 #[] W fun e w'=>∃p:Pw,e=.returned (p.val true)/\dE w' p iy/\Below W.heap.size W w':=by
 have B:=ag.laid W [.slice none 0 0,.slice none 0 0,.slice none 0 0,.bool false,.slice none 0 0] 30 _ rfl
 have bel:=newB (Below.refl W.heap.size W) (.cells #[.slice none 0 0,.slice none 0 0,.slice none 0 0,.bool false,.slice none 0 0] 30)
 go_enter Tryz.func15,Tryz.ntmps15
 go_upto_region 1 with fail
 generalize World.alloc W _=w1 at*
 go_wp2_with fail
 go_at_call 46
 refine(pI _).mono ?_
 rintro e w2 ⟨aN,GN,rfl,IN,b2⟩
 replace B:=B.keep b2 B.lt
 replace bel:=ac bel b2
 go_wp2_with fail
 go_at_call 47
 refine(sj _).mono ?_
 rintro e w3 ⟨gC,rfl,BC,hC,b3⟩
 replace B:=B.keep b3 B.lt
 replace bel:=ac bel b3
 replace IN:=IN.call b3
 clear b2 b3
 obtain⟨x0,x1,x2,x3,x4,-⟩:=B.c5
 obtain⟨f0,f1,f2,f3,f4⟩:=B.f5
 have xl:=B.lt
 have B9:=fA B (.slice aN 4 GN) (.slice none 0 0) (.slice none 0 0) (.bool true) (.slice (some ⟨gC,0,none⟩) 3 3)
 have aq:=dP bel (Nat.le_refl _) (.slice aN 4 GN) (.slice none 0 0) (.slice none 0 0) (.bool true) (.slice (some ⟨gC,0,none⟩) 3 3)
 have gr:=al (al (al (al (al (au w3 (some W.heap.size)) 0 (.slice aN 4 GN)) 1 (.slice none 0 0)) 2 (.slice none 0 0)) 3 (.bool true)) 4 (.slice (some ⟨gC,0,none⟩) 3 3)
 have WB:=aa (ix.wrote (Q:=fun _=>False) (h:=gC) (p:=⟨aN,4,GN,none,0,0,none,0,0,some ⟨gC,0,none⟩,3,3⟩) (ys:=fJ) (x:=iy) B gr B9
  ⟨rfl,rfl,rfl,rfl,IN,Sl.ofNil _,Sl.ofNil _,(by exact Sl.ofBlk BC (by decide))⟩ (cu.fresh IN) DK rfl BC rfl (Nat.le_refl _))
 obtain⟨i0,i1,i2,i3,i4,-⟩:=B9.c5
 go_wp2_with fail
 exact bodyPost_ret (v:=.agg #[.slice aN 4 GN,.slice none 0 0,.slice none 0 0,.bool true,.slice (some ⟨gC,0,none⟩) 3 3]) (by simp[results,Tryz.results15,go_sem,i0,i1,i2,i3,i4]) rfl ⟨_,rfl,WB.out.is,aq⟩
theorem vV (x y:Wd)(p q:Pw)(w:World)(I:dE w p x)(J:dE w q y)(ls:x.c.length<=140737488355328)(lx:x.rd.length<=4611686018427387904)(ly:y.rd.length<=4611686018427387904):
  Calls Tryz.prog 13 #[p.val x.up,q.val y.up] w fun e w'=>e=.returned (.bool (oO x y))/\Below w.heap.size w w':=by
 obtain⟨C,X,U,R⟩:=x
 obtain⟨D,Y,V,Q⟩:=y
 obtain⟨sa,sn,sG,a1,n1,c1,a2,n2,c2,ra,rn,rc⟩:=p
 obtain⟨ta,tn,tG,b1,m1,k1,b2,m2,k2,rb,rm,rk⟩:=q
 have bel:=newB (newB (Below.refl w.heap.size w) (.cells #[.slice sa sn sG,.slice a1 n1 c1,.slice a2 n2 c2,.bool U,.slice ra rn rc] 30)) (.cells #[.slice ta tn tG,.slice b1 m1 k1,.slice b2 m2 k2,.bool V,.slice rb rm rk] 30)
 have BX:=(ag.laid w [.slice sa sn sG,.slice a1 n1 c1,.slice a2 n2 c2,.bool U,.slice ra rn rc] 30 _ rfl).alc (.cells #[.slice ta tn tG,.slice b1 m1 k1,.slice b2 m2 k2,.bool V,.slice rb rm rk] 30)
 have BY:=ag.laid (w.alloc (.cells #[.slice sa sn sG,.slice a1 n1 c1,.slice a2 n2 c2,.bool U,.slice ra rn rc] 30)) [.slice ta tn tG,.slice b1 m1 k1,.slice b2 m2 k2,.bool V,.slice rb rm rk] 30 (w.heap.size+1) (by simp)
 obtain⟨gY,iR⟩:∃gY,gY=w.heap.size+1:=⟨_,rfl⟩
 rw[<-iR] at BY
 have I2:=I.keep bel (Nat.le_refl _)
 have J2:=J.keep bel (Nat.le_refl _)
 obtain⟨es,e1,e2,er,S,S1,S2,R1⟩:=I2
 obtain⟨et,f1,f2,fr,T,T1,T2,Q1⟩:=J2
 clear I J
 unfold oO Pw.val
 simp only at*
 have cS:=fun W h k=>pU (a:=sa) (b:=ta) (G:=sG) (H:=tG) (W:=W) (C:=C) (D:=D) h k ls
 have cD:=fun W s1 s2 t1 t2=>Fj X Y a1 a2 b1 b2 c1 c2 k1 k2 n1 n2 m1 m2 W s1 s2 t1 t2 e1 e2 f1 f2
 have cR:=fun W h k=>BT ra rb rc rk R Q W h k lx ly
 rw[<-es,<-et] at cS
 rw[<-er,<-fr] at cR
 replace es:=aa es
 replace et:=aa et
 replace er:=aa er
 replace fr:=aa fr
 replace e1:=aa e1
 replace e2:=aa e2
 replace f1:=aa f1
 replace f2:=aa f2
 clear ls lx ly
 generalize bp C D=B1 at*
 generalize decide (X.safe=Y.safe/\X.wait=Y.wait)=B2 at*
 generalize decide (R=Q)=B4 at*
 by_cases hU:U=V
 .subst hU
  cases B1
  .go_enter Tryz.func13,Tryz.ntmps13
   go_upto_region 1 with fail
   rw[<-iR]
   generalize World.alloc (World.alloc w _) _=w1 at*
   clear iR
   have x0:=BX.cell 0
   have y0:=BY.cell 0
   have x1:=BX.cell 1
   have y1:=BY.cell 1
   have x2:=BX.cell 2
   have y2:=BY.cell 2
   have x3:=BX.cell 3
   have y3:=BY.cell 3
   have x4:=BX.cell 4
   have y4:=BY.cell 4
   have xl:=BX.lt
   have yl:=BY.lt
   go_wp2_with fail
   go_at_call 35
   refine(cS _ S T).mono ?_
   rintro e w2 ⟨rfl,q1⟩
   clear x0 y0 x1 y1 x2 y2 x3 y3 x4 y4 xl yl
   replace BX:=BX.keep q1 BX.lt
   replace BY:=BY.keep q1 BY.lt
   have x0:=BX.cell 0
   have y0:=BY.cell 0
   have x1:=BX.cell 1
   have y1:=BY.cell 1
   have x2:=BX.cell 2
   have y2:=BY.cell 2
   have x3:=BX.cell 3
   have y3:=BY.cell 3
   have x4:=BX.cell 4
   have y4:=BY.cell 4
   have xl:=BX.lt
   have yl:=BY.lt
   go_wp2_with fail
   go_ret
   exact⟨by simp,ac bel q1⟩
  cases B2
  .go_enter Tryz.func13,Tryz.ntmps13
   go_upto_region 1 with fail
   rw[<-iR]
   generalize World.alloc (World.alloc w _) _=w1 at*
   clear iR
   have x0:=BX.cell 0
   have y0:=BY.cell 0
   have x1:=BX.cell 1
   have y1:=BY.cell 1
   have x2:=BX.cell 2
   have y2:=BY.cell 2
   have x3:=BX.cell 3
   have y3:=BY.cell 3
   have x4:=BX.cell 4
   have y4:=BY.cell 4
   have xl:=BX.lt
   have yl:=BY.lt
   go_wp2_with fail
   go_at_call 35
   refine(cS _ S T).mono ?_
   rintro e w2 ⟨rfl,q1⟩
   clear x0 y0 x1 y1 x2 y2 x3 y3 x4 y4 xl yl
   replace BX:=BX.keep q1 BX.lt
   replace BY:=BY.keep q1 BY.lt
   have x0:=BX.cell 0
   have y0:=BY.cell 0
   have x1:=BX.cell 1
   have y1:=BY.cell 1
   have x2:=BX.cell 2
   have y2:=BY.cell 2
   have x3:=BX.cell 3
   have y3:=BY.cell 3
   have x4:=BX.cell 4
   have y4:=BY.cell 4
   have xl:=BX.lt
   have yl:=BY.lt
   go_wp2_with fail
   go_at_call 43
   refine(cD _ (S1.call q1) (S2.call q1) (T1.call q1) (T2.call q1)).mono ?_
   rintro e w3 ⟨rfl,q2⟩
   clear x0 y0 x1 y1 x2 y2 x3 y3 x4 y4 xl yl
   replace BX:=BX.keep q2 BX.lt
   replace BY:=BY.keep q2 BY.lt
   have x0:=BX.cell 0
   have y0:=BY.cell 0
   have x1:=BX.cell 1
   have y1:=BY.cell 1
   have x2:=BX.cell 2
   have y2:=BY.cell 2
   have x3:=BX.cell 3
   have y3:=BY.cell 3
   have x4:=BX.cell 4
   have y4:=BY.cell 4
   have xl:=BX.lt
   have yl:=BY.lt
   go_wp2_with fail
   go_ret
   exact⟨by simp,ac (ac bel q1) q2⟩
  go_enter Tryz.func13,Tryz.ntmps13
  go_upto_region 1 with fail
  rw[<-iR]
  generalize World.alloc (World.alloc w _) _=w1 at*
  clear iR
  have x0:=BX.cell 0
  have y0:=BY.cell 0
  have x1:=BX.cell 1
  have y1:=BY.cell 1
  have x2:=BX.cell 2
  have y2:=BY.cell 2
  have x3:=BX.cell 3
  have y3:=BY.cell 3
  have x4:=BX.cell 4
  have y4:=BY.cell 4
  have xl:=BX.lt
  have yl:=BY.lt
  go_wp2_with fail
  go_at_call 35
  refine(cS _ S T).mono ?_
  rintro e w2 ⟨rfl,q1⟩
  clear x0 y0 x1 y1 x2 y2 x3 y3 x4 y4 xl yl
  replace BX:=BX.keep q1 BX.lt
  replace BY:=BY.keep q1 BY.lt
  have x0:=BX.cell 0
  have y0:=BY.cell 0
  have x1:=BX.cell 1
  have y1:=BY.cell 1
  have x2:=BX.cell 2
  have y2:=BY.cell 2
  have x3:=BX.cell 3
  have y3:=BY.cell 3
  have x4:=BX.cell 4
  have y4:=BY.cell 4
  have xl:=BX.lt
  have yl:=BY.lt
  go_wp2_with fail
  go_at_call 43
  refine(cD _ (S1.call q1) (S2.call q1) (T1.call q1) (T2.call q1)).mono ?_
  rintro e w3 ⟨rfl,q2⟩
  clear x0 y0 x1 y1 x2 y2 x3 y3 x4 y4 xl yl
  replace BX:=BX.keep q2 BX.lt
  replace BY:=BY.keep q2 BY.lt
  have x0:=BX.cell 0
  have y0:=BY.cell 0
  have x1:=BX.cell 1
  have y1:=BY.cell 1
  have x2:=BX.cell 2
  have y2:=BY.cell 2
  have x3:=BX.cell 3
  have y3:=BY.cell 3
  have x4:=BX.cell 4
  have y4:=BY.cell 4
  have xl:=BX.lt
  have yl:=BY.lt
  go_wp2_with fail
  go_at_call 42
  refine(cR _ ((R1.call q1).call q2).row ((Q1.call q1).call q2).row).mono ?_
  rintro e w4 ⟨rfl,q,rfl⟩
  go_wp2_with fail
  go_ret
  exact⟨by simp,bt (ac (ac bel q1) q2) q⟩
 have hb:(U==V)=false:=by simpa using hU
 have hd:decide (U=V)=false:=decide_eq_false hU
 go_enter Tryz.func13,Tryz.ntmps13
 go_upto_region 1 with fail
 rw[<-iR]
 generalize World.alloc (World.alloc w _) _=w1 at*
 clear iR
 have x0:=BX.cell 0
 have y0:=BY.cell 0
 have x1:=BX.cell 1
 have y1:=BY.cell 1
 have x2:=BX.cell 2
 have y2:=BY.cell 2
 have x3:=BX.cell 3
 have y3:=BY.cell 3
 have x4:=BX.cell 4
 have y4:=BY.cell 4
 have xl:=BX.lt
 have yl:=BY.lt
 go_wp2_with fail
 go_ret
 exact⟨by simp[hU],bel⟩
theorem tO (a b:List Rw):bp a b=bp b a:=by
 cases h:bp a b with
 |true=>rw[kx h,kc]
 |false=>
  cases k:bp b a with
  |true=>
   rw[kx k,kc] at h
   cases h
  |false=>rfl
theorem GE (x:Wd):
  (cy x.d≠0->dw x=cy x.d)/\(cy x.d=0->x.up=true/\x.d.wait≠[]->dw x=4)/\(cy x.d=0->¬(x.up=true/\x.d.wait≠[])->du (iW x)≠0->dw x=du (iW x))/\
   (cy x.d=0->¬(x.up=true/\x.d.wait≠[])->du (iW x)=0->¬(bp x.c (cd (iW x))=true/\x.rd.length=3)->dw x=4)/\
   (cy x.d=0->¬(x.up=true/\x.d.wait≠[])->du (iW x)=0->(bp x.c (cd (iW x))=true/\x.rd.length=3)->dw x=if x.rd.all (fl x.up (iW x).length)=true then 0 else 3):=by
 unfold dw
 refine⟨fun h=>if_pos h,fun h k=>?_,fun h k e=>?_,fun h k e s=>?_,fun h k e s=>?_⟩
 .rw[if_neg (by simp[h]),if_pos k]
 .rw[if_neg (by simp[h]),if_neg k,if_pos e]
 .rw[if_neg (by simp[h]),if_neg k,if_neg (by simp[e]),if_pos s]
 rw[if_neg (by simp[h]),if_neg k,if_neg (by simp[e]),if_neg (fun q=>q s)]
theorem Dp (x:Wd)(p:Pw)(w:World)(hg:Gl w)(I:dE w p x):
  Calls Tryz.prog 9 #[p.val x.up] w fun e w'=>e=.returned (.int .i64 (dw x))/\Below w.heap.size w w':=by
 obtain⟨z1,z2,z3,z4,z5⟩:=GE x
 obtain⟨WE,Wr⟩:∃WE,WE=dw x:=⟨_,rfl⟩
 rw[<-Wr] at z1 z2 z3 z4 z5⊢
 clear Wr
 obtain⟨C,D,U,R⟩:=x
 obtain⟨sa,sn,sG,a1,n1,c1,a2,n2,c2,ra,rn,rc⟩:=p
 simp only[Pw.val] at*
 have er:=I.er
 have e2:=I.e2
 simp only at er e2
 replace er:=aa er
 replace e2:=aa e2
 have cK:=fun W g s=>ud D a1 a2 c1 c2 n1 n2 W g s I.e1 I.e2
 have cQ:=fun h0 W g s t=>vT D a1 a2 c1 c2 n1 n2 W g s t I.e1 I.e2 h0
 obtain⟨K,hK⟩:∃K,K=cy D:=⟨_,rfl⟩
 rw[<-hK] at cK cQ z1 z2 z3 z4 z5
 have BX:=ag.laid w [.slice sa sn sG,.slice a1 n1 c1,.slice a2 n2 c2,.bool U,.slice ra rn rc] 30 _ rfl
 have bel:=newB (Below.refl w.heap.size w) (.cells #[.slice sa sn sG,.slice a1 n1 c1,.slice a2 n2 c2,.bool U,.slice ra rn rc] 30)
 replace I:=I.alloc (.cells #[.slice sa sn sG,.slice a1 n1 c1,.slice a2 n2 c2,.bool U,.slice ra rn rc] 30)
 clear hK
 by_cases hk:K=0
 .subst hk
  replace z2:=z2 rfl
  replace z3:=z3 rfl
  replace z4:=z4 rfl
  replace z5:=z5 rfl
  clear z1
  cases U with
  |true=>
   by_cases hw:D.wait=[]
   .have hn:n2=0:=by rw[e2.out,hw];rfl
    subst hn
    have ZS:¬(True/\D.wait≠[]):=fun h=>h.2 hw
    replace z3:=z3 (by simp[hw])
    replace z4:=z4 (by simp[hw])
    replace z5:=z5 (by simp[hw])
    have JZ:iW ⟨C,D,true,R⟩=aO D:=if_pos rfl
    rw[JZ] at z3 z4 z5
    replace cQ:=cQ rfl
    clear z2 ZS hw e2
    go_enter Tryz.func9,Tryz.ntmps9
    go_upto_region 1 with fail
    generalize World.alloc w _=w1 at*
    obtain⟨x0,x1,x2,x3,x4,xl⟩:=BX.c5
    go_wp2_with fail
    go_at_call 34
    refine(cK _ (hg.call bel) I.s1).mono ?_
    rintro e w2 ⟨rfl,b⟩
    clear x0 x1 x2 x3 x4 xl
    replace BX:=BX.keep b BX.lt
    replace I:=I.call b
    replace bel:=ac bel b
    clear b
    obtain⟨x0,x1,x2,x3,x4,xl⟩:=BX.c5
    go_wp2_with fail
    go_at_call 18
    refine(cQ _ (hg.call bel) I.s1 I.s2).mono ?_
    rintro e w3 ⟨p1,p2,la,q1,q2,q3,q4,ln,lG,l,rfl,pG,pA,T1,T2,LS,eG,nO,b⟩
    clear x0 x1 x2 x3 x4 xl
    replace BX:=BX.keep b BX.lt
    replace I:=I.call b
    clear T1 T2
    replace pG:=aa pG
    replace pA:=aa pA
    replace eG:=aa eG
    replace bel:=ac bel b
    clear b
    obtain⟨x0,x1,x2,x3,x4,xl⟩:=BX.c5
    replace LS:=LS
    generalize aO D=L at*
    clear cQ cK
    have cS:=fun W s=>nQ l la ln lG (cd (l.map (·.r))).length W s eG (aa rfl)
    rw[nO] at cS
    obtain⟨E2,kG⟩:∃E2,E2=du L:=⟨_,rfl⟩
    obtain⟨D2,k'⟩:∃D2,D2=cd L:=⟨_,rfl⟩
    rw[<-kG] at cS z3 z4 z5
    rw[<-k'] at cS z4 z5
    have x6:E2=0->D2.length=4:=fun e=>by rw[k'];exact bZ (fV (by rw[<-kG];exact e))
    have uC:L.length=l.length:=by rw[<-nO,List.length_map]
    rw[uC,<-eG.out] at z5
    obtain⟨dn,ck⟩:∃dn,dn=D2.length:=⟨_,rfl⟩
    rw[<-ck] at cS x6
    clear kG k' nO uC
    replace ck:=aa ck
    go_wp2_with fail
    go_at_call 19
    refine(cS _ LS).mono ?_
    rintro e w4 ⟨aN,GN,rfl,IN,b0⟩
    have b:=newB b0 (.cells #[.slice aN dn GN] 24)
    have BN:=ag.laid w4 [.slice aN dn GN] 24 _ rfl
    replace IN:=IN.alloc (.cells #[.slice aN dn GN] 24)
    clear b0 cS LS
    clear x0 x1 x2 x3 x4 xl
    replace BX:=BX.keep b BX.lt
    replace I:=I.call b
    replace bel:=ac bel b
    clear b
    obtain⟨x0,x1,x2,x3,x4,xl⟩:=BX.c5
    go_upto_region 10 with fail
    generalize w4.heap.size=gN at*
    generalize World.alloc w4 _=w5 at*
    have n0:=BN.cell 0
    have nl:=BN.lt
    by_cases hz:E2=0
    .subst hz
     replace z4:=z4 rfl
     replace z5:=z5 rfl
     obtain rfl:dn=4:=x6 rfl
     have cM:=fun V k h=>pU (C:=D2) (D:=C) (a:=aN) (b:=sa) (G:=GN) (H:=sG) (W:=V) k h (by rw[<-ck.out];decide)
     rw[<-ck.out,<-I.es,tO] at cM
     cases hs:bp C D2 with
     |false=>
      rw[hs] at cM z4
      have hW:=z4 (by simp)
      subst hW
      clear z3 z4 z5 x6
      go_wp2_with fail
      go_at_call 35
      refine(cM _ IN I.s).mono ?_
      rintro e w6 ⟨rfl,b⟩
      replace bel:=ac bel b
      go_wp2_with fail
      go_ret
      exact⟨rfl,bel⟩
     |true=>
      rw[hs] at cM z4 z5
      by_cases h3:R.length=3
      .have hW:=z5 ⟨rfl,h3⟩
       have qy:rn=3:=by rw[er.out];exact h3
       subst qy
       clear z3 z4 z5 x6
       go_wp2_with fail
       go_at_call 35
       refine(cM _ IN I.s).mono ?_
       rintro e w6 ⟨rfl,b⟩
       clear x0 x1 x2 x3 x4 xl
       replace BX:=BX.keep b BX.lt
       replace I:=I.call b
       clear BN n0 nl IN cM
       replace bel:=ac bel b
       clear b
       obtain⟨x0,x1,x2,x3,x4,xl⟩:=BX.c5
       have SR:Sl w6 ra rc (R.map (Value.int .i64)):=I.r
       obtain⟨rb,ro,rfl,hrb,_⟩:=SR.row.at (by intro e;rw[List.map_eq_nil_iff] at e;rw[e] at h3;simp at h3)
       replace hW:=aa hW
       replace h3:=aa h3
       go_wp2_with fail
       go_loopw [50] (fun i wr=>∃(k:Nat),k<=3/\i=.int .i64 k/\Hid (∀y∈R.take k,fl true ln y=true)/\wr=w6) (fun i _=>3-(intOf i).toNat)
       case atStart=>exact⟨0,by omega,rfl,aa (fun y hy=>by simp at hy),rfl⟩
       case round=>
        obtain⟨k,m6,rfl,H,rfl⟩:=hrel
        by_cases aE:k<3
        .have dy:k<R.length:=by rw[h3.out];exact aE
         have r0:=SR.int k dy
         have hm:R.getD k 0∈R:=by rw[List.getD_eq_getElem?_getD,List.getElem?_eq_getElem dy];exact List.getElem_mem dy
         have ht:R.take (k+1)=R.take k++[R.getD k 0]:=by rw[List.take_add_one,List.getD_eq_getElem?_getD,List.getElem?_eq_getElem dy];rfl
         replace ht:=aa ht
         have kH:=aa hm
         generalize R.getD k 0=v at*
         clear dy hm
         have cI:=fun V=>bG v (-1) (ln:Int) V
         by_cases jf:-1<=v/\v<=(ln:Int)
         .have di:decide (-1<=v/\v<=(ln:Int))=true:=decide_eq_true jf
          rw[di] at cI
          by_cases hv:0<=v
          .have H2:∀y∈R.take (k+1),fl true ln y=true:=by
            intro y hy
            rw[ht.out] at hy
            rcases List.mem_append.1 hy with hy|hy
            .exact H.out y hy
            rw[List.mem_singleton.1 hy]
            unfold fl
            rw[di]
            rfl
           replace H2:=aa H2
           clear H jf di
           go_wp2_with fail
           go_at_call 36
           refine(cI _).mono ?_
           rintro e w7 ⟨rfl,rfl⟩
           go_wp2_with fail
           go_roundw
           case rel=>exact⟨k+1,by omega,by go_num,H2,by trivial⟩
           case measure=>simp[intOf];omega
          have H2:∀y∈R.take (k+1),fl true ln y=true:=by
           intro y hy
           rw[ht.out] at hy
           rcases List.mem_append.1 hy with hy|hy
           .exact H.out y hy
           rw[List.mem_singleton.1 hy]
           unfold fl
           rw[di]
           rfl
          replace H2:=aa H2
          clear H jf di
          go_wp2_with fail
          go_at_call 36
          refine(cI _).mono ?_
          rintro e w7 ⟨rfl,rfl⟩
          go_wp2_with fail
          go_roundw
          case rel=>exact⟨k+1,by omega,by go_num,H2,by trivial⟩
          case measure=>simp[intOf];omega
         have di:decide (-1<=v/\v<=(ln:Int))=false:=decide_eq_false jf
         rw[di] at cI
         have O8:WE=3:=by
          rw[hW.out,if_neg]
          intro ha
          have:=List.all_eq_true.1 ha v kH.out
          unfold fl at this
          rw[di] at this
          simp at this
         clear jf di H hW
         subst O8
         go_wp2_with fail
         go_at_call 36
         refine(cI _).mono ?_
         rintro e w7 ⟨rfl,rfl⟩
         go_wp2_with fail
         go_ret
         exact⟨rfl,bel⟩
        obtain rfl:k=3:=by omega
        have rC:WE=0:=by
         rw[hW.out,if_pos]
         refine List.all_eq_true.2 fun y hy=>?_
         have:=H.out y
         rw[List.take_of_length_le (by rw[h3.out];exact Nat.le_refl _)] at this
         exact this hy
        clear H hW
        subst rC
        go_wp2_with fail
        go_ret
        exact⟨rfl,bel⟩
      have hW:=z4 (fun h=>h3 h.2)
      subst hW
      have qy:¬rn=3:=by rw[er.out];exact h3
      have T9:¬((rn:Int)=3):=by omega
      have pr:((rn:Int) != 3)=true:=by simpa using T9
      clear z3 z4 z5 x6
      go_wp2_with fail
      go_at_call 35
      refine(cM _ IN I.s).mono ?_
      rintro e w6 ⟨rfl,b⟩
      clear x0 x1 x2 x3 x4 xl
      replace BX:=BX.keep b BX.lt
      replace I:=I.call b
      replace bel:=ac bel b
      clear b
      obtain⟨x0,x1,x2,x3,x4,xl⟩:=BX.c5
      go_wp2_with fail
      go_ret
      exact⟨rfl,bel⟩
    have hd:decide (E2=0)=false:=decide_eq_false hz
    have hW:=z3 hz
    subst hW
    go_wp2_with fail
    go_ret
    exact⟨rfl,bel⟩
   .have hW:=z2 ⟨rfl,hw⟩
    subst hW
    have hn:0<n2:=by
     rw[e2.out]
     exact List.length_pos_iff.2 hw
    have Zo:(0:Int)<(n2:Int):=by omega
    clear z2 z3 z4 z5 cQ e2
    go_enter Tryz.func9,Tryz.ntmps9
    go_upto_region 1 with fail
    generalize World.alloc w _=w1 at*
    obtain⟨x0,x1,x2,x3,x4,xl⟩:=BX.c5
    go_wp2_with fail
    go_at_call 34
    refine(cK _ (hg.call bel) I.s1).mono ?_
    rintro e w2 ⟨rfl,b⟩
    clear x0 x1 x2 x3 x4 xl
    replace BX:=BX.keep b BX.lt
    replace I:=I.call b
    replace bel:=ac bel b
    clear b
    obtain⟨x0,x1,x2,x3,x4,xl⟩:=BX.c5
    go_wp2_with fail
    go_ret
    exact⟨rfl,bel⟩
  |false=>
   have JZ:iW ⟨C,D,false,R⟩=[]:=rfl
   rw[JZ] at z3 z4 z5
   replace z3:=z3 (by simp)
   replace z4:=z4 (by simp)
   replace z5:=z5 (by simp)
   clear z2 cQ e2
   go_enter Tryz.func9,Tryz.ntmps9
   go_upto_region 1 with fail
   generalize World.alloc w _=w1 at*
   obtain⟨x0,x1,x2,x3,x4,xl⟩:=BX.c5
   go_wp2_with fail
   go_at_call 34
   refine(cK _ (hg.call bel) I.s1).mono ?_
   rintro e w2 ⟨rfl,b⟩
   clear x0 x1 x2 x3 x4 xl
   replace BX:=BX.keep b BX.lt
   replace I:=I.call b
   replace bel:=ac bel b
   clear b
   obtain⟨x0,x1,x2,x3,x4,xl⟩:=BX.c5
   obtain⟨l,nO⟩:∃l:List dK,l.map (·.r)=[]/\l=[]:=⟨[],rfl,rfl⟩
   obtain⟨nO,UA⟩:=nO
   have eG:Hid (0=l.length):=aa (by rw[UA];rfl)
   have LS:eK w2 none 0 l:=by rw[UA];exact⟨be.ofNil _ _,fun q h=>by simp at h⟩
   clear cK UA
   generalize Sg:([]:List Rc)=L at*
   clear Sg
   have cS:=fun W s=>nQ l none 0 0 (cd (l.map (·.r))).length W s eG (aa rfl)
   rw[nO] at cS
   obtain⟨E2,kG⟩:∃E2,E2=du L:=⟨_,rfl⟩
   obtain⟨D2,k'⟩:∃D2,D2=cd L:=⟨_,rfl⟩
   rw[<-kG] at cS z3 z4 z5
   rw[<-k'] at cS z4 z5
   have x6:E2=0->D2.length=4:=fun e=>by rw[k'];exact bZ (fV (by rw[<-kG];exact e))
   have uC:L.length=l.length:=by rw[<-nO,List.length_map]
   rw[uC,<-eG.out] at z5
   obtain⟨dn,ck⟩:∃dn,dn=D2.length:=⟨_,rfl⟩
   rw[<-ck] at cS x6
   clear kG k' nO uC
   replace ck:=aa ck
   go_wp2_with fail
   go_at_call 19
   refine(cS _ LS).mono ?_
   rintro e w4 ⟨aN,GN,rfl,IN,b0⟩
   have b:=newB b0 (.cells #[.slice aN dn GN] 24)
   have BN:=ag.laid w4 [.slice aN dn GN] 24 _ rfl
   replace IN:=IN.alloc (.cells #[.slice aN dn GN] 24)
   clear b0 cS LS
   clear x0 x1 x2 x3 x4 xl
   replace BX:=BX.keep b BX.lt
   replace I:=I.call b
   replace bel:=ac bel b
   clear b
   obtain⟨x0,x1,x2,x3,x4,xl⟩:=BX.c5
   go_upto_region 10 with fail
   generalize w4.heap.size=gN at*
   generalize World.alloc w4 _=w5 at*
   have n0:=BN.cell 0
   have nl:=BN.lt
   by_cases hz:E2=0
   .subst hz
    replace z4:=z4 rfl
    replace z5:=z5 rfl
    obtain rfl:dn=4:=x6 rfl
    have cM:=fun V k h=>pU (C:=D2) (D:=C) (a:=aN) (b:=sa) (G:=GN) (H:=sG) (W:=V) k h (by rw[<-ck.out];decide)
    rw[<-ck.out,<-I.es,tO] at cM
    cases hs:bp C D2 with
    |false=>
     rw[hs] at cM z4
     have hW:=z4 (by simp)
     subst hW
     clear z3 z4 z5 x6
     go_wp2_with fail
     go_at_call 35
     refine(cM _ IN I.s).mono ?_
     rintro e w6 ⟨rfl,b⟩
     replace bel:=ac bel b
     go_wp2_with fail
     go_ret
     exact⟨rfl,bel⟩
    |true=>
     rw[hs] at cM z4 z5
     by_cases h3:R.length=3
     .have hW:=z5 ⟨rfl,h3⟩
      have qy:rn=3:=by rw[er.out];exact h3
      subst qy
      clear z3 z4 z5 x6
      go_wp2_with fail
      go_at_call 35
      refine(cM _ IN I.s).mono ?_
      rintro e w6 ⟨rfl,b⟩
      clear x0 x1 x2 x3 x4 xl
      replace BX:=BX.keep b BX.lt
      replace I:=I.call b
      clear BN n0 nl IN cM
      replace bel:=ac bel b
      clear b
      obtain⟨x0,x1,x2,x3,x4,xl⟩:=BX.c5
      have SR:Sl w6 ra rc (R.map (Value.int .i64)):=I.r
      obtain⟨rb,ro,rfl,hrb,_⟩:=SR.row.at (by intro e;rw[List.map_eq_nil_iff] at e;rw[e] at h3;simp at h3)
      replace hW:=aa hW
      replace h3:=aa h3
      go_wp2_with fail
      go_loopw [50] (fun i wr=>∃(k:Nat),k<=3/\i=.int .i64 k/\Hid (∀y∈R.take k,fl false 0 y=true)/\wr=w6) (fun i _=>3-(intOf i).toNat)
      case atStart=>exact⟨0,by omega,rfl,aa (fun y hy=>by simp at hy),rfl⟩
      case round=>
       obtain⟨k,m6,rfl,H,rfl⟩:=hrel
       by_cases aE:k<3
       .have dy:k<R.length:=by rw[h3.out];exact aE
        have r0:=SR.int k dy
        have hm:R.getD k 0∈R:=by rw[List.getD_eq_getElem?_getD,List.getElem?_eq_getElem dy];exact List.getElem_mem dy
        have ht:R.take (k+1)=R.take k++[R.getD k 0]:=by rw[List.take_add_one,List.getD_eq_getElem?_getD,List.getElem?_eq_getElem dy];rfl
        replace ht:=aa ht
        have kH:=aa hm
        generalize R.getD k 0=v at*
        clear dy hm
        have cI:=fun V=>bG v (-1) ((0:Nat):Int) V
        by_cases jf:-1<=v/\v<=((0:Nat):Int)
        .have di:decide (-1<=v/\v<=((0:Nat):Int))=true:=decide_eq_true jf
         rw[di] at cI
         by_cases hv:0<=v
         .have O8:WE=3:=by
           rw[hW.out,if_neg]
           intro ha
           have:=List.all_eq_true.1 ha v kH.out
           unfold fl at this
           rw[di] at this
           simp at this
           omega
          clear jf di H hW
          subst O8
          go_wp2_with fail
          go_at_call 36
          refine(cI _).mono ?_
          rintro e w7 ⟨rfl,rfl⟩
          go_wp2_with fail
          go_ret
          exact⟨rfl,bel⟩
         have H2:∀y∈R.take (k+1),fl false 0 y=true:=by
          intro y hy
          rw[ht.out] at hy
          rcases List.mem_append.1 hy with hy|hy
          .exact H.out y hy
          rw[List.mem_singleton.1 hy]
          unfold fl
          rw[di]
          simp;omega
         replace H2:=aa H2
         clear H jf di
         go_wp2_with fail
         go_at_call 36
         refine(cI _).mono ?_
         rintro e w7 ⟨rfl,rfl⟩
         go_wp2_with fail
         go_roundw
         case rel=>exact⟨k+1,by omega,by go_num,H2,by trivial⟩
         case measure=>simp[intOf];omega
        have di:decide (-1<=v/\v<=((0:Nat):Int))=false:=decide_eq_false jf
        rw[di] at cI
        have O8:WE=3:=by
         rw[hW.out,if_neg]
         intro ha
         have:=List.all_eq_true.1 ha v kH.out
         unfold fl at this
         rw[di] at this
         simp at this
        clear jf di H hW
        subst O8
        go_wp2_with fail
        go_at_call 36
        refine(cI _).mono ?_
        rintro e w7 ⟨rfl,rfl⟩
        go_wp2_with fail
        go_ret
        exact⟨rfl,bel⟩
       obtain rfl:k=3:=by omega
       have rC:WE=0:=by
        rw[hW.out,if_pos]
        refine List.all_eq_true.2 fun y hy=>?_
        have:=H.out y
        rw[List.take_of_length_le (by rw[h3.out];exact Nat.le_refl _)] at this
        exact this hy
       clear H hW
       subst rC
       go_wp2_with fail
       go_ret
       exact⟨rfl,bel⟩
     have hW:=z4 (fun h=>h3 h.2)
     subst hW
     have qy:¬rn=3:=by rw[er.out];exact h3
     have T9:¬((rn:Int)=3):=by omega
     have pr:((rn:Int) != 3)=true:=by simpa using T9
     clear z3 z4 z5 x6
     go_wp2_with fail
     go_at_call 35
     refine(cM _ IN I.s).mono ?_
     rintro e w6 ⟨rfl,b⟩
     clear x0 x1 x2 x3 x4 xl
     replace BX:=BX.keep b BX.lt
     replace I:=I.call b
     replace bel:=ac bel b
     clear b
     obtain⟨x0,x1,x2,x3,x4,xl⟩:=BX.c5
     go_wp2_with fail
     go_ret
     exact⟨rfl,bel⟩
   have hd:decide (E2=0)=false:=decide_eq_false hz
   have hW:=z3 hz
   subst hW
   go_wp2_with fail
   go_ret
   exact⟨rfl,bel⟩
 have hd:decide (K=0)=false:=decide_eq_false hk
 have hW:=z1 hk
 subst hW
 clear z2 z3 z4 z5 cQ
 go_enter Tryz.func9,Tryz.ntmps9
 go_upto_region 1 with fail
 generalize World.alloc w _=w1 at*
 obtain⟨x0,x1,x2,x3,x4,xl⟩:=BX.c5
 go_wp2_with fail
 go_at_call 34
 refine(cK _ (hg.call bel) I.s1).mono ?_
 rintro e w2 ⟨rfl,b⟩
 clear x0 x1 x2 x3 x4 xl
 replace BX:=BX.keep b BX.lt
 replace I:=I.call b
 replace bel:=ac bel b
 clear b
 obtain⟨x0,x1,x2,x3,x4,xl⟩:=BX.c5
 go_wp2_with fail
 go_ret
 exact⟨rfl,bel⟩
end Go.Proofs.YtoonnbhoiocoeaaGreatDoor
