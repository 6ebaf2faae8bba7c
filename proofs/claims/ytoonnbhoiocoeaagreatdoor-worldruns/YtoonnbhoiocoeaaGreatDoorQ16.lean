/-
  shelf.Put: what it answers of a shelf and a batch, whatever they are.
-/
import Derived.Deep.RegionLawGrows
import Derived.Test.YtoonnbhoiocoeaaGreatDoorHQChange
set_option maxHeartbeats 40000000
set_option maxRecDepth 100000
set_option linter.unusedVariables false
namespace Go.Proofs.YtoonnbhoiocoeaaGreatDoor
open Go.RowKit
theorem E5 (l:List Rw)(x:En)(base box g:Nat)(rs:List Lr)(W:World)(hR:eY l)(C:bv l base box g rs W):
  Calls Tryz.prog 152 #[.pointer (some ⟨box,0,none⟩),.agg #[.int .i64 x.s,.int .i64 x.t,.int .i64 x.v]] W fun e W'=>
   e=.returned (.int .i64 (fo l x))/\Below base W W'/\(fo l x=0->∃iG,bv (iV l x) base box g iG W'):=by
 cases hi:dG x.s 0 3 with
 |false=>
  have e1:fo l x=5:=by unfold fo;rw[if_pos hi]
  rw[e1]
  refine(H8 x.s x.t x.v box W hi).mono ?_
  rintro e W' ⟨rfl,b⟩
  exact⟨rfl,b.mono C.base,fun h=>by cases h⟩
 |true=>
  obtain⟨k,hk,Ad⟩:=qO hi
  have e1:fo l x=dV (putRow l x):=by unfold fo;rw[hi];rfl
  rw[e1]
  unfold iV putRow
  rw[hk,Int.toNat_natCast]
  refine(Gm l k x.t x.v base box g rs W Ad hR C).mono ?_
  rintro e W' ⟨rfl,b,h⟩
  exact⟨rfl,b,fun _=>h⟩
theorem HH (n:Nat)(la:Option Addr)(lc cb box:Nat)(W:World)(B:ag W cb [.slice la n lc] 31)(h:10<n)(hn:n<=140737488355328):
  Calls Tryz.prog 151 #[.pointer (some ⟨box,0,none⟩),.pointer (some ⟨cb,0,none⟩)] W fun e W'=>e=.returned (.int .i64 2)/\W'=W:=by
 have d0:W.cell? ⟨cb,0,none⟩=some (.slice la n lc):=B.cell 0
 have h':(10:Int)<n:=by omega
 clear B
 go_enter Tryz.func151,Tryz.ntmps151
 go_wp2_with fail
 go_ret
 exact⟨rfl,rfl⟩
theorem KR (L:List En)(la:Option Addr)(lc cb:Nat)(l:List Rw)(base box g:Nat)(rs:List Lr)(w W:World)(hs:be En.cells w la lc L)(B:ag w cb [.slice la L.length lc] 31)(Te:w.heap.size<=base)(bel:Below w.heap.size w W)(hR:eY l)(C:bv l base box g rs W)(h:L.length<=10):
  Calls Tryz.prog 151 #[.pointer (some ⟨box,0,none⟩),.pointer (some ⟨cb,0,none⟩)] W (Does (gn l L) (jl l L) base box g W):=by
 obtain⟨E,hE⟩:∃E,E=gn l L:=⟨_,rfl⟩
 obtain⟨F,hF⟩:∃F,F=jl l L:=⟨_,rfl⟩
 rw[<-hE,<-hF]
 have H0:Hid (E=gn l (L.drop 0)):=by rw[List.drop_zero];exact hE
 have H1:Hid (F=jl l (L.drop 0)):=by rw[List.drop_zero];exact hF
 clear hE hF
 obtain⟨n,hn⟩:∃n,n=L.length:=⟨_,rfl⟩
 rw[<-hn] at B h
 have h':¬(10:Int)<n:=by omega
 replace hn:=aa hn
 have d0:W.cell? ⟨cb,0,none⟩=some (.slice la n lc):=(B.keep bel B.lt).cell 0
 have b0:=Below.refl base W
 replace C:=aa C
 replace hR:=aa hR
 clear B
 go_enter Tryz.func151,Tryz.ntmps151
 go_wp2_with fail
 go_loopw [12] (fun i wr=>∃(k:Nat) (l':List Rw) (iG:List Lr),k<=n/\i=.int .i64 k/\Hid (E=gn l' (L.drop k))/\Hid (F=jl l' (L.drop k))/\Hid (eY l')/\Hid (bv l' base box g iG wr)/\Below base W wr) (fun i _=>n-(intOf i).toNat)
 case atStart=>exact⟨0,l,rs,by omega,rfl,H0,H1,hR,C,b0⟩
 case round=>
  clear H0 H1 hR C b0 d0
  obtain⟨k,l',iG,hk,rfl,H0,H1,hR,C,b0⟩:=hrel
  by_cases aE:k<n
  .have aY:Below w.heap.size w wr:=bel.trans (b0.mono Te)
   have dZ:=hs.keep aY (Nat.le_refl _)
   obtain⟨b,off,rfl,ld⟩:=dZ.where En.three (by decide) (by intro e;rw[hn.out,e] at aE;simp at aE)
   obtain⟨x,hx⟩:∃x,L[k]? =some x:=⟨_,List.getElem?_eq_getElem (by rw[<-hn.out];exact aE)⟩
   have e0:=dZ.cell En.three k 0 x _ hx rfl
   have e1:=dZ.cell En.three k 1 x _ hx rfl
   have e2:=dZ.cell En.three k 2 x _ hx rfl
   simp only[Nat.add_zero] at e0
   have hd:L.drop k=x::L.drop (k+1):=by
    obtain⟨fC,rfl⟩:=List.getElem?_eq_some_iff.1 hx
    exact List.drop_eq_getElem_cons fC
   have aJ:=H0.out
   have eQ:=H1.out
   rw[hd,gn] at aJ
   rw[hd,jl] at eQ
   have c1:=fun W h=>E5 l' x base box g iG W hR.out h
   have Hv:=hR.out
   have C1:=fun o=>C.out.alloc o
   have oZ:=C.out.base
   clear H0 H1 hd hx dZ C hR
   by_cases hE:fo l' x=0
   .rw[if_pos hE] at aJ
    have H7:=aa (Hv.put hE)
    have kG:=aa hE
    rw[hE] at c1
    replace aJ:=aa aJ
    replace eQ:=aa eQ
    clear hE Hv
    go_wp2_with fail
    go_at_call 152
    refine(c1 _ (C1 _)).mono ?_
    rintro e w2 ⟨rfl,b2,h2⟩
    obtain⟨Zh,C2⟩:=h2 (by trivial)
    have b3:Below base W w2:=(b0.alloc oZ _).trans b2
    replace C2:=aa C2
    go_wp2_with fail
    go_roundw
    case rel=>exact⟨k+1,_,Zh,by omega,by go_num,aJ,eQ,H7,C2,b3⟩
    case measure=>simp[intOf];omega
   rw[if_neg hE] at aJ
   generalize fo l' x=G at*
   replace aJ:=aa aJ
   clear eQ Hv
   go_wp2_with fail
   go_at_call 152
   refine(c1 _ (C1 _)).mono ?_
   rintro e w2 ⟨rfl,b2,h2⟩
   have b3:Below base W w2:=(b0.alloc oZ _).trans b2
   go_wp2_with fail
   go_ret
   exact⟨by rw[aJ.out];rfl,b3,fun e=>absurd (aJ.out.symm.trans e) hE⟩
  obtain rfl:k=n:=by omega
  have aJ:=H0.out
  have eQ:=H1.out
  rw[hn.out,List.drop_length] at aJ eQ
  rw[gn] at aJ
  rw[jl] at eQ
  have C':=C.out
  have Hv:=hR.out
  have F1:=C'.own.fin (fun r hr=>by
   have:=Hv.few r.rw (by rw[<-C'.same];exact List.mem_map.2 ⟨r,hr,rfl⟩)
   unfold Lr.rw at this
   simp only[List.length_map] at this
   omega)
  have l4:iG.length=4:=by rw[<-Hv.four,<-C'.same,List.length_map]
  have sm:=C'.same
  have ou:=C'.out
  have qx:=aa C'.hdLo
  replace F1:=aa F1
  replace l4:=aa l4
  replace sm:=aa sm
  replace aJ:=aa aJ
  replace eQ:=aa eQ
  clear C' Hv C hR H0 H1
  go_wp2_with fail
  go_ret
  exact⟨by rw[aJ.out];rfl,b0,fun _=>⟨iG,F1.out,⟨l4.out,qx.out⟩,by rw[eQ.out];exact sm.out,ou⟩⟩
theorem KM (L:List En)(la:Option Addr)(lc cb:Nat)(l:List Rw)(base box g:Nat)(rs:List Lr)(w W:World)(hs:be En.cells w la lc L)(B:ag w cb [.slice la L.length lc] 31)(hL:L.length<=140737488355328)(Te:w.heap.size<=base)(bel:Below w.heap.size w W)(hR:eY l)(C:bv l base box g rs W):
  Calls Tryz.prog 151 #[.pointer (some ⟨box,0,none⟩),.pointer (some ⟨cb,0,none⟩)] W (Does (fB l L) (iO l L) base box g W):=by
 by_cases h:10<L.length
 .have e1:fB l L=2:=by unfold fB;rw[if_pos h]
  rw[e1]
  refine(HH L.length la lc cb box W (B.keep bel B.lt) h hL).mono ?_
  rintro e W' ⟨rfl,rfl⟩
  exact⟨rfl,Below.refl _ _,fun h=>by cases h⟩
 have e1:fB l L=gn l L:=by unfold fB;rw[if_neg h]
 refine(KR L la lc cb l base box g rs w W hs B Te bel hR C (by omega)).mono ?_
 rintro e W' ⟨rfl,b,hf⟩
 refine⟨by rw[e1],b,fun hz=>?_⟩
 rw[e1] at hz
 obtain⟨iG,p1,p2,p3,p4⟩:=hf hz
 exact⟨iG,p1,p2,by unfold iO;rw[e1,if_pos hz];exact p3,p4⟩
theorem KD (l:List Lr)(ao:Option Addr)(cap:Nat)(L:List En)(la:Option Addr)(lc:Nat)(w:World)(hs:bL w ao cap l)(hL:be En.cells w la lc L)(few:L.length<=140737488355328):
  Calls Tryz.prog 120 #[.agg #[.slice ao l.length cap],.slice la L.length lc] w fun e w'=>∃rs a' G,e=.returned (.tuple #[.agg #[.slice a' rs.length G],.int .i64 (iY (l.map Lr.rw) (fB (l.map Lr.rw) L))])/\rs.map Lr.rw=ia (l.map Lr.rw) (fB (l.map Lr.rw) L) (iO (l.map Lr.rw) L)/\bL w' a' G rs/\fv w.heap.size rs/\Below w.heap.size w w':=by
 have B1:=(ag.laid (w.alloc (.cells #[.slice ao l.length cap] 24)) [.slice la L.length lc] 31 (w.heap.size+1) (by simp)).alc (.cells #[.slice none 0 0] 24)
 have R1:=ag.laid ((w.alloc (.cells #[.slice ao l.length cap] 24)).alloc (.cells #[.slice la L.length lc] 31)) [.slice none 0 0] 24 (w.heap.size+2) (by simp)
 have aY:=k6 w (.cells #[.slice ao l.length cap] 24) (.cells #[.slice la L.length lc] 31) (.cells #[.slice none 0 0] 24)
 have s1:=hs.keep aY (Nat.le_refl _)
 have t1:=hL.keep aY (Nat.le_refl _)
 have c:=fun W (S:bL W ao cap l) (T:be En.cells W la lc L) (B:ag W (w.heap.size+1) [.slice la L.length lc] 31)=>MN (.pointer (some ⟨w.heap.size+1,0,none⟩)) (fB (l.map Lr.rw) L) (iO (l.map Lr.rw) L) l ao cap W S
  (fun hE W2 base box g rs hb b2 C=>KM L la lc (w.heap.size+1) (l.map Lr.rw) base box g rs W W2 T B few hb b2 (jO hE) C)
 generalize ia (l.map Lr.rw) (fB (l.map Lr.rw) L) (iO (l.map Lr.rw) L)=X at*
 generalize iY (l.map Lr.rw) (fB (l.map Lr.rw) L)=E at*
 generalize l.length=n at*
 generalize L.length=m at*
 go_enter Tryz.func120,Tryz.ntmps120
 go_wp2_with fail
 generalize((w.alloc _).alloc _).alloc _=w1 at*
 go_at_call 150
 refine(c _ s1 t1 B1).mono ?_
 rintro e w2 ⟨rs,a',G,rfl,hX,s2,fr,b2⟩
 have R2:=R1.keep b2 R1.lt
 have am:=ac aY b2
 have r0:w2.cell? ⟨w.heap.size+2,0,none⟩=some (.slice none 0 0):=R2.cell 0
 have r1:=R2.free 0
 have s3:=s2.written (io none 0 0) R2 (i:=0) (u:=.slice a' rs.length G) (fun ad e=>by have:=fr.1 ad e;have:=R1.lt;omega)
 have aC:=am.setCell (p:=⟨w.heap.size+2,0,none⟩) (by show w.heap.size<=w.heap.size+2;omega) (.slice a' rs.length G)
 have qx:=aa (fr.2.mono aY.size)
 replace s3:=aa s3
 replace hX:=aa hX
 clear s2 R1 R2 s1 t1 B1 c hs hL
 go_wp2_with fail
 exact bodyPost_ret (v:=.tuple #[.agg #[.slice a' rs.length G],.int .i64 E]) (by simp[results,Tryz.results120,go_sem,r0]) rfl ⟨rs,a',G,rfl,hX.out,s3.out,qx.out,aC⟩
theorem OJ {w:World}{base:Nat}{v:Value}{bn:Nat}{bs:List Lb}{M:Bk}{a5:Option Addr}{G5:Nat}(h:w.ownsRow base 107 4 v (bn+1) (bs.flatMap Lb.cells++[.int .i64 M.n,.int .i64 M.fr,.int .i64 M.to,.slice a5 M.bits.length G5])):
  w.ownsRow base 107 4 v (bn+1) ((bs++[(⟨M,a5,G5⟩:Lb)]).flatMap Lb.cells):=by
 rw[List.flatMap_append]
 exact h
theorem CR (n:Int)(cb g k m hc:Nat)(ha:Option Addr)(W:World)(d0:W.cell? ⟨cb,0,none⟩=some (.int .i64 n))(d1:W.cell? ⟨g,k*2+1,none⟩=some (.slice ha m hc))(h:dG n 1 m=false):
  Calls Tryz.prog 154 #[.pointer (some ⟨g,k*2,none⟩),.pointer (some ⟨cb,0,none⟩)] W fun e W'=>e=.returned (.int .i64 3)/\∃q,W'=W.drewN q:=by
 have h':n<1\/(m:Int)<n:=by unfold dG at h;simp at h;omega
 clear h
 rcases h' with h|h
 .go_enter Tryz.func154,Tryz.ntmps154
  go_wp2_with fail
  go_quiet (fail)
  go_wp2_with fail
  go_ret
  exact⟨rfl,_,rfl⟩
 by_cases h1:n<1
 .go_enter Tryz.func154,Tryz.ntmps154
  go_wp2_with fail
  go_quiet (fail)
  go_wp2_with fail
  go_ret
  exact⟨rfl,_,rfl⟩
 go_enter Tryz.func154,Tryz.ntmps154
 go_wp2_with fail
 go_quiet (fail)
 go_wp2_with fail
 go_ret
 exact⟨rfl,_,rfl⟩
theorem FC (n:Int)(cb g k m hc bc:Nat)(ha ba:Option Addr)(W:World)(d0:W.cell? ⟨cb,0,none⟩=some (.int .i64 n))(d1:W.cell? ⟨g,k*2+1,none⟩=some (.slice ha m hc))(d2:W.cell? ⟨g,k*2,none⟩=some (.slice ba 8 bc))(h1:¬n<1)(h2:¬(m:Int)<n):
  Calls Tryz.prog 154 #[.pointer (some ⟨g,k*2,none⟩),.pointer (some ⟨cb,0,none⟩)] W fun e W'=>e=.returned (.int .i64 2)/\∃q,W'=W.drewN q:=by
 go_enter Tryz.func154,Tryz.ntmps154
 go_wp2_with fail
 go_quiet (fail)
 go_wp2_with fail
 go_ret
 exact⟨rfl,_,rfl⟩
theorem Lz (q:Nat)(cb:Nat)(l:List Rw)(base box g k:Nat)(rs:List Lr)(r:Lr)(W:World)(hR:eY l)(C:bv l base box g rs W)(hr:rs[k]? =some r)(Bc:ag W cb [.int .i64 q] 3)(f1:r.bs.length<8)(f2:r.hd.length<=40)(h1:1<=q)(h2:q<=r.hd.length)(hz:fk (r.hd.take q)=0):
  Calls Tryz.prog 154 #[.pointer (some ⟨g,k*2,none⟩),.pointer (some ⟨cb,0,none⟩)] W (Does 0 (l.set k ⟨r.rw.blocks++[dC (r.hd.take q)],r.hd.drop q⟩) base box g W):=by
 have oR:=C.own.each r (List.mem_of_getElem? hr)
 have Y0:=aa C.hdLo
 have Xt:=aa (yL oR.hd)
 obtain⟨bg,eb,-,-⟩:=oR.bs
 obtain⟨hg,eh,-⟩:=oR.hd
 have Vd:Hid (base<=hg):=aa (Xt.out _ eh)
 have gr:=oR.toGood (by omega) (by omega)
 have TJ:r.hd.length<=r.hc:=gr.hd.le
 have Zz:=gr.hd.max
 have tP:=oR.bc
 have c4:∀W,aV W r.ha r.hc r.hd->Calls Tryz.prog 155 #[.slice r.ha q r.hc] W fun e w'=>∃a' G,e=.returned (.tuple #[ej (dC (r.hd.take q)) a' G,.int .i64 (fk (r.hd.take q))])/\Sl w' a' G ((dC (r.hd.take q)).bits.map Value.bool)/\Below W.heap.size W w':=by
  intro W h
  have t:=AV r.ha r.hc (r.hd.take q) W (h.front q)
  rw[List.length_take,Nat.min_eq_left h2] at t
  exact t
 rw[hz] at c4
 have lM:=qL (r.hd.take q)
 obtain⟨e0,e1⟩:=C.own.at k r hr
 have d0:W.cell? ⟨cb,0,none⟩=some (.int .i64 q):=Bc.cell 0
 obtain⟨bn,yg⟩:∃bn,bn=r.bs.length:=⟨_,rfl⟩
 obtain⟨m,hm⟩:∃m,m=r.hd.length:=⟨_,rfl⟩
 rw[<-yg] at e0 f1
 rw[<-hm] at e1 f2 h2 TJ
 rw[eb,tP,<-yg] at e0
 rw[eh] at e1 c4
 have i1:¬(q:Int)<1:=by omega
 have i2:¬(m:Int)<q:=by omega
 have i3:¬(bn:Int)=8:=by omega
 generalize dC (r.hd.take q)=M at*
 unfold ej at c4
 replace yg:=aa yg
 replace hm:=aa hm
 replace tP:=aa tP
 replace eb:=aa eb
 replace eh:=aa eh
 replace hr:=aa hr
 replace C:=aa C
 replace hR:=aa hR
 clear oR gr hz
 go_enter Tryz.func154,Tryz.ntmps154
 go_wp2_with fail
 go_quiet (fail)
 have C2:=aa (C.out.call (bt (Below.refl W.heap.size W) nq))
 have am:=bt (Below.refl base W) nq
 have wL:ag (W.drewN nq) cb [.int .i64 q] 3:=Bc
 have jJ:=C2.out.base
 clear e0 e1 d0 C Bc
 generalize W.drewN nq=w2 at*
 have e0:w2.cell? ⟨g,k*2,none⟩=some (.slice (some ⟨bg,0,none⟩) bn bn):=by rw[(C2.out.own.at k r hr.out).1,eb.out,tP.out,<-yg.out]
 have e1:w2.cell? ⟨g,k*2+1,none⟩=some (.slice (some ⟨hg,0,none⟩) m r.hc):=by rw[(C2.out.own.at k r hr.out).2,eh.out,<-hm.out]
 have d0:w2.cell? ⟨cb,0,none⟩=some (.int .i64 q):=wL.cell 0
 go_upto_region 5 with fail
 have C3:=C2.out.drew
 have g3:aV w2.drew (some ⟨hg,0,none⟩) r.hc r.hd:=by
  have:=((C3.own.each r (List.mem_of_getElem? hr.out)).toGood (by rw[<-yg.out];omega) (by rw[<-hm.out];omega)).hd
  rw[eh.out] at this
  exact this
 replace C3:=aa C3
 replace g3:=aa g3
 have lg:=C2.out.own.rows.lt
 have lc:=wL.lt
 go_cut [4,5] from 6 to 54 (fun s4 s5 wx=>∃(x4:Nat) (a5:Option Addr) (G5:Nat),s4=.pointer (some ⟨x4,0,none⟩)/\s5=.int .i64 0/\ag wx x4 [.int .i64 M.n,.int .i64 M.fr,.int .i64 M.to,.slice a5 M.bits.length G5] 107/\Hid (Sl wx a5 G5 (M.bits.map Value.bool))/\Below w2.heap.size w2 wx)
 case first=>
  go_region_with (first
   | (go_at_call 155;refine(c4 _ ?_).mono ?_;exact g3.out;rintro e w5 ⟨a5,G5,rfl,s5,b5⟩)
   | (go_at_call 155;refine(c4 _ ?_).mono ?_;exact g3.out.alloc _;rintro e w5 ⟨a5,G5,rfl,s5,b5⟩;have A5:=(ag.laid w2.drew [.int .i64 0,.int .i64 0,.int .i64 0,.slice none 0 0] 107 w2.heap.size rfl).keep b5 (by simp);have z0:w5.cell? ⟨w2.heap.size,0,none⟩=some (.int .i64 0):=A5.cell 0;have z1:w5.cell? ⟨w2.heap.size,1,none⟩=some (.int .i64 0):=A5.cell 1;have z2:w5.cell? ⟨w2.heap.size,2,none⟩=some (.int .i64 0):=A5.cell 2;have z3:w5.cell? ⟨w2.heap.size,3,none⟩=some (.slice none 0 0):=A5.cell 3;have y0:=A5.free 0;have y1:=A5.free 1;have y2:=A5.free 2;have y3:=A5.free 3))
  all_goals(
   go_wp2_with fail
   go_meet
   case rel=>
    first
     |exact⟨_,a5,G5,rfl,rfl,A5.put4 _ _ _ _,s5.put4 A5 _ _ _ _,ic (ac (ax (ak (Below.refl w2.heap.size w2)) _) b5) (Nat.le_refl _) _ _ _ _⟩
     |exact⟨_,a5,G5,rfl,rfl,ag.laid w5 [.int .i64 M.n,.int .i64 M.fr,.int .i64 M.to,.slice a5 M.bits.length G5] 107 _ rfl,s5.alloc _,ax (ac (ak (Below.refl w2.heap.size w2)) b5) _⟩)
 case rest=>
  obtain⟨x4,a5,G5,rfl,rfl,X,s5,b5⟩:=hcut
  have C5:=C2.out.call b5
  have IB:=wL.keep b5 wL.lt
  have br:Below base W wc:=am.trans (b5.mono jJ)
  have TH:=C5.base
  clear e0 e1 d0 C2 C3 g3 wL c4 lg lc b5 am
  have e0:wc.cell? ⟨g,k*2,none⟩=some (.slice (some ⟨bg,0,none⟩) bn bn):=by rw[(C5.own.at k r hr.out).1,eb.out,tP.out,<-yg.out]
  have x0:wc.cell? ⟨x4,0,none⟩=some (.int .i64 M.n):=X.cell 0
  have x1:wc.cell? ⟨x4,1,none⟩=some (.int .i64 M.fr):=X.cell 1
  have x2:wc.cell? ⟨x4,2,none⟩=some (.int .i64 M.to):=X.cell 2
  have x3:wc.cell? ⟨x4,3,none⟩=some (.slice a5 M.bits.length G5):=X.cell 3
  have lg:=C5.own.rows.lt
  have lx:=X.lt
  have fg:=C5.own.rows.free (k*2)
  obtain⟨i1,km,y0,y1,y2⟩:=info_parts uf
  have Ae:=C5.own.each r (List.mem_of_getElem? hr.out)
  obtain⟨iz,FX,-,Bb⟩:=Ae.bs
  obtain rfl:iz=bg:=by rw[eb.out] at FX;simpa using FX.symm
  have olds:∀b,some (⟨iz,0,none⟩:Addr)=some b->∀j u,(r.bs.flatMap Lb.cells)[j]? =some u->(wc.drew.alloc (.cells #[.int .i64 M.n,.int .i64 M.fr,.int .i64 M.to,.slice a5 M.bits.length G5] 107)).cell? (b.add j)=some u:=by
   intro b hb j u hu
   obtain rfl:=Option.some.inj hb
   rw[Addr.add_lit,Nat.zero_add,(ag.alc (w:=wc.drew) Bb _).cell]
   exact hu
  have fc:∀u∈[Value.int .i64 M.n,.int .i64 M.fr,.int .i64 M.to,.slice a5 M.bits.length G5],u.oneCell'=true:=by
   intro u hu
   simp only[List.mem_cons,List.not_mem_nil,or_false] at hu
   rcases hu with rfl|rfl|rfl|rfl<;>rfl
  have hlen:(r.bs.flatMap Lb.cells).length=bn*4:=by rw[av Lb.four,yg.out]
  have bA:=ax (ak (Below.refl wc.heap.size wc)) (.cells #[.int .i64 M.n,.int .i64 M.fr,.int .i64 M.to,.slice a5 M.bits.length G5] 107)
  replace olds:=aa olds
  replace hlen:=aa hlen
  have Su:Hid (rs.length=l.length):=aa (by rw[<-C5.same,List.length_map])
  have same:=aa C5.same
  have bne:=aa C5.boxNe
  have lo:=aa C5.own.lo
  replace C5:=aa C5
  replace Ae:=aa Ae
  replace FX:=aa FX
  go_upto_region 8 with fail
  go_cut [] from 6 to 54 (fun wx=>∃(a9:Option Addr) (c9:Nat),wx.cell? ⟨g,k*2+1,none⟩=some (.slice (some ⟨hg,0,none⟩) m r.hc)/\wx.cell? ⟨cb,0,none⟩=some (.int .i64 q)/\wx.frozen? ⟨g,k*2+1,none⟩=false/\g<wx.heap.size/\Hid (iD wx base g (rs.set k ⟨r.bs++[⟨M,a5,G5⟩],a9,c9,r.hd,r.ha,r.hc⟩))/\ag wx box [.slice (some ⟨g,0,none⟩) 4 4] 24/\Below base W wx)
  case first=>
   go_region_law (refine step_append_grows (by rfl) (.tmp 40) (.tmp 42) 51 (by rfl) 107 i1 (.agg #[.int .i64 0,.int .i64 0,.int .i64 0,.slice none 0 0]) 4 48 Tryz.underlying51 km y0 y1 y2 rfl (by decide) (some ⟨iz,0,none⟩) bn bn (r.bs.flatMap Lb.cells) (by rfl) (fun h=>by cases h) hlen.out olds.out ⟨wc.heap.size,0,none⟩ 1 1 [.int .i64 M.n,.int .i64 M.fr,.int .i64 M.to,.slice a5 M.bits.length G5] (by rfl) (by rfl) (World.news_of_block (cs:=#[.int .i64 M.n,.int .i64 M.fr,.int .i64 M.to,.slice a5 M.bits.length G5]) (t:=107) (fr:=(0,0)) (heap_alloc_new wc.drew _)) fc (by omega) (by unfold maxLen;omega) (by omega) ?_;intro v9 w9 JH Ui;obtain⟨a9,c9,rfl,s9,-,-⟩:=be.ofOwn Lb.four (by decide) (OJ JH);have b9:Below wc.heap.size wc w9:=bA.grown Ui (by simp) (fun j h=>by cases h);have G9:=C5.out.own.rows.keep b9 lg;have e9:w9.cell? ⟨g,k*2,none⟩=some (.slice (some ⟨iz,0,none⟩) bn bn):=by {rw[G9.cell,<-C5.out.own.rows.cell];exact e0};have f9:=G9.free (k*2))
   all_goals(
    go_wp2_with fail
    go_meet
    case rel=>
     have C9:=C5.out.call b9
     have F9:=C9.fin hR.out
     have Y8:=Ae.out.call b9
     have US:=Y8.toGood (by rw[<-yg.out];omega) (by rw[<-hm.out];omega)
     have gy:Lr.Good w9 ⟨r.bs++[⟨M,a5,G5⟩],a9,c9,r.hd,r.ha,r.hc⟩:=by
      refine⟨⟨s9,fun x hx=>?_⟩,US.hd,?_,US.hfew⟩
      .rcases List.mem_append.1 hx with hx|hx
       .exact US.bs.good x hx
       simp only[List.mem_singleton] at hx
       subst hx
       exact⟨s5.out.keep b9 (Nat.le_refl _),by show M.bits.length<=_;omega⟩
      simp only[List.length_append,List.length_singleton]
      rw[<-yg.out]
      omega
     have Qt:=F9.first hr.out _ gy (n:=bn+1) (by simp only[List.length_append,List.length_singleton];rw[<-yg.out]) rfl rfl rfl
     have grow:=al (au w9 (some g)) (k*2) (.slice a9 (bn+1) c9)
     have Zc:=C9.out.grown grow (fun j e=>by obtain rfl:=Option.some.inj e;exact fun e=>C9.boxNe e.symm)
     have XN:=IB.keep b9 IB.lt
     have Yi:=XN.grown grow (fun j e=>by obtain rfl:=Option.some.inj e;rintro rfl;exact absurd (bV XN C9.own.rows) (by decide))
     have yZ:=(Qt.rows.cell (k*2+1)).trans (flat_get Lr.two _ k 1 _ (List.getElem?_set_self (List.getElem?_eq_some_iff.1 hr.out).1) (by decide))
     exact⟨a9,c9,yZ.trans (by show some (Value.slice r.ha r.hd.length r.hc)=_;rw[eh.out,<-hm.out]),Yi.cell 0,Qt.rows.free _,Qt.rows.lt,Qt,Zc,(br.trans (b9.mono TH)).setCell C9.own.lo _⟩)
  case rest=>
   clear hlen olds x0 x1 x2 x3 lx fg Ae Bb bA e0 C5 X IB br lg s5 TH
   obtain⟨a9,c9,e9,d9,f9,lg,F,O,bel⟩:=hcut
   have kl:=(List.getElem?_eq_some_iff.1 hr.out).1
   have gy:=F.out.good _ (List.mem_of_getElem? (List.getElem?_set_self kl))
   have pt:=gy.hd.part q r.hd.length (by rw[<-hm.out];exact h2) (Nat.le_refl _)
   simp only at pt
   rw[List.take_length,eh.out] at pt
   have ZP:rs.length=4:=by rw[<-hR.out.four];exact Su.out
   have fin:∀qF:Option Addr,(∀ad,qF=some ad->base<=ad.block)->aV wc qF (r.hc-q) (r.hd.drop q)->∃iG,iD (wc.drew.setCell ⟨g,k*2+1,none⟩ (.slice qF (m-q) (r.hc-q))) base g iG/\(iG.length=4/\fv base iG)/\iG.map Lr.rw=l.set k ⟨r.rw.blocks++[M],r.hd.drop q⟩/\ag (wc.drew.setCell ⟨g,k*2+1,none⟩ (.slice qF (m-q) (r.hc-q))) box [.slice (some ⟨g,0,none⟩) 4 4] 24:=by
    intro qF U0 sp
    have FD:=F.out.drew
    have Sq:=FD.good _ (List.mem_of_getElem? (List.getElem?_set_self kl))
    have YC:aV wc.drew qF (r.hc-q) (r.hd.drop q):=⟨sp.row,sp.le,sp.max,sp.nil⟩
    have F2:=FD.second (List.getElem?_set_self kl) ⟨r.bs++[⟨M,a5,G5⟩],a9,c9,r.hd.drop q,qF,r.hc-q⟩ ⟨Sq.bs,YC,Sq.few,by have:=Sq.hfew;simp only[List.length_drop] at this⊢;omega⟩ (n:=m-q) (by simp only[List.length_drop];rw[hm.out]) rfl rfl rfl
    refine⟨_,F2,⟨by rw[List.length_set,List.length_set];exact ZP,fv.set (fv.set Y0.out k ⟨r.bs++[⟨M,a5,G5⟩],a9,c9,r.hd,r.ha,r.hc⟩ Xt.out) k ⟨r.bs++[⟨M,a5,G5⟩],a9,c9,r.hd.drop q,qF,r.hc-q⟩ U0⟩,?_,?_⟩
    .rw[List.set_set,List.map_set,same.out]
     congr 1
     unfold Lr.rw
     simp
    exact ag.grown (w:=wc.drew) O (al (au wc.drew (some g)) _ _) (fun j e=>by obtain rfl:=Option.some.inj e;exact fun e=>bne.out e.symm)
   have aq:=fun u=>(ak bel).setCell (p:=⟨g,k*2+1,none⟩) (lo.out) u
   replace fin:=aa fin
   clear gy F O bel
   by_cases sE:r.hc=q
   .rw[if_pos sE] at pt
    have Ff:=aa (fin.out _ (by intro ad e;cases e;exact Vd.out) pt)
    clear pt fin
    obtain rfl:q=m:=by omega
    have e3:r.hc-q=0:=by omega
    rw[sE] at e9 Ff
    rw[Nat.sub_self] at Ff
    replace sE:=aa sE
    clear e3
    go_wp2_with fail
    go_region
    all_goals(
     go_wp2_with fail
     go_ret
     exact⟨rfl,aq _,fun _=>Ff.out⟩)
   rw[if_neg sE,Option.map_some,Addr.add_lit,Nat.zero_add] at pt
   have Ff:=aa (fin.out _ (by intro ad e;cases e;exact Vd.out) pt)
   have aE:q<r.hc:=by omega
   clear pt fin
   go_wp2_with fail
   go_region
   all_goals(
    go_wp2_with fail
    go_ret
    exact⟨rfl,aq _,fun _=>Ff.out⟩)
theorem AU {s:Int}(h:dG s 0 3=true):∃k:Nat,s=k/\k<4:=by
 unfold dG at h
 have:0<=s/\s<=3:=by simpa using h
 exact⟨s.toNat,by omega,by omega⟩
theorem Eb (w:World)(a b c d:Obj):Below w.heap.size w ((((w.alloc a).alloc b).alloc c).alloc d):=
 ax (ax (ax (ax (Below.refl _ _) a) b) c) d
theorem CQ (cv:Value)(s:Int)(E:Int)(L:List Rw)(l:List Rw)(sb db:Nat)(td:TypeId)(base box g:Nat)(rs:List Lr)(W:World)(Bs:ag W sb [.int .i64 s] 3)(Bd:ag W db [.func (.func 154) #[] #[cv]] td)(C:bv l base box g rs W)(hE:dG s 0 3=false->E=5)
  (gM:∀k:Nat,s=k->k<4->∀W2,Below W.heap.size W W2->Calls Tryz.prog 154 #[.pointer (some ⟨g,k*2,none⟩),cv] W2 (Does E L base box g W2)):
  Calls Tryz.prog 182 #[.pointer (some ⟨box,0,none⟩),.pointer (some ⟨sb,0,none⟩),.pointer (some ⟨db,0,none⟩)] W (Does E L base box g W):=by
 have c2:=fun W=>jt s W
 have d0:W.cell? ⟨sb,0,none⟩=some (.int .i64 s):=Bs.cell 0
 have d1:W.cell? ⟨db,0,none⟩=some (.func (.func 154) #[] #[cv]):=Bd.cell 0
 have d2:W.cell? ⟨box,0,none⟩=some (.slice (some ⟨g,0,none⟩) 4 4):=C.out.cell 0
 have oZ:=C.base
 cases hi:dG s 0 3 with
 |false=>
  obtain rfl:=hE hi
  rw[hi] at c2
  clear gM hE hi C
  go_enter Tryz.func182,Tryz.ntmps182
  go_wp2_with fail
  go_at_call 80
  refine(c2 _).mono ?_
  rintro e w3 ⟨rfl,rfl⟩
  go_wp2_with fail
  go_ret
  exact⟨rfl,Below.refl _ _,fun h=>by cases h⟩
 |true=>
  obtain⟨k,rfl,hk⟩:=AU hi
  rw[hi] at c2
  have gM:=gM k rfl hk W.drew (ak (Below.refl _ _))
  have fC:(k:Int)<4:=by omega
  clear hE hi C
  go_enter Tryz.func182,Tryz.ntmps182
  go_wp2_with fail
  go_at_call 80
  refine(c2 _).mono ?_
  rintro e w3 ⟨rfl,rfl⟩
  rename World=>W
  clear c2
  go_wp2_with fail
  go_region_with (go_at_call 154;refine gM.mono ?_;rintro e w4 ⟨rfl,b4,h4⟩)
  all_goals(
   go_wp2_with fail
   go_ret
   exact⟨rfl,(ak (Below.refl _ _)).trans b4,h4⟩)
theorem FW (cv:Value)(s:Int)(E:Int)(L:List Rw)(l:List Lr)(ao:Option Addr)(cap:Nat)(w:World)(hs:bL w ao cap l)(hE:dG s 0 3=false->E=5)
  (gM:az (l.map Lr.rw)=0->∀W base box g rs,w.heap.size<=base->Below w.heap.size w W->bv (l.map Lr.rw) base box g rs W->∀k:Nat,s=k->k<4->Calls Tryz.prog 154 #[.pointer (some ⟨g,k*2,none⟩),cv] W (Does E L base box g W)):
  Calls Tryz.prog 153 #[.agg #[.slice ao l.length cap],.int .i64 s,.func (.func 154) #[] #[cv]] w fun e w'=>∃rs a' G,e=.returned (.tuple #[.agg #[.slice a' rs.length G],.int .i64 (iY (l.map Lr.rw) E)])/\rs.map Lr.rw=ia (l.map Lr.rw) E L/\bL w' a' G rs/\((∀ad,a'=some ad->w.heap.size<=ad.block)/\fv w.heap.size rs)/\Below w.heap.size w w':=by
 obtain⟨td,S7⟩:∃td,td=203:=⟨_,rfl⟩
 have S1:=((ag.laid (w.alloc (.cells #[.slice ao l.length cap] 24)) [.int .i64 s] 3 (w.heap.size+1) (by simp)).alc (.cells #[.func (.func 154) #[] #[cv]] td)).alc (.cells #[.slice none 0 0] 24)
 have D1:=(ag.laid ((w.alloc (.cells #[.slice ao l.length cap] 24)).alloc (.cells #[.int .i64 s] 3)) [.func (.func 154) #[] #[cv]] td (w.heap.size+2) (by simp)).alc (.cells #[.slice none 0 0] 24)
 have R1:=ag.laid (((w.alloc (.cells #[.slice ao l.length cap] 24)).alloc (.cells #[.int .i64 s] 3)).alloc (.cells #[.func (.func 154) #[] #[cv]] td)) [.slice none 0 0] 24 (w.heap.size+3) (by simp)
 have aY:=Eb w (.cells #[.slice ao l.length cap] 24) (.cells #[.int .i64 s] 3) (.cells #[.func (.func 154) #[] #[cv]] td) (.cells #[.slice none 0 0] 24)
 subst S7
 have s1:=hs.keep aY (Nat.le_refl _)
 have c:=fun W (b0:Below w.heap.size w W) (S:bL W ao cap l) (Bs:ag W (w.heap.size+1) [.int .i64 s] 3) (Bd:ag W (w.heap.size+2) [.func (.func 154) #[] #[cv]] 203)=>Ey (.pointer (some ⟨w.heap.size+1,0,none⟩)) (.pointer (some ⟨w.heap.size+2,0,none⟩)) E L l ao cap W S
  (fun hz W2 base box g rs hb b2 C=>CQ cv s E L (l.map Lr.rw) (w.heap.size+1) (w.heap.size+2) _ base box g rs W2 (Bs.keep b2 Bs.lt) (Bd.keep b2 Bd.lt) C hE
   (fun k hk h4 W3 b3=>gM hz W3 base box g rs (Nat.le_trans b0.size hb) (b0.trans ((b2.mono b0.size).trans (b3.mono (Nat.le_trans b0.size b2.size)))) (C.call b3) k hk h4))
 clear gM
 generalize ia (l.map Lr.rw) E L=X at*
 generalize iY (l.map Lr.rw) E=F at*
 generalize l.length=n at*
 go_enter Tryz.func153,Tryz.ntmps153
 go_wp2_with fail
 generalize(((w.alloc _).alloc _).alloc _).alloc _=w1 at*
 go_at_call 150
 refine(c _ aY s1 S1 D1).mono ?_
 rintro e w2 ⟨rs,a',G,rfl,hX,s2,fr,b2⟩
 have R2:=R1.keep b2 R1.lt
 have am:=ac aY b2
 have r0:w2.cell? ⟨w.heap.size+3,0,none⟩=some (.slice none 0 0):=R2.cell 0
 have r1:=R2.free 0
 have s3:=s2.written (io none 0 0) R2 (i:=0) (u:=.slice a' rs.length G) (fun ad e=>by have:=fr.1 ad e;have:=R1.lt;omega)
 have aC:=am.setCell (p:=⟨w.heap.size+3,0,none⟩) (by show w.heap.size<=w.heap.size+3;omega) (.slice a' rs.length G)
 have Hi:(∀ad,a'=some ad->w.heap.size<=ad.block)/\fv w.heap.size rs:=⟨fun ad e=>Nat.le_trans aY.size (fr.1 ad e),fr.2.mono aY.size⟩
 replace s3:=aa s3
 replace hX:=aa hX
 replace Hi:=aa Hi
 clear s2 R1 R2 s1 S1 D1 c hs fr
 go_wp2_with fail
 exact bodyPost_ret (v:=.tuple #[.agg #[.slice a' rs.length G],.int .i64 F]) (by simp[results,Tryz.results153,go_sem,r0]) rfl ⟨rs,a',G,rfl,hX.out,s3.out,Hi.out,aC⟩
theorem CN (cv:Value)(s:Int)(E:Int)(L:List Rw)(l:List Rw)(sb db:Nat)(td:TypeId)(base box g:Nat)(rs:List Lr)(W:World)(Bs:ag W sb [.int .i64 s] 3)(Bd:ag W db [.func (.func 156) #[] #[cv]] td)(C:bv l base box g rs W)(hE:dG s 0 3=false->E=5)
  (gM:∀k:Nat,s=k->k<4->∀W2,Below W.heap.size W W2->Calls Tryz.prog 156 #[.pointer (some ⟨g,k*2,none⟩),cv] W2 (Does E L base box g W2)):
  Calls Tryz.prog 182 #[.pointer (some ⟨box,0,none⟩),.pointer (some ⟨sb,0,none⟩),.pointer (some ⟨db,0,none⟩)] W (Does E L base box g W):=by
 have c2:=fun W=>jt s W
 have d0:W.cell? ⟨sb,0,none⟩=some (.int .i64 s):=Bs.cell 0
 have d1:W.cell? ⟨db,0,none⟩=some (.func (.func 156) #[] #[cv]):=Bd.cell 0
 have d2:W.cell? ⟨box,0,none⟩=some (.slice (some ⟨g,0,none⟩) 4 4):=C.out.cell 0
 have oZ:=C.base
 cases hi:dG s 0 3 with
 |false=>
  obtain rfl:=hE hi
  rw[hi] at c2
  clear gM hE hi C
  go_enter Tryz.func182,Tryz.ntmps182
  go_wp2_with fail
  go_at_call 80
  refine(c2 _).mono ?_
  rintro e w3 ⟨rfl,rfl⟩
  go_wp2_with fail
  go_ret
  exact⟨rfl,Below.refl _ _,fun h=>by cases h⟩
 |true=>
  obtain⟨k,rfl,hk⟩:=AU hi
  rw[hi] at c2
  have gM:=gM k rfl hk W.drew (ak (Below.refl _ _))
  have fC:(k:Int)<4:=by omega
  clear hE hi C
  go_enter Tryz.func182,Tryz.ntmps182
  go_wp2_with fail
  go_at_call 80
  refine(c2 _).mono ?_
  rintro e w3 ⟨rfl,rfl⟩
  rename World=>W
  clear c2
  go_wp2_with fail
  go_region_with (go_at_call 156;refine gM.mono ?_;rintro e w4 ⟨rfl,b4,h4⟩)
  all_goals(
   go_wp2_with fail
   go_ret
   exact⟨rfl,(ak (Below.refl _ _)).trans b4,h4⟩)
theorem FF (cv:Value)(s:Int)(E:Int)(L:List Rw)(l:List Lr)(ao:Option Addr)(cap:Nat)(w:World)(hs:bL w ao cap l)(hE:dG s 0 3=false->E=5)
  (gM:az (l.map Lr.rw)=0->∀W base box g rs,w.heap.size<=base->Below w.heap.size w W->bv (l.map Lr.rw) base box g rs W->∀k:Nat,s=k->k<4->Calls Tryz.prog 156 #[.pointer (some ⟨g,k*2,none⟩),cv] W (Does E L base box g W)):
  Calls Tryz.prog 153 #[.agg #[.slice ao l.length cap],.int .i64 s,.func (.func 156) #[] #[cv]] w fun e w'=>∃rs a' G,e=.returned (.tuple #[.agg #[.slice a' rs.length G],.int .i64 (iY (l.map Lr.rw) E)])/\rs.map Lr.rw=ia (l.map Lr.rw) E L/\bL w' a' G rs/\((∀ad,a'=some ad->w.heap.size<=ad.block)/\fv w.heap.size rs)/\Below w.heap.size w w':=by
 obtain⟨td,S7⟩:∃td,td=203:=⟨_,rfl⟩
 have S1:=((ag.laid (w.alloc (.cells #[.slice ao l.length cap] 24)) [.int .i64 s] 3 (w.heap.size+1) (by simp)).alc (.cells #[.func (.func 156) #[] #[cv]] td)).alc (.cells #[.slice none 0 0] 24)
 have D1:=(ag.laid ((w.alloc (.cells #[.slice ao l.length cap] 24)).alloc (.cells #[.int .i64 s] 3)) [.func (.func 156) #[] #[cv]] td (w.heap.size+2) (by simp)).alc (.cells #[.slice none 0 0] 24)
 have R1:=ag.laid (((w.alloc (.cells #[.slice ao l.length cap] 24)).alloc (.cells #[.int .i64 s] 3)).alloc (.cells #[.func (.func 156) #[] #[cv]] td)) [.slice none 0 0] 24 (w.heap.size+3) (by simp)
 have aY:=Eb w (.cells #[.slice ao l.length cap] 24) (.cells #[.int .i64 s] 3) (.cells #[.func (.func 156) #[] #[cv]] td) (.cells #[.slice none 0 0] 24)
 subst S7
 have s1:=hs.keep aY (Nat.le_refl _)
 have c:=fun W (b0:Below w.heap.size w W) (S:bL W ao cap l) (Bs:ag W (w.heap.size+1) [.int .i64 s] 3) (Bd:ag W (w.heap.size+2) [.func (.func 156) #[] #[cv]] 203)=>Ey (.pointer (some ⟨w.heap.size+1,0,none⟩)) (.pointer (some ⟨w.heap.size+2,0,none⟩)) E L l ao cap W S
  (fun hz W2 base box g rs hb b2 C=>CN cv s E L (l.map Lr.rw) (w.heap.size+1) (w.heap.size+2) _ base box g rs W2 (Bs.keep b2 Bs.lt) (Bd.keep b2 Bd.lt) C hE
   (fun k hk h4 W3 b3=>gM hz W3 base box g rs (Nat.le_trans b0.size hb) (b0.trans ((b2.mono b0.size).trans (b3.mono (Nat.le_trans b0.size b2.size)))) (C.call b3) k hk h4))
 clear gM
 generalize ia (l.map Lr.rw) E L=X at*
 generalize iY (l.map Lr.rw) E=F at*
 generalize l.length=n at*
 go_enter Tryz.func153,Tryz.ntmps153
 go_wp2_with fail
 generalize(((w.alloc _).alloc _).alloc _).alloc _=w1 at*
 go_at_call 150
 refine(c _ aY s1 S1 D1).mono ?_
 rintro e w2 ⟨rs,a',G,rfl,hX,s2,fr,b2⟩
 have R2:=R1.keep b2 R1.lt
 have am:=ac aY b2
 have r0:w2.cell? ⟨w.heap.size+3,0,none⟩=some (.slice none 0 0):=R2.cell 0
 have r1:=R2.free 0
 have s3:=s2.written (io none 0 0) R2 (i:=0) (u:=.slice a' rs.length G) (fun ad e=>by have:=fr.1 ad e;have:=R1.lt;omega)
 have aC:=am.setCell (p:=⟨w.heap.size+3,0,none⟩) (by show w.heap.size<=w.heap.size+3;omega) (.slice a' rs.length G)
 have Hi:(∀ad,a'=some ad->w.heap.size<=ad.block)/\fv w.heap.size rs:=⟨fun ad e=>Nat.le_trans aY.size (fr.1 ad e),fr.2.mono aY.size⟩
 replace s3:=aa s3
 replace hX:=aa hX
 replace Hi:=aa Hi
 clear s2 R1 R2 s1 S1 D1 c hs fr
 go_wp2_with fail
 exact bodyPost_ret (v:=.tuple #[.agg #[.slice a' rs.length G],.int .i64 F]) (by simp[results,Tryz.results153,go_sem,r0]) rfl ⟨rs,a',G,rfl,hX.out,s3.out,Hi.out,aC⟩
theorem xu (base:Nat)(W:World)(q:Nat):Below base W (W.drewN q):=bt (Below.refl base W) q
theorem Iw (n:Int)(cb:Nat)(l:List Rw)(hE:az l=0)(base box g k:Nat)(rs:List Lr)(W:World)(hk:k<4)(Bc:ag W cb [.int .i64 n] 3)(C:bv l base box g rs W):
  Calls Tryz.prog 154 #[.pointer (some ⟨g,k*2,none⟩),.pointer (some ⟨cb,0,none⟩)] W (Does (eB l k n) (gA l k n) base box g W):=by
 have hR:=jO hE
 obtain⟨r,hr,m8,e0,e1,oR,f1,f2⟩:=C.row hR k hk
 have d0:W.cell? ⟨cb,0,none⟩=some (.int .i64 n):=Bc.cell 0
 have hi:dG (k:Int) 0 3=true:=by unfold dG;simp;omega
 have ew:dV (l.getD k fj)=0:=by
  rw[<-m8]
  exact lT (i7 hE).2 r.rw (by rw[<-C.same];exact List.mem_map.2 ⟨r,List.mem_of_getElem? hr,rfl⟩)
 have Cs:(l.getD k fj).head=r.hd:=by rw[<-m8];rfl
 have rQ:(l.getD k fj).blocks.length=r.bs.length:=by rw[<-m8];unfold Lr.rw;simp
 cases hn:dG n 1 r.hd.length with
 |false=>
  have e:eB l k n=3:=by unfold eB;rw[hi,Int.toNat_natCast,Cs,hn];rfl
  rw[e]
  refine(CR n cb g k r.hd.length r.hc r.ha W d0 e1 hn).mono ?_
  rintro e W' ⟨rfl,q,rfl⟩
  exact⟨rfl,xu _ _ _,fun h=>by cases h⟩
 |true=>
  have yO:1<=n/\n<=r.hd.length:=by unfold dG at hn;simpa using hn
  obtain⟨q,rfl⟩:∃q:Nat,n=q:=⟨n.toNat,by omega⟩
  by_cases h8:r.bs.length=8
  .have e:eB l k q=2:=by unfold eB;rw[hi,Int.toNat_natCast,Cs,hn,rQ,h8];rfl
   rw[e]
   rw[h8] at e0
   refine(FC q cb g k r.hd.length r.hc r.bc r.ha r.ba W d0 e1 e0 (by omega) (by omega)).mono ?_
   rintro e W' ⟨rfl,q,rfl⟩
   exact⟨rfl,xu _ _ _,fun h=>by cases h⟩
  have e:eB l k q=0:=by unfold eB;rw[hi,Int.toNat_natCast,Cs,hn,rQ,if_neg (by decide),if_neg (by decide),if_neg (by omega)]
  have e2:gA l k q=l.set k ⟨r.rw.blocks++[dC (r.hd.take q)],r.hd.drop q⟩:=by
   unfold gA
   rw[if_pos e,Int.toNat_natCast,Int.toNat_natCast,Cs,<-m8]
  rw[e,e2]
  have hc:=(ig ew).2.2
  have h1:=nv hc (dp (l.getD k fj).blocks).length
  unfold cm at h1
  rw[List.drop_left' rfl,Cs] at h1
  have h2:=nJ h1 q
  exact Lz q cb l base box g k rs r W hR C hr Bc (by omega) f2 (by omega) (by omega) (vF h2 (by rw[List.length_take];omega))
theorem Jd (l:List Lr)(ao:Option Addr)(cap:Nat)(s n:Int)(w:World)(hs:bL w ao cap l):
  Calls Tryz.prog 121 #[.agg #[.slice ao l.length cap],.int .i64 s,.int .i64 n] w fun e w'=>∃rs a' G,e=.returned (.tuple #[.agg #[.slice a' rs.length G],.int .i64 (iY (l.map Lr.rw) (eB (l.map Lr.rw) s n))])/\rs.map Lr.rw=ia (l.map Lr.rw) (eB (l.map Lr.rw) s n) (gA (l.map Lr.rw) s n)/\bL w' a' G rs/\fv w.heap.size rs/\Below w.heap.size w w':=by
 have B1:=(ag.laid (w.alloc (.cells #[.slice ao l.length cap] 24)) [.int .i64 n] 3 (w.heap.size+1) (by simp)).alc (.cells #[.slice none 0 0] 24)
 have R1:=ag.laid ((w.alloc (.cells #[.slice ao l.length cap] 24)).alloc (.cells #[.int .i64 n] 3)) [.slice none 0 0] 24 (w.heap.size+2) (by simp)
 have aY:=k6 w (.cells #[.slice ao l.length cap] 24) (.cells #[.int .i64 n] 3) (.cells #[.slice none 0 0] 24)
 have s1:=hs.keep aY (Nat.le_refl _)
 have c:=fun W (S:bL W ao cap l) (B:ag W (w.heap.size+1) [.int .i64 n] 3)=>FW (.pointer (some ⟨w.heap.size+1,0,none⟩)) s (eB (l.map Lr.rw) s n) (gA (l.map Lr.rw) s n) l ao cap W S
  (fun h=>by unfold eB;rw[if_pos h])
  (fun hE W2 base box g rs hb b2 C k hk Ad=>by
   subst hk
   exact Iw n (w.heap.size+1) (l.map Lr.rw) hE base box g k rs W2 Ad (B.keep b2 B.lt) C)
 generalize ia (l.map Lr.rw) (eB (l.map Lr.rw) s n) (gA (l.map Lr.rw) s n)=X at*
 generalize iY (l.map Lr.rw) (eB (l.map Lr.rw) s n)=E at*
 generalize l.length=m at*
 go_enter Tryz.func121,Tryz.ntmps121
 go_wp2_with fail
 generalize((w.alloc _).alloc _).alloc _=w1 at*
 go_at_call 153
 refine(c _ s1 B1).mono ?_
 rintro e w2 ⟨rs,a',G,rfl,hX,s2,fr,b2⟩
 have R2:=R1.keep b2 R1.lt
 have am:=ac aY b2
 have r0:w2.cell? ⟨w.heap.size+2,0,none⟩=some (.slice none 0 0):=R2.cell 0
 have r1:=R2.free 0
 have s3:=s2.written (io none 0 0) R2 (i:=0) (u:=.slice a' rs.length G) (fun ad e=>by have:=fr.1 ad e;have:=R1.lt;omega)
 have aC:=am.setCell (p:=⟨w.heap.size+2,0,none⟩) (by show w.heap.size<=w.heap.size+2;omega) (.slice a' rs.length G)
 have qx:=aa (fr.2.mono aY.size)
 replace s3:=aa s3
 replace hX:=aa hX
 clear s2 R1 R2 s1 B1 c hs
 go_wp2_with fail
 exact bodyPost_ret (v:=.tuple #[.agg #[.slice a' rs.length G],.int .i64 E]) (by simp[results,Tryz.results121,go_sem,r0]) rfl ⟨rs,a',G,rfl,hX.out,s3.out,qx.out,aC⟩
theorem bv.cut {l:List Rw}{base box g bg k n:Nat}{rs:List Lr}{W w2:World}{r:Lr}{kept tail:List Lb}(C:bv l base box g rs W)(hr:rs[k]? =some r)(hb:r.ba=some ⟨bg,0,none⟩)(hn:n=r.bs.length)
  (grow:W.grownBy w2 (some bg)) (B:ag w2 bg ((kept++tail).flatMap Lb.cells) 107) (hk:∀x∈kept,x.Good W) (hl:kept.length<=n) (few:n<=8) (hf:∀r∈rs,r.Good W):
  iD (w2.setCell ⟨g,k*2,none⟩ (.slice (some ⟨bg,0,none⟩) kept.length n)) base g (rs.set k ⟨kept,some ⟨bg,0,none⟩,n,r.hd,r.ha,r.hc⟩)/\
   ag (w2.setCell ⟨g,k*2,none⟩ (.slice (some ⟨bg,0,none⟩) kept.length n)) box [.slice (some ⟨g,0,none⟩) 4 4] 24/\
   Below base W (w2.setCell ⟨g,k*2,none⟩ (.slice (some ⟨bg,0,none⟩) kept.length n)):=by
 have oR:=C.own.each r (List.mem_of_getElem? hr)
 obtain⟨iz,e2,lo,B0⟩:=oR.bs
 rw[hb] at e2
 simp only[Option.some.injEq,Addr.mk.injEq,and_true] at e2
 subst e2
 have ne:∀ {q:Nat} {cs:List Value} {t:TypeId},ag W q cs t->t≠107->∀i,some bg=some i->i≠q:=by
  intro q cs t Bq ht i e
  obtain rfl:=Option.some.inj e
  rintro rfl
  exact ht (bV Bq B0)
 have G2:=C.own.rows.grown grow (ne C.own.rows (by decide))
 have O2:=C.out.grown grow (ne C.out (by decide))
 have b1:Below base W w2:=(Below.refl base W).grown grow C.base (fun i e=>by obtain rfl:=Option.some.inj e;exact lo)
 have nb:=xU r.bs
 have Tl:∀q∈rs,q.ba≠some ⟨bg,0,none⟩->q.Good w2:=by
  intro q hq aF
  have oq:=C.own.each q hq
  have Za:=oq.wrote grow B0 (by decide) aF (oq.notH B0 (by decide))
  exact Za.toGood (hf q hq).few (by have:=(hf q hq).hfew;omega)
 have gy:Lr.Good w2 ⟨kept,some ⟨bg,0,none⟩,n,r.hd,r.ha,r.hc⟩:=by
  have gr:=hf r (List.mem_of_getElem? hr)
  refine⟨⟨⟨?_,hl,by show n<=_;omega,fun e=>by cases e⟩,fun x hx=>(hk x hx).off grow B0 nb⟩,?_,by show kept.length<=_;omega,gr.hfew⟩
  .refine B.row 0 _ (fun i v hv=>?_)
   rw[Nat.zero_add,List.flatMap_append,List.getElem?_append_left (List.getElem?_eq_some_iff.1 hv).1]
   exact hv
  obtain⟨hh,eh,oh⟩:=oR.hd
  have PU:=oh.kept grow (.inr (fun e=>oR.notH B0 (by decide) (by rw[eh];have:hh=bg:=Option.some.inj e;rw[this])))
  obtain⟨a3,G3,e3,s3,_,_⟩:=aV.ofOwn PU
  simp only[Value.slice.injEq,true_and] at e3
  obtain⟨rfl,rfl⟩:=e3
  show aV w2 r.ha r.hc r.hd
  rw[eh]
  exact s3
 have eM:w2.grownBy (w2.setCell ⟨g,k*2,none⟩ (.slice (some ⟨bg,0,none⟩) kept.length n)) (some g):=al (au w2 (some g)) _ _
 have B2:=G2.set (k*2) (.slice (some ⟨bg,0,none⟩) kept.length n)
 rw[qV r ⟨kept,some ⟨bg,0,none⟩,n,r.hd,r.ha,r.hc⟩ _ _ rfl _ rfl Lr.two rs k hr] at B2
 refine⟨⟨B2,C.own.lo,fun q hq=>?_⟩,?_,b1.setCell C.own.lo _⟩
 .obtain⟨j,hj,e⟩:=List.mem_iff_getElem.1 hq
  have iZ:(rs.set k ⟨kept,some ⟨bg,0,none⟩,n,r.hd,r.ha,r.hc⟩)[j]? =some q:=by rw[List.getElem?_eq_getElem hj,e]
  rw[List.getElem?_set] at iZ
  split at iZ
  .split at iZ
   .obtain rfl:=Option.some.inj iZ
    exact gy.offSl eM G2 (kv rs)
   cases iZ
  rename_i aF
  have m:=List.mem_of_getElem? iZ
  exact(Tl q m (by rw[<-hb];exact(C.own.ap j k q r (fun e=>aF e.symm) iZ hr).1)).offSl eM G2 (kv rs)
 refine O2.grown eM (fun i e=>?_)
 obtain rfl:=Option.some.inj e
 rintro rfl
 exact absurd (bV C.out C.own.rows) (by decide)
structure mZ (w:World)(base:Nat)(r:Lr):Prop where
 bs:∃bg tail,r.ba=some ⟨bg,0,none⟩/\base<=bg/\ag w bg ((r.bs++tail).flatMap Lb.cells) 107/\r.bc=(r.bs++tail).length
 hd:∃hg,r.ha=some ⟨hg,0,none⟩/\w.ownsRow base 56 2 (.slice (some ⟨hg,0,none⟩) r.hd.length r.hc) r.hd.length (ar r.hd)
 good:∀x∈r.bs,x.Own w
theorem hH.tail {w:World}{base:Nat}{r:Lr}(h:hH w base r):mZ w base r:=by
 obtain⟨bg,e1,l1,B⟩:=h.bs
 exact⟨⟨bg,[],e1,l1,by rw[List.append_nil];exact B,by rw[List.append_nil];exact h.bc⟩,h.hd,h.good⟩
theorem mZ.wrote {w w':World}{base g:Nat}{r:Lr}{cs:List Value}{t:TypeId}(h:mZ w base r)(hg:w.grownBy w' (some g))(B:ag w g cs t)(ht:t≠4)(h1:r.ba≠some ⟨g,0,none⟩)(h2:r.ha≠some ⟨g,0,none⟩):mZ w' base r:=by
 obtain⟨bg,tl,e1,l1,B1,e⟩:=h.bs
 obtain⟨hh,e2,o⟩:=h.hd
 refine⟨⟨bg,tl,e1,l1,B1.grown hg (fun k e=>?_),e⟩,⟨hh,e2,o.kept hg (.inr (fun e=>?_))⟩,fun x hx=>(h.good x hx).wrote hg B ht⟩
 .obtain rfl:=Option.some.inj e
  intro e
  subst e
  exact h1 e1
 have:hh=g:=Option.some.inj e
 subst this
 exact h2 e2
theorem mZ.notB {w:World}{base g:Nat}{r:Lr}{cs:List Value}{t:TypeId}(h:mZ w base r)(B:ag w g cs t)(ht:t≠107):r.ba≠some ⟨g,0,none⟩:=by
 obtain⟨bg,tl,e1,l1,B1,_⟩:=h.bs
 intro e
 rw[e1] at e
 simp only[Option.some.injEq,Addr.mk.injEq,and_true] at e
 subst e
 exact ht (bV B B1)
theorem mZ.notH {w:World}{base g:Nat}{r:Lr}{cs:List Value}{t:TypeId}(h:mZ w base r)(B:ag w g cs t)(ht:t≠56):r.ha≠some ⟨g,0,none⟩:=by
 obtain⟨hh,e2,o⟩:=h.hd
 obtain⟨cur,B2,_⟩:=my o
 intro e
 rw[e2] at e
 simp only[Option.some.injEq,Addr.mk.injEq,and_true] at e
 subst e
 exact ht (bV B B2)
theorem mZ.toGood {w:World}{base:Nat}{r:Lr}(h:mZ w base r)(f1:r.bc<=140737488355328)(f2:r.hd.length<=8796093022208):r.Good w:=by
 obtain⟨bg,tl,e1,l1,B1,e⟩:=h.bs
 obtain⟨hh,e2,o⟩:=h.hd
 obtain⟨a3,G3,e3,s3,_,_⟩:=aV.ofOwn o
 simp only[Value.slice.injEq,true_and] at e3
 obtain⟨rfl,rfl⟩:=e3
 have fE:r.bs.length<=r.bc:=by rw[e,List.length_append];omega
 refine⟨⟨⟨?_,fE,by omega,fun e=>by rw[e1] at e;cases e⟩,fun x hx=>(h.good x hx).good⟩,by rw[e2];exact s3,by omega,by omega⟩
 rw[e1]
 refine B1.row 0 _ (fun i v hv=>?_)
 rw[Nat.zero_add,List.flatMap_append,List.getElem?_append_left (List.getElem?_eq_some_iff.1 hv).1]
 exact hv
structure oF (base box g i:Nat)(rs:List Lr)(W:World):Prop where
 out:ag W box [.slice (some ⟨g,0,none⟩) 4 4] 24
 rows:ag W g (rs.flatMap Lr.cells) 53
 lo:base<=g
 each:∀(j:Nat) (r:Lr),rs[j]? =some r->mZ W base r/\r.bc<=8/\r.hd.length<=40/\(i<=j->hH W base r)
 ap:ApartL rs
theorem oF.hdLo {base box g i:Nat}{rs:List Lr}{W:World}(h:oF base box g i rs W):fv base rs:=by
 intro r hr
 obtain⟨j,hj,rfl⟩:=List.mem_iff_getElem.1 hr
 exact yL (h.each j _ (List.getElem?_eq_getElem hj)).1.hd
theorem oF.base {base box g i:Nat}{rs:List Lr}{W:World}(h:oF base box g i rs W):base<=W.heap.size:=by
 have h1:=h.lo
 have h2:=h.rows.lt
 omega
theorem oF.start {l:List Rw}{base box g:Nat}{rs:List Lr}{W:World}(C:bv l base box g rs W)(hR:eY l):oF base box g 0 rs W:=by
 refine⟨C.out,C.own.rows,C.own.lo,fun j r hr=>?_,C.own.ap⟩
 have oR:=C.own.each r (List.mem_of_getElem? hr)
 have few:=hR.few r.rw (by rw[<-C.same];exact List.mem_map.2 ⟨r,List.mem_of_getElem? hr,rfl⟩)
 exact⟨oR.tail,by rw[oR.bc];simpa[Lr.rw] using few.1,few.2,fun _=>oR⟩
theorem oF.fin {base box g i:Nat}{rs:List Lr}{W:World}(h:oF base box g i rs W):iD W base g rs:=by
 refine⟨h.rows,h.lo,fun r hr=>?_⟩
 obtain⟨j,hj,rfl⟩:=List.mem_iff_getElem.1 hr
 obtain⟨h1,h2,h3,_⟩:=h.each j _ (List.getElem?_eq_getElem hj)
 exact h1.toGood (by omega) (by omega)
theorem oF.step {base box g bg i n:Nat}{rs:List Lr}{W w2:World}{r:Lr}{kept tail:List Lb}(C:oF base box g i rs W)(hr:rs[i]? =some r)(hb:r.ba=some ⟨bg,0,none⟩)(hn:n=r.bs.length)
  (grow:W.grownBy w2 (some bg)) (B:ag w2 bg ((kept++tail).flatMap Lb.cells) 107) (hl:(kept++tail).length=n) (hk:∀x∈kept,x∈r.bs):
  oF base box g (i+1) (rs.set i ⟨kept,some ⟨bg,0,none⟩,n,r.hd,r.ha,r.hc⟩) (w2.setCell ⟨g,i*2,none⟩ (.slice (some ⟨bg,0,none⟩) kept.length n))/\
   Below base W (w2.setCell ⟨g,i*2,none⟩ (.slice (some ⟨bg,0,none⟩) kept.length n)):=by
 obtain⟨tR,tP,Cs,ho⟩:=C.each i r hr
 have oR:=ho (Nat.le_refl _)
 obtain⟨iz,e2,lo,B0⟩:=oR.bs
 rw[hb] at e2
 simp only[Option.some.injEq,Addr.mk.injEq,and_true] at e2
 subst e2
 have ne:∀ {q:Nat} {cs:List Value} {t:TypeId},ag W q cs t->t≠107->∀i,some bg=some i->i≠q:=by
  intro q cs t Bq ht i e
  obtain rfl:=Option.some.inj e
  rintro rfl
  exact ht (bV Bq B0)
 have G2:=C.rows.grown grow (ne C.rows (by decide))
 have O2:=C.out.grown grow (ne C.out (by decide))
 have b1:Below base W w2:=(Below.refl base W).grown grow C.base (fun i e=>by obtain rfl:=Option.some.inj e;exact lo)
 have eM:w2.grownBy (w2.setCell ⟨g,i*2,none⟩ (.slice (some ⟨bg,0,none⟩) kept.length n)) (some g):=al (au w2 (some g)) _ _
 have neg:∀ {q:Nat} {cs:List Value} {t:TypeId},ag w2 q cs t->t≠53->∀i,some g=some i->i≠q:=by
  intro q cs t Bq ht i e
  obtain rfl:=Option.some.inj e
  rintro rfl
  exact ht (bV Bq G2)
 have B2:=G2.set (i*2) (.slice (some ⟨bg,0,none⟩) kept.length n)
 rw[qV r ⟨kept,some ⟨bg,0,none⟩,n,r.hd,r.ha,r.hc⟩ _ _ rfl _ rfl Lr.two rs i hr] at B2
 refine⟨⟨O2.grown eM (neg O2 (by decide)),B2,C.lo,fun j q hq=>?_,?_⟩,b1.setCell C.lo _⟩
 .rw[List.getElem?_set] at hq
  split at hq
  .rename_i e
   subst e
   split at hq
   .obtain rfl:=Option.some.inj hq
    refine⟨⟨⟨bg,tail,rfl,lo,B.grown eM (neg B (by decide)),hl.symm⟩,?_,fun x hx=>((oR.good x (hk x hx)).wrote grow B0 (by decide)).wrote eM G2 (by decide)⟩,by rw[hn,<-oR.bc];exact tP,Cs,fun h=>by omega⟩
    obtain⟨hh,eh,oh⟩:=oR.hd
    have PU:=oh.kept grow (.inr (fun e=>oR.notH B0 (by decide) (by rw[eh];have:hh=bg:=Option.some.inj e;rw[this])))
    obtain⟨cur,Bh,_⟩:=my PU
    exact⟨hh,eh,PU.kept eM (.inr (fun e=>neg Bh (by decide) hh (by rw[show hh=g from Option.some.inj e]) rfl))⟩
   cases hq
  rename_i aF
  obtain⟨t1,t2,t3,t4⟩:=C.each j q hq
  have Wq:q.ba≠some ⟨bg,0,none⟩:=by rw[<-hb];exact(C.ap j i q r (fun e=>aF e.symm) hq hr).1
  have Sa:=t1.wrote grow B0 (by decide) Wq (t1.notH B0 (by decide))
  refine⟨Sa.wrote eM G2 (by decide) (Sa.notB G2 (by decide)) (Sa.notH G2 (by decide)),t2,t3,fun hi=>?_⟩
  have o1:=t4 (by omega)
  have o2:=o1.wrote grow B0 (by decide) Wq (o1.notH B0 (by decide))
  exact o2.wrote eM G2 (by decide) (o2.notB G2 (by decide)) (o2.notH G2 (by decide))
 refine C.ap.set i _ (fun j q hj hq=>?_)
 obtain⟨h1,h2⟩:=C.ap j i q r hj hq hr
 exact⟨by rw[<-hb];exact h1,h2⟩
theorem zK {P:Program}(w:World)(dT sT ty elem:TypeId)(g o yi nx:Nat)(a:Addr)(xQ uF:Nat)(cur:List Value)(t:TypeId)(cs:List Value)
  (hu:P.underlying dT=some (.slice elem)) (hs:(P.info? elem).map (·.size)=some 2)
  (hg:w.heap[g]? =some (.cells cur.toArray t (0,0))) (hn:cs.length=Nat.min xQ yi*2)
  (eS:∀j v,cs[j]? =some v->w.cell? (a.add j)=some v) (dY:o+cs.length<=cur.length) (h1:∀v∈cs,v.oneCell'=true):
  (Builtin.copy_ #[dT,sT] ty #[.slice (some ⟨g,o,none⟩) yi nx,.slice (some a) xQ uF]).run P w=
   .ok (goInt (Nat.min xQ yi)) (w.setRow g (splice cur o cs).toArray):=by
 have hl:=run_loadCells_list (P:=P) w a cs eS
 have nU:=run_storeCells_at P g o t cs 0 cur.toArray w hg (by simpa using dY) h1
 cases hq:P.info? elem with
 |none=>simp[hq] at hs
 |some i=>
  have hi:i.size=2:=by simpa[hq] using hs
  simp[Builtin.copy_,run_underlying hu,Builtin.lenOf,Builtin.firstCells,sizeOf,typeInfo,hq,hi,<-hn,hl,nU,splice]
theorem oG {P:Program}{w:World}{ops:Array Oper}{rest:List Oper}{o:Oper}{a:Act}{Q:Exit->Act->World->Prop}(vt:o.guard=none)(d s:Operand)(dT sT:TypeId)
  (ho:o.op=.call {callee:=.builtin .copy,args:=#[d,s],argTypes:=#[dT,sT]}) (elem:TypeId) (hu:P.underlying dT=some (.slice elem)) (dW:(P.info? elem).map (·.size)=some 2)
  (g off yi nx:Nat) (ad:Addr) (xQ uF:Nat) (hd:a.eval d=.slice (some ⟨g,off,none⟩) yi nx) (hs:a.eval s=.slice (some ad) xQ uF)
  (cur:List Value) (t:TypeId) (hg:ag w g cur t) (l:List Pt) (hn:l.length=Nat.min xQ yi)
  (eS:∀j v,(ar l)[j]? =some v->w.cell? (ad.add j)=some v) (dY:off+l.length*2<=cur.length) (B:Nat) (w0:World) (hb:Below B w0 w) (Sb:B<=g)
  (h:∀w',ag w' g (splice cur off (ar l)) t->Below B w0 w'->w.grownBy w' (some g)->wpList P ops Q rest (a.put o.dst (goInt l.length)) w'):wpList P ops Q (o::rest) a w:=by
 refine wpList_plain vt fun K hK=>?_
 have j5:=zK (P:=P) w dT sT o.type elem g off yi nx ad xQ uF cur t (ar l) hu dW hg (by rw[aI,hn]) eS (by rw[aI];exact dY) (fU l)
 rw[<-hn] at j5
 unfold Oper.wp
 simp[execOp,ho,resolve,invoke,builtin,hd,hs,j5,Result.andThen]
 refine hK _ _ (h _ (setRow_heap w g _ _ t _ hg) (below_setRow hb Sb _) ?_)
 have b0:Below 0 w (w.setRow g (splice cur off (ar l)).toArray):=below_setRow (Below.refl 0 w) (Nat.zero_le _) _
 refine⟨b0.os,b0.tape,b0.output,b0.size,fun k hk aF=>?_⟩
 have b1:Below g w (w.setRow g (splice cur off (ar l)).toArray):=below_setRow (Below.refl g w) (Nat.le_refl _) _
 unfold World.setRow
 simp only[Array.getElem?_modify]
 rw[if_neg (by intro e;exact aF (by rw[e]))]
theorem OS {α:Type}(Z X Y:List α)(k:Nat)(hk:X.length=k)(hZ:Z.length=k+Y.length):splice (splice Z 0 X) k Y=X++Y:=by
 subst hk
 have e1:splice Z 0 X=X++Z.drop X.length:=by simp[splice]
 rw[e1]
 unfold splice
 rw[List.take_left' rfl,List.drop_eq_nil_of_le (by simp;omega),List.append_nil]
theorem MB {w':World}{g n:Nat}{cs:List Value}{t:TypeId}(h:w'.ownsRow g t 2 (.slice (some ⟨g,0,none⟩) n n) n cs):∃L:List Value,L.length=n*2/\ag w' g L t:=by
 rcases h.2 with⟨h',_⟩| ⟨g',rZ,cur,h',_,hg,_,_,hs,nN⟩
 .simp at h'
 simp only[Value.slice.injEq,Option.some.injEq,Addr.mk.injEq,and_true,true_and] at h'
 obtain⟨rfl,rfl⟩:=h'
 exact⟨cur.toList,by simp[hs],by unfold ag;simpa using hg⟩
theorem aV.src {w:World}{ao:Option Addr}{cap:Nat}{l:List Pt}(h:aV w ao cap l):∀ad,ao=some ad->∀j u,(ar l)[j]? =some u->w.cell? (ad.add j)=some u:=by
 intro ad yA j u hu
 obtain⟨b,off,e,_,hc⟩:=h.row.at (by intro e;rw[e] at hu;simp at hu)
 rw[e] at yA
 obtain rfl:=Option.some.inj yA
 rw[Addr.add_lit]
 exact hc j u hu
theorem aV.ofBlk {w:World}{g:Nat}{l:List Pt}{t:TypeId}(h:ag w g (ar l) t)(n:Nat)(hn:l.length=n)(hm:n<=9223372036854775807):aV w (some ⟨g,0,none⟩) n l:=
 ⟨h.row 0 (ar l) (fun i v hv=>by rw[Nat.zero_add];exact hv),by omega,hm,fun e=>by cases e⟩
theorem II (a b:Bk)(ao bo:Option Addr)(ca cb:Nat)(w:World)(ha:Sl w ao ca (a.bits.map Value.bool))(la:a.bits.length<=140737488355328)(h:¬bP a=0):
  Calls Tryz.prog 157 #[ej a ao ca,ej b bo cb] w fun e w'=>e=.returned (.tuple #[.agg #[.int .i64 0,.int .i64 0,.int .i64 0,.slice none 0 0],.int .i64 (bP a)])/\Below w.heap.size w w':=by
 have c1:=fun W h=>ja a ao ca W h la
 generalize bP a=E at*
 generalize bi a=P at*
 obtain⟨an,af,aT,X⟩:=a
 obtain⟨bn,bf,bT,Y⟩:=b
 unfold ej at*
 simp only at*
 have h3:=three w [.int .i64 an,.int .i64 af,.int .i64 aT,.slice ao X.length ca] [.int .i64 bn,.int .i64 bf,.int .i64 bT,.slice bo Y.length cb] [.int .i64 0,.int .i64 0,.int .i64 0,.slice none 0 0] 107
 have sa:=fun o1 o2 o3=>((ha.alloc o1).alloc o2).alloc o3
 clear la ha
 go_enter Tryz.func157,Tryz.ntmps157
 go_wp2_with fail
 go_at_call 112
 refine(c1 _ (sa _ _ _)).mono ?_
 rintro e w1 ⟨a1,G1,rfl,s1,b1⟩
 obtain⟨_,BR,bel⟩:=h3
 have BR:=BR.keep b1 BR.lt
 have bel:=ac bel b1
 clear c1 b1 sa
 obtain⟨f0,f1,f2,f3⟩:=BR.f4
 have d0:w1.cell? ⟨w.heap.size+2,0,none⟩=some (.int .i64 0):=BR.cell 0
 have d1:w1.cell? ⟨w.heap.size+2,1,none⟩=some (.int .i64 0):=BR.cell 1
 have d2:w1.cell? ⟨w.heap.size+2,2,none⟩=some (.int .i64 0):=BR.cell 2
 have d3:w1.cell? ⟨w.heap.size+2,3,none⟩=some (.slice none 0 0):=BR.cell 3
 have jF:=BR.lt
 go_wp2_with fail
 have B4:=BR.put4 (.int .i64 0) (.int .i64 0) (.int .i64 0) (.slice none 0 0)
 have ay:=ic bel (g:=w.heap.size+2) (by omega) (.int .i64 0) (.int .i64 0) (.int .i64 0) (.slice none 0 0)
 generalize World.setCell _ _ _=w5 at*
 have i0:w5.cell? ⟨w.heap.size+2,0,none⟩=some (.int .i64 0):=B4.cell 0
 have i1:w5.cell? ⟨w.heap.size+2,1,none⟩=some (.int .i64 0):=B4.cell 1
 have i2:w5.cell? ⟨w.heap.size+2,2,none⟩=some (.int .i64 0):=B4.cell 2
 have i3:w5.cell? ⟨w.heap.size+2,3,none⟩=some (.slice none 0 0):=B4.cell 3
 exact bodyPost_ret (v:=.tuple #[.agg #[.int .i64 0,.int .i64 0,.int .i64 0,.slice none 0 0],.int .i64 E]) (by simp[results,Tryz.results157,go_sem,i0,i1,i2,i3]) rfl ⟨rfl,ay⟩
theorem Hr (a b:Bk)(ao bo:Option Addr)(ca cb:Nat)(w:World)(ha:Sl w ao ca (a.bits.map Value.bool))(hb:Sl w bo cb (b.bits.map Value.bool))(la:a.bits.length<=140737488355328)(lb:b.bits.length<=140737488355328)(h0:bP a=0)(h:¬bP b=0):
  Calls Tryz.prog 157 #[ej a ao ca,ej b bo cb] w fun e w'=>e=.returned (.tuple #[.agg #[.int .i64 0,.int .i64 0,.int .i64 0,.slice none 0 0],.int .i64 (bP b)])/\Below w.heap.size w w':=by
 have c1:=fun W h=>ja a ao ca W h la
 have c2:=fun W h=>ja b bo cb W h lb
 rw[h0] at c1
 generalize bP b=E at*
 generalize bi a=P at*
 generalize bi b=Q at*
 clear h0
 obtain⟨an,af,aT,X⟩:=a
 obtain⟨bn,bf,bT,Y⟩:=b
 unfold ej at*
 simp only at*
 have h3:=three w [.int .i64 an,.int .i64 af,.int .i64 aT,.slice ao X.length ca] [.int .i64 bn,.int .i64 bf,.int .i64 bT,.slice bo Y.length cb] [.int .i64 0,.int .i64 0,.int .i64 0,.slice none 0 0] 107
 have sa:=fun o1 o2 o3=>((ha.alloc o1).alloc o2).alloc o3
 clear la lb ha
 go_enter Tryz.func157,Tryz.ntmps157
 go_wp2_with fail
 go_at_call 112
 refine(c1 _ (sa _ _ _)).mono ?_
 rintro e w1 ⟨a1,G1,rfl,s1,b1⟩
 obtain⟨BB,BR,bel⟩:=h3
 have BB:=BB.keep b1 BB.lt
 have BR:=BR.keep b1 BR.lt
 have bel:=ac bel b1
 have hb:=hb.keep bel (Nat.le_refl _)
 clear c1 b1 sa
 have m0:w1.cell? ⟨w.heap.size+1,0,none⟩=some (.int .i64 bn):=BB.cell 0
 have m1:w1.cell? ⟨w.heap.size+1,1,none⟩=some (.int .i64 bf):=BB.cell 1
 have m2:w1.cell? ⟨w.heap.size+1,2,none⟩=some (.int .i64 bT):=BB.cell 2
 have m3:w1.cell? ⟨w.heap.size+1,3,none⟩=some (.slice bo Y.length cb):=BB.cell 3
 go_wp2_with fail
 go_at_call 112
 refine(c2 _ hb).mono ?_
 rintro e w2 ⟨a2,G2,rfl,s2,b2⟩
 have BR:=BR.keep b2 BR.lt
 have bel:=ac bel b2
 clear c2 b2 m0 m1 m2 m3 BB hb s1 s2
 obtain⟨f0,f1,f2,f3⟩:=BR.f4
 have d0:w2.cell? ⟨w.heap.size+2,0,none⟩=some (.int .i64 0):=BR.cell 0
 have d1:w2.cell? ⟨w.heap.size+2,1,none⟩=some (.int .i64 0):=BR.cell 1
 have d2:w2.cell? ⟨w.heap.size+2,2,none⟩=some (.int .i64 0):=BR.cell 2
 have d3:w2.cell? ⟨w.heap.size+2,3,none⟩=some (.slice none 0 0):=BR.cell 3
 have jF:=BR.lt
 go_wp2_with fail
 have B4:=BR.put4 (.int .i64 0) (.int .i64 0) (.int .i64 0) (.slice none 0 0)
 have ay:=ic bel (g:=w.heap.size+2) (by omega) (.int .i64 0) (.int .i64 0) (.int .i64 0) (.slice none 0 0)
 generalize World.setCell _ _ _=w5 at*
 have i0:w5.cell? ⟨w.heap.size+2,0,none⟩=some (.int .i64 0):=B4.cell 0
 have i1:w5.cell? ⟨w.heap.size+2,1,none⟩=some (.int .i64 0):=B4.cell 1
 have i2:w5.cell? ⟨w.heap.size+2,2,none⟩=some (.int .i64 0):=B4.cell 2
 have i3:w5.cell? ⟨w.heap.size+2,3,none⟩=some (.slice none 0 0):=B4.cell 3
 exact bodyPost_ret (v:=.tuple #[.agg #[.int .i64 0,.int .i64 0,.int .i64 0,.slice none 0 0],.int .i64 E]) (by simp[results,Tryz.results157,go_sem,i0,i1,i2,i3]) rfl ⟨rfl,ay⟩
theorem La (a b:Bk)(ao bo:Option Addr)(ca cb:Nat)(w:World)(ha:Sl w ao ca (a.bits.map Value.bool))(hb:Sl w bo cb (b.bits.map Value.bool))(la:a.bits.length<=140737488355328)(lb:b.bits.length<=140737488355328)(h0:bP a=0)(h1:bP b=0):
  Calls Tryz.prog 157 #[ej a ao ca,ej b bo cb] w fun e w'=>
   ∃a' G,e=.returned (.tuple #[ej (dC (bi a++bi b)) a' G,.int .i64 (fk (bi a++bi b))])/\Sl w' a' G ((dC (bi a++bi b)).bits.map Value.bool)/\Below w.heap.size w w':=by
 have c1:=fun W h=>ja a ao ca W h la
 have c2:=fun W h=>ja b bo cb W h lb
 rw[h0] at c1
 rw[h1] at c2
 have p1:=jb h0
 have p2:=jb h1
 have q1:=i' a
 have q2:=i' b
 generalize bi a=P at*
 generalize bi b=Q at*
 have c3:=fun G cap W h=>AV (some ⟨G,0,none⟩) cap (P++Q) W h
 clear h0 h1
 generalize fk (P++Q)=E at*
 generalize dC (P++Q)=M at*
 obtain⟨an,af,aT,X⟩:=a
 obtain⟨bn,bf,bT,Y⟩:=b
 obtain⟨mn,mf,mT,Z⟩:=M
 unfold ej at*
 simp only at*
 have hP:P≠[]:=by intro e;rw[e] at p1;simp at p1
 have hQ:Q≠[]:=by intro e;rw[e] at p2;simp at p2
 obtain⟨n,hn⟩:∃n,n=P.length:=⟨_,rfl⟩
 obtain⟨m,hm⟩:∃m,m=Q.length:=⟨_,rfl⟩
 have je:(P++Q).length=n+m:=by rw[List.length_append,hn,hm]
 rw[je] at c3
 rw[<-hn] at c1 p1 q1
 rw[<-hm] at c2 p2 q2
 replace hn:=aa hn
 replace hm:=aa hm
 replace je:=aa je
 obtain⟨i0,hi,bK,bm,bQ⟩:=info_parts Dc
 have h3:=three w [.int .i64 an,.int .i64 af,.int .i64 aT,.slice ao X.length ca] [.int .i64 bn,.int .i64 bf,.int .i64 bT,.slice bo Y.length cb] [.int .i64 0,.int .i64 0,.int .i64 0,.slice none 0 0] 107
 have sa:=fun o1 o2 o3=>((ha.alloc o1).alloc o2).alloc o3
 clear la lb ha
 go_enter Tryz.func157,Tryz.ntmps157
 go_wp2_with fail
 go_at_call 112
 refine(c1 _ (sa _ _ _)).mono ?_
 rintro e w1 ⟨a1,G1,rfl,s1,b1⟩
 obtain⟨BB,BR,bel⟩:=h3
 have BB:=BB.keep b1 BB.lt
 have BR:=BR.keep b1 BR.lt
 have bel:=ac bel b1
 have hb:=hb.keep bel (Nat.le_refl _)
 clear c1 b1 sa
 have m0:w1.cell? ⟨w.heap.size+1,0,none⟩=some (.int .i64 bn):=BB.cell 0
 have m1:w1.cell? ⟨w.heap.size+1,1,none⟩=some (.int .i64 bf):=BB.cell 1
 have m2:w1.cell? ⟨w.heap.size+1,2,none⟩=some (.int .i64 bT):=BB.cell 2
 have m3:w1.cell? ⟨w.heap.size+1,3,none⟩=some (.slice bo Y.length cb):=BB.cell 3
 go_wp2_with fail
 go_at_call 112
 refine(c2 _ hb).mono ?_
 rintro e w2 ⟨a2,G2,rfl,s2,b2⟩
 have BR:=BR.keep b2 BR.lt
 have bel:=ac bel b2
 have s1:=s1.call b2
 clear c2 b2 m0 m1 m2 m3 BB hb
 obtain⟨xb,xo,rfl,VO⟩:=s1.where hP
 obtain⟨yb,yo,rfl,Qv⟩:=s2.where hQ
 go_wp2_with (at_make;refine wpList_make_full _ rfl (.tmp 32) (.tmp 32) 42 rfl w2.heap.size 56 i0 (.agg #[.int .i64 0,.int .i64 0]) 2 Tryz.underlying42 hi bK bm _ _ _ _ (n+m) rfl rfl (by go_num) (by go_num) (by rw[bQ];omega) (by unfold maxLen;omega) (Nat.le_refl _) ?_)
 intro w3 own jD
 obtain⟨L,hL,B0⟩:=MB own
 have aC:Below w2.heap.size w2 w3:=(Below.refl _ _).grown jD (Nat.le_refl _) (fun k h=>by cases h)
 have xA:=BR.lt
 clear own jD
 have t1:=s1.call aC
 have e1:P.length=Nat.min n (n+m):=by rw[<-hn.out];exact(Nat.min_eq_left (by omega)).symm
 have e2:Q.length=Nat.min m m:=by rw[<-hm.out];exact(Nat.min_self m).symm
 have f1:0+P.length*2<=L.length:=by rw[hL,<-hn.out];omega
 have f2:n*2+Q.length*2<=(splice L 0 (ar P)).length:=by rw[length_splice _ _ _ (by rw[aI];exact f1),hL,<-hm.out];omega
 replace e1:=aa e1
 replace e2:=aa e2
 replace f1:=aa f1
 replace f2:=aa f2
 replace hL:=aa hL
 generalize hg:w2.heap.size=g at*
 have jF:w2.heap.size<=g:=Nat.le_of_eq hg
 clear hg
 go_wp2_with (refine oG rfl (.tmp 34) (.tmp 35) 42 42 rfl 56 Tryz.underlying42 Jo g 0 _ _ _ _ _ rfl rfl L 56 B0 P e1.out (t1.src _ rfl) f1.out g w2 aC (Nat.le_refl _) ?_)
 intro w4 B1 ay _
 clear aC B0
 go_wp2_with (refine oG rfl (.tmp 40) (.tmp 41) 42 42 rfl 56 Tryz.underlying42 Jo g (n*2) _ _ _ _ _ rfl rfl (splice L 0 (ar P)) 56 B1 Q e2.out ((s2.keep ay jF).src _ rfl) f2.out g w2 ay (Nat.le_refl _) ?_)
 intro w5 B2 br _
 clear ay B1 t1
 rw[OS L (ar P) (ar Q) (n*2) (by rw[aI,<-hn.out]) (by rw[hL.out,aI,<-hm.out];omega),<-dF] at B2
 have s5:=aV.ofBlk B2 (n+m) je.out (by omega)
 have Cn:=BR.keep br xA
 have fO:=bel.trans (br.mono (by omega))
 clear B2 br bel BR s1 s2 e1 e2 f1 f2 hL hn hm
 go_wp2_with fail
 go_at_call 155
 refine(c3 _ _ _ s5).mono ?_
 rintro e w6 ⟨a6,G6,rfl,t6,b6⟩
 have jZ:=Cn.keep b6 Cn.lt
 have dD:=ac fO b6
 clear c3 b6 Cn fO s5
 obtain⟨f0,f1,f2,f3⟩:=jZ.f4
 have d0:w6.cell? ⟨w.heap.size+2,0,none⟩=some (.int .i64 0):=jZ.cell 0
 have d1:w6.cell? ⟨w.heap.size+2,1,none⟩=some (.int .i64 0):=jZ.cell 1
 have d2:w6.cell? ⟨w.heap.size+2,2,none⟩=some (.int .i64 0):=jZ.cell 2
 have d3:w6.cell? ⟨w.heap.size+2,3,none⟩=some (.slice none 0 0):=jZ.cell 3
 have Xy:=jZ.lt
 go_wp2_with fail
 have B4:=jZ.put4 (.int .i64 mn) (.int .i64 mf) (.int .i64 mT) (.slice a6 Z.length G6)
 have ay:=ic dD (g:=w.heap.size+2) (by omega) (.int .i64 mn) (.int .i64 mf) (.int .i64 mT) (.slice a6 Z.length G6)
 have t4:=t6.put4 jZ (.int .i64 mn) (.int .i64 mf) (.int .i64 mT) (.slice a6 Z.length G6)
 generalize World.setCell _ _ _=w7 at*
 have i0:w7.cell? ⟨w.heap.size+2,0,none⟩=some (.int .i64 mn):=B4.cell 0
 have i1:w7.cell? ⟨w.heap.size+2,1,none⟩=some (.int .i64 mf):=B4.cell 1
 have i2:w7.cell? ⟨w.heap.size+2,2,none⟩=some (.int .i64 mT):=B4.cell 2
 have i3:w7.cell? ⟨w.heap.size+2,3,none⟩=some (.slice a6 Z.length G6):=B4.cell 3
 exact bodyPost_ret (v:=.tuple #[.agg #[.int .i64 mn,.int .i64 mf,.int .i64 mT,.slice a6 Z.length G6],.int .i64 E]) (by simp[results,Tryz.results157,go_sem,i0,i1,i2,i3]) rfl ⟨a6,G6,rfl,t4,ay⟩
theorem Hm (a b:Bk)(ao bo:Option Addr)(ca cb:Nat)(w:World)(ha:Sl w ao ca (a.bits.map Value.bool))(hb:Sl w bo cb (b.bits.map Value.bool))(la:a.bits.length<=140737488355328)(lb:b.bits.length<=140737488355328):
  Calls Tryz.prog 157 #[ej a ao ca,ej b bo cb] w fun e w'=>
   ∃a' G,e=.returned (.tuple #[ej (eO a b) a' G,.int .i64 (eA a b)])/\Sl w' a' G ((eO a b).bits.map Value.bool)/\Below w.heap.size w w':=by
 by_cases h0:bP a=0
 .by_cases h1:bP b=0
  .have hB:eO a b=dC (bi a++bi b):=if_pos ⟨h0,h1⟩
   have hE:eA a b=fk (bi a++bi b):=by unfold eA;rw[if_pos h0,if_pos h1]
   rw[hB,hE]
   exact La a b ao bo ca cb w ha hb la lb h0 h1
  have hB:eO a b=wR:=if_neg (fun h=>h1 h.2)
  have hE:eA a b=bP b:=by unfold eA;rw[if_pos h0,if_neg h1]
  rw[hB,hE]
  refine(Hr a b ao bo ca cb w ha hb la lb h0 h1).mono ?_
  rintro e w' ⟨rfl,hb⟩
  exact⟨none,0,rfl,Sl.ofNil _,hb⟩
 have hB:eO a b=wR:=if_neg (fun h=>h0 h.1)
 have hE:eA a b=bP a:=by unfold eA;rw[if_neg h0]
 rw[hB,hE]
 refine(II a b ao bo ca cb w ha la h0).mono ?_
 rintro e w' ⟨rfl,hb⟩
 exact⟨none,0,rfl,Sl.ofNil _,hb⟩
end Go.Proofs.YtoonnbhoiocoeaaGreatDoor
