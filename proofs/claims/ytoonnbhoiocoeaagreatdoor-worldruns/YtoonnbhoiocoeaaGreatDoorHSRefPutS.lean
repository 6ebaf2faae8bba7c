/-
  rainbookref.PutAll, of a shelf that is right: what it answers; nothing that was there is written.
-/
import Derived.Deep.Cut
import Derived.Deep.CutRange
import Derived.Test.YtoonnbhoiocoeaaGreatDoorQ13
import Derived.Test.YtoonnbhoiocoeaaGreatDoorQ08
import Derived.Test.YtoonnbhoiocoeaaGreatDoorS34
import Derived.Test.YtoonnbhoiocoeaaGreatDoorQ19
set_option maxHeartbeats 40000000
set_option maxRecDepth 100000
set_option linter.unusedVariables false
namespace Go.Proofs.YtoonnbhoiocoeaaGreatDoor
open Go.RowKit
theorem Ci (m:Nat)(ao:Option Addr)(cap:Nat)(la:Option Addr)(n lc:Nat)(w:World)(h:10<n)(hn:n<=140737488355328):
  Calls Tryz.prog 99 #[.agg #[.slice ao m cap],.slice la n lc] w fun e w'=>e=.returned (.tuple #[.agg #[.slice none 0 0],.int .i64 2])/\Below w.heap.size w w':=by
 have h':(10:Int)<n:=by omega
 go_enter Tryz.func99,Tryz.ntmps99
 go_wp2_with fail
 exact bodyPost_ret (v:=.tuple #[.agg #[.slice none 0 0],.int .i64 2]) (by simp[results,Tryz.results99,go_sem]) rfl ⟨rfl,dN w _ _⟩
theorem dL.onlySl {w:World}{g G:Nat}{l:List Lr}(h:dL w g G l):∃cs,ag w g cs 53/\mt cs:=by
 obtain⟨L,B,hL⟩:=h.blk
 refine⟨_,B,fun v hv=>?_⟩
 rcases List.mem_append.1 hv with hv|hv
 .exact kv l v hv
 exact⟨_,_,_,hL v hv⟩
theorem Eq (l:List Lr)(ao:Option Addr)(cap:Nat)(L:List En)(la:Option Addr)(lc:Nat)(w:World)(hs:bL w ao cap l)(hL:be En.cells w la lc L)(hR:eY (l.map Lr.rw))(h:L.length<=10):
  Calls Tryz.prog 99 #[.agg #[.slice ao 4 cap],.slice la L.length lc] w fun e w'=>
   ∃rs a' G,e=.returned (.tuple #[.agg #[.slice a' rs.length G],.int .i64 (gn (l.map Lr.rw) L)])/\rs.map Lr.rw=(if gn (l.map Lr.rw) L=0 then jl (l.map Lr.rw) L else [])/\bL w' a' G rs/\Below w.heap.size w w'/\ae w.heap.size l rs:=by
 have h4:l.length=4:=by have:=hR.four;rwa[List.length_map] at this
 obtain⟨E,hE⟩:∃E,E=gn (l.map Lr.rw) L:=⟨_,rfl⟩
 obtain⟨F,hF⟩:∃F,F=jl (l.map Lr.rw) L:=⟨_,rfl⟩
 rw[<-hE,<-hF]
 obtain⟨Z,hZ⟩:∃Z,Z=if E=0 then F else []:=⟨_,rfl⟩
 rw[<-hZ]
 replace hZ:=aa hZ
 have H0:Hid (E=gn (l.map Lr.rw) (L.drop 0)):=by rw[List.drop_zero];exact hE
 have H1:Hid (F=jl (l.map Lr.rw) (L.drop 0)):=by rw[List.drop_zero];exact hF
 clear hE hF
 obtain⟨n,hn⟩:∃n,n=L.length:=⟨_,rfl⟩
 rw[<-hn] at h⊢
 have h':¬(10:Int)<n:=by omega
 replace hn:=aa hn
 obtain⟨lb,lo,rfl,-⟩:=hs.where (by intro e;rw[e] at h4;simp at h4)
 have c3:=fun W (hW:be Lr.cells W (some ⟨lb,lo,none⟩) cap l)=>tQ ⟨lb,lo,none⟩ cap (l.flatMap Lr.cells) 4 W hW.row (by rw[av Lr.two,h4]) (by decide) (by decide)
 have s2:=fun o1 o2=>(hs.sl.alloc o1).alloc o2
 have gl:=hs.good
 replace hR:=aa hR
 replace h4:=aa h4
 clear hs
 go_enter Tryz.func99,Tryz.ntmps99
 go_wp2_with fail
 have BR:=(rh w [.slice (some ⟨lb,lo,none⟩) 4 cap] [.slice none 0 0] 24)
 go_at_call 129
 refine(c3 _ (s2 _ _)).mono ?_
 rintro e w1 ⟨g,G,X,rfl,B1,hX,hG,pT,zn,b1⟩
 have rows:dL w1 g G l:=⟨⟨X,B1,hX⟩,by rw[h4.out];exact hG,pT⟩
 obtain⟨BR,bel⟩:=BR
 replace BR:=BR.keep b1 BR.lt
 replace bel:=ac bel b1
 have GO:∀r∈l,r.Good w1:=fun r hr=>(gl r hr).keep bel (Nat.le_refl _)
 clear b1 s2 c3 B1 hX X gl
 simp only[World.size_alloc] at zn
 replace GO:=aa (And.intro GO (ae.self w.heap.size l))
 have kU:4<=G:=hG
 go_wp2_with fail
 go_loopw [21] (fun i wr=>∃(k:Nat) (rs:List Lr),k<=n/\i=.int .i64 k/\Hid (E=gn (rs.map Lr.rw) (L.drop k))/\Hid (F=jl (rs.map Lr.rw) (L.drop k))/\Hid (eY (rs.map Lr.rw))/\dL wr g G rs/\Hid ((∀r∈rs,r.Good wr)/\ae w.heap.size l rs)/\ag wr (w.heap.size+1) [.slice none 0 0] 24/\Below w.heap.size w wr) (fun i _=>n-(intOf i).toNat)
 case atStart=>exact⟨0,l,by omega,rfl,H0,H1,hR,rows,GO,BR,bel⟩
 case round=>
  clear H0 H1 hR rows GO BR bel h4
  obtain⟨k,rs,hk,rfl,H0,H1,hR,rows,gl,BR,bel⟩:=hrel
  by_cases aE:k<n
  .have dZ:=hL.keep bel (Nat.le_refl _)
   obtain⟨b,off,rfl,ld⟩:=dZ.where En.three (by decide) (by intro e;rw[hn.out,e] at aE;simp at aE)
   obtain⟨x,hx⟩:∃x,L[k]? =some x:=⟨_,List.getElem?_eq_getElem (by rw[<-hn.out];exact aE)⟩
   have e0:=dZ.cell En.three k 0 x _ hx rfl
   have e1:=dZ.cell En.three k 1 x _ hx rfl
   have e2:=dZ.cell En.three k 2 x _ hx rfl
   simp only[Nat.add_zero] at e0
   have hd:L.drop k=x::L.drop (k+1):=by
    obtain⟨fC,rfl⟩:=List.getElem?_eq_some_iff.1 hx
    exact List.drop_eq_getElem_cons fC
   have aJ:=H0.out
   have eQ:=H1.out
   rw[hd,gn] at aJ
   rw[hd,jl] at eQ
   clear H0 H1 hd hx dZ
   obtain⟨xs,xt,xv⟩:=x
   simp only at*
   have c:=fun W=>bG xs 0 3 W
   cases hi:dG xs 0 3 with
   |false=>
    have hE:E=5:=by rw[aJ];unfold fo;rw[if_pos hi];simp
    unfold dG at hi
    rw[hi] at c
    replace hE:=aa hE
    clear aJ eQ hi
    have lR:=BR.lt
    have fR:=BR.free 0
    have dR:wr.cell? ⟨w.heap.size+1,0,none⟩=some (.slice none 0 0):=BR.cell 0
    go_wp2_with fail
    go_at_call 36
    refine(c _).mono ?_
    rintro e w2 ⟨rfl,rfl⟩
    go_wp2_with fail
    exact bodyPost_ret (v:=.tuple #[.agg #[.slice none 0 0],.int .i64 5]) (by simp[results,Tryz.results99,go_sem,lR,dR]) rfl ⟨[],none,0,by rw[hE.out];rfl,by rw[hZ.out,hE.out];rfl,bL.ofNil _,ax (bel.setCell (Nat.le_succ _) _) _,ae.nil _ _⟩
   |true=>
    obtain⟨s,rfl,YN⟩:=qO hi
    have l4:rs.length=4:=by have:=hR.out.four;rwa[List.length_map] at this
    obtain⟨r,hr⟩:∃r,rs[s]? =some r:=⟨_,List.getElem?_eq_getElem (by omega)⟩
    have VE:=gl.out.1 r (List.mem_of_getElem? hr)
    obtain⟨f1,f2⟩:=hR.out.few r.rw (List.mem_map.2 ⟨r,List.mem_of_getElem? hr,rfl⟩)
    obtain⟨q0,q1⟩:=rows.cells s r hr
    have m8:(rs.map Lr.rw).getD s fj=r.rw:=by rw[List.getD,List.getElem?_map,hr];rfl
    have AE:putRow (rs.map Lr.rw) ⟨s,xt,xv⟩=⟨r.bs.map Lb.b,r.hd++[(xt,xv)]⟩:=by
     unfold putRow
     simp only[Int.toNat_natCast]
     rw[m8]
     rfl
    rw[show fo (rs.map Lr.rw) ⟨s,xt,xv⟩=dV ⟨r.bs.map Lb.b,r.hd++[(xt,xv)]⟩ by unfold fo;rw[hi,if_neg (by decide),AE],show iV (rs.map Lr.rw) ⟨s,xt,xv⟩=(rs.map Lr.rw).set s ⟨r.bs.map Lb.b,r.hd++[(xt,xv)]⟩ by unfold iV;rw[AE];rfl] at aJ
    rw[show iV (rs.map Lr.rw) ⟨s,xt,xv⟩=(rs.map Lr.rw).set s ⟨r.bs.map Lb.b,r.hd++[(xt,xv)]⟩ by unfold iV;rw[AE];rfl] at eQ
    replace aJ:=aa aJ
    replace eQ:=aa eQ
    have Dr:dV ⟨r.bs.map Lb.b,r.hd++[(xt,xv)]⟩=0->eY ((rs.map Lr.rw).set s ⟨r.bs.map Lb.b,r.hd++[(xt,xv)]⟩):=by
     intro h0
     have:=hR.out.put (x:=⟨s,xt,xv⟩) (by unfold fo;rw[hi,if_neg (by decide),AE];exact h0)
     unfold iV at this
     rw[AE] at this
     exact this
    unfold dG at hi
    rw[hi] at c
    clear hi AE m8
    obtain⟨bs,ba,bc,hd,ha,hc⟩:=r
    simp only at*
    obtain⟨m,em⟩:∃m,m=hd.length:=⟨_,rfl⟩
    obtain⟨bn,eb⟩:∃bn,bn=bs.length:=⟨_,rfl⟩
    have Xu:bn<=8:=by rw[eb];simpa[Lr.rw] using f1
    have lh:m<=40:=by rw[em];simpa[Lr.rw] using f2
    rw[<-eb] at q0
    rw[<-em] at q1
    replace em:=aa em
    replace eb:=aa eb
    replace hr:=aa hr
    replace l4:=aa l4
    clear f1 f2
    have aaP:(s:Int)<4:=by omega
    have gW:=fun W (hW:Below wr.heap.size wr W)=>VE.keep hW (Nat.le_refl _)
    clear VE
    go_wp2_with fail
    go_at_call 36
    refine(c _).mono ?_
    rintro e w2 ⟨rfl,rfl⟩
    clear c
    have X8:=ag.laid wr [.int .i64 s,.int .i64 xt,.int .i64 xv] 75 _ rfl
    have fO:Below wr.heap.size wr (wr.alloc (.cells #[.int .i64 s,.int .i64 xt,.int .i64 xv] 75)):=(Below.refl _ _).alloc (Nat.le_refl _) _
    have lg:=rows.lt
    generalize SU:wr.heap.size=g8 at X8⊢
    generalize wr.alloc _=w2 at*
    have a0:=(fO.cell (p:=⟨g,s*2,none⟩) lg).trans q0
    have a1:=(fO.cell (p:=⟨g,s*2+1,none⟩) lg).trans q1
    have gO:g<w2.heap.size:=Nat.lt_of_lt_of_le lg fO.size
    have x0:w2.cell? ⟨g8,0,none⟩=some (.int .i64 s):=X8.cell 0
    clear q0 q1 e0 e1 e2
    go_wp2_with fail
    have B9:=ag.laid w2 [.slice ba bn bc,.slice ha m hc] 53 _ rfl
    have X9:=X8.alc (.cells #[.slice ba bn bc,.slice ha m hc] 53)
    have fM:=ax fO (.cells #[.slice ba bn bc,.slice ha m hc] 53)
    have lA:g8<w2.heap.size:=X8.lt
    clear X8 fO a0 a1 gO x0
    generalize Oz:w2.heap.size=g9 at*
    generalize w2.alloc _=w4 at*
    clear Oz
    obtain⟨i1,km,y0,y1,y2⟩:=info_parts Mq
    have q1:w4.cell? ⟨g9,1,none⟩=some (.slice ha m hc):=B9.cell 1
    have x1:w4.cell? ⟨g8,1,none⟩=some (.int .i64 xt):=X9.cell 1
    have x2:w4.cell? ⟨g8,2,none⟩=some (.int .i64 xv):=X9.cell 2
    have fz:w4.frozen? ⟨g9,1,none⟩=false:=B9.free 1
    have l9:=B9.lt
    have l8:=X9.lt
    have cP:∀W,Below w4.heap.size w4 W->Calls Tryz.prog 130 #[.slice ha m hc] W fun e w'=>∃v',e=.returned v'/\w'.ownsRow w4.heap.size 56 2 v' m (ar hd)/\Below W.heap.size W w'/\Below w4.heap.size w4 w'/\v'.ownBlock≠some g8/\v'.ownBlock≠some g9/\w'.cell? ⟨g9,1,none⟩=some (.slice ha m hc)/\w'.cell? ⟨g8,1,none⟩=some (.int .i64 xt)/\w'.cell? ⟨g8,2,none⟩=some (.int .i64 xv):=by
     intro W hW
     have gg:=(gW W (fM.trans (hW.mono fM.size))).hd
     refine(Qk ha hc (ar hd) m W gg.row (by have:=gg.le;rw[em.out];exact this) gg.nil (by rw[aI,em.out]) (fU hd) (by omega)).mono ?_
     rintro e w' ⟨v',rfl,o',b'⟩
     have o2:=rg o' hW.size
     have bb:=hW.trans (b'.mono hW.size)
     refine⟨v',rfl,o2,b',bb,?_,?_,(B9.keep bb l9).cell 1,(X9.keep bb l8).cell 1,(X9.keep bb l8).cell 2⟩
     .intro e;have:=(o2.lt g8 e).1;omega
     intro e;have:=(o2.lt g9 e).1;omega
    have fc:∀u∈([.int .i64 xt,.int .i64 xv]:List Value),u.oneCell'=true:=by
     intro u hu
     simp only[List.mem_cons,List.not_mem_nil,or_false] at hu
     rcases hu with rfl|rfl<;>rfl
    have n89:¬g8=g9:=by omega
    have ZM:¬g9=g8:=by omega
    have Zt:wr.heap.size<=g9:=by omega
    go_cut [] from 35 to 60 (fun wx=>∃(hg c6:Nat),ag wx g9 [.slice ba bn bc,.slice (some ⟨hg,0,none⟩) (m+1) c6] 53/\wx.ownsRow w4.heap.size 56 2 (.slice (some ⟨hg,0,none⟩) (m+1) c6) (m+1) (ar (hd++[(xt,xv)]))/\ag wx g8 [.int .i64 s,.int .i64 xt,.int .i64 xv] 75/\Below wr.heap.size wr wx)
    case first=>
     go_region_law
      (first
       | (refine nR (by rfl) 130 (.tmp 36) 42 (by rfl) (.slice ha m hc) (by rfl) (by go_simp) (cP _ (by first|exact ak (Below.refl _ _)|exact ak (ax (Below.refl _ _) _)|exact ax (ak (Below.refl _ _)) _)) (by rintro e w' ⟨v',rfl,_⟩;exact⟨_,rfl⟩) ?_;rintro v5 w5 ⟨YL,Sw,dM,b5,ki,n8,n9,z0,z1,z2⟩;obtain rfl:=Ending.returned.inj Sw)
       | ((refine step_append_lies _ (by rfl) (.tmp 37) (.tmp 43) 42 (by rfl) w4.heap.size 56 i1 (.agg #[.int .i64 0,.int .i64 0]) 2 16 Tryz.underlying42 km y0 y1 y2 rfl (by decide) v5 m _ (by rfl) (dM.alloc _) ⟨w5.heap.size,0,none⟩ 1 1 [.int .i64 xt,.int .i64 xv] (by rfl) (by rfl) (World.news_of_block (cs:=#[.int .i64 xt,.int .i64 xv]) (t:=56) (fr:=(0,0)) (heap_alloc_new w5 _)) fc (by decide) (by unfold maxLen;omega) (by omega) (by simp;exact Nat.le_succ_of_le ki.size) (w5.heap.size+1) (by simp) ?_;intro g6 c6 w6 d8 dj Kb K8;have eg:=aG (ax ki _) (dM.alloc _) dj (Nat.le_refl _) (ax ki _).size;have u1:=(eg.cell (p:=⟨g9,1,none⟩) l9).trans q1;have v1:=(eg.cell (p:=⟨g8,1,none⟩) l8).trans x1;have v2:=(eg.cell (p:=⟨g8,2,none⟩) l8).trans x2;have Yg:=(eg.frozen (p:=⟨g9,1,none⟩) l9).trans fz))
       | ((refine step_append_lies _ (by rfl) (.tmp 37) (.tmp 43) 42 (by rfl) w4.heap.size 56 i1 (.agg #[.int .i64 0,.int .i64 0]) 2 16 Tryz.underlying42 km y0 y1 y2 rfl (by decide) v5 m _ (by rfl) dM ⟨w4.heap.size,0,none⟩ 1 1 [.int .i64 xt,.int .i64 xv] (by rfl) (by rfl) (World.news_of_block (cs:=#[.int .i64 xt,.int .i64 xv]) (t:=56) (fr:=(0,0)) ((b5.block w4.heap.size (by simp)).trans (heap_alloc_new w4 _))) fc (by decide) (by unfold maxLen;omega) (by omega) ki.size w5.heap.size rfl ?_;intro g6 c6 w6 d8 dj Kb K8;have eg:=aG ki dM dj (Nat.le_refl _) ki.size;have u1:=(eg.cell (p:=⟨g9,1,none⟩) l9).trans q1;have v1:=(eg.cell (p:=⟨g8,1,none⟩) l8).trans x1;have v2:=(eg.cell (p:=⟨g8,2,none⟩) l8).trans x2;have Yg:=(eg.frozen (p:=⟨g9,1,none⟩) l9).trans fz)))
     all_goals(
      go_wp2_with fail
      go_meet
      case rel=>
       have kI:=(d8.lt g6 rfl).1
       have o7:=d8.kept (row:=some g9) (al (au w6 (some g9)) 1 (.slice (some ⟨g6,0,none⟩) (m+1) c6)) (.inr (fun e=>by have:g6=g9:=Option.some.inj e;omega))
       rw[show ar hd++[.int .i64 xt,.int .i64 xv]=ar (hd++[(xt,xv)]) by rw[dF];rfl] at o7
       exact⟨g6,c6,(B9.keep eg l9).set 1 _,o7,(X9.keep eg l8).other 1 _ ZM,(fM.trans (eg.mono fM.size)).setCell Zt _⟩)
    case rest=>
     obtain⟨hg,c6,B9,JH,X9,tH⟩:=hcut
     have pZ:(hd++[(xt,xv)]).length=m+1:=by rw[List.length_append,<-em.out];rfl
     have Jl:Lr.Good wc ⟨bs,ba,bc,hd++[(xt,xv)],some ⟨hg,0,none⟩,c6⟩:=by
      obtain⟨a3,G3,e3,s3,_,_⟩:=aV.ofOwn JH
      simp only[Value.slice.injEq,true_and] at e3
      obtain⟨rfl,rfl⟩:=e3
      have g0:=gW wc tH
      exact⟨g0.bs,s3,g0.few,by simp only[pZ];omega⟩
     have c5:=fun W h=>vC ⟨bs,ba,bc,hd++[(xt,xv)],some ⟨hg,0,none⟩,c6⟩ W h
     obtain⟨RE,wV⟩:∃RE,RE=dV ⟨bs.map Lb.b,hd++[(xt,xv)]⟩:=⟨_,rfl⟩
     rw[show Lr.rw ⟨bs,ba,bc,hd++[(xt,xv)],some ⟨hg,0,none⟩,c6⟩=⟨bs.map Lb.b,hd++[(xt,xv)]⟩ from rfl,<-wV] at c5
     generalize qK ⟨bs.map Lb.b,hd++[(xt,xv)]⟩=RL at c5
     unfold Lr.v at c5
     simp only[pZ] at c5
     rw[<-eb.out] at c5
     have r7:=aJ.out
     rw[<-wV] at r7 Dr
     have Ir:=rows.keep tH rows.lt
     have Fv:=BR.keep tH BR.lt
     have am:Below w.heap.size w wc:=bel.trans (tH.mono bel.size)
     have PH:∀r∈rs,r.Good wc:=fun r hr=>(gl.out.1 r hr).keep tH (Nat.le_refl _)
     replace pZ:=aa pZ
     replace wV:=aa wV
     replace PH:=aa PH
     have k0:wc.cell? ⟨g9,0,none⟩=some (.slice ba bn bc):=B9.cell 0
     have k1:wc.cell? ⟨g9,1,none⟩=some (.slice (some ⟨hg,0,none⟩) (m+1) c6):=B9.cell 1
     have hF:=aa gl.out.2
     have MJ:w.heap.size<=hg:=Nat.le_trans (Nat.le_trans bel.size fM.size) (JH.lt hg rfl).1
     clear gW cP JH fc q1 x1 x2 fz l8 l9 gl rows BR bel aJ
     by_cases h0:RE=0
     .rw[if_pos h0] at r7
      replace r7:=aa r7
      have R2:=aa (Dr h0)
      clear Dr
      subst h0
      go_wp2_with fail
      go_at_call 20
      refine(c5 _ Jl).mono ?_
      rintro e w7 ⟨a7,G7,rfl,s7,b7⟩
      have B7:=B9.keep b7 B9.lt
      have X7:=X9.keep b7 X9.lt
      have vi:=Ir.keep b7 Ir.lt
      have OA:=Fv.keep b7 Fv.lt
      have lH:=ac am b7
      have g7:=Jl.call b7
      have Vm:∀r∈rs,r.Good w7:=fun r hr=>(PH.out r hr).call b7
      clear k0 k1 c5 b7 B9 X9 Ir Fv am Jl PH s7
      have k0:w7.cell? ⟨g9,0,none⟩=some (.slice ba bn bc):=B7.cell 0
      have k1:w7.cell? ⟨g9,1,none⟩=some (.slice (some ⟨hg,0,none⟩) (m+1) c6):=B7.cell 1
      have k2:w7.cell? ⟨g8,0,none⟩=some (.int .i64 s):=X7.cell 0
      have l7:=vi.lt
      have OE:=vi.free (s*2)
      have Ie:=vi.free (s*2+1)
      obtain⟨j0,j1⟩:=vi.cells s _ hr.out
      have P7:=vi.put s (by rw[l4.out];exact YN) ⟨bs,ba,bc,hd++[(xt,xv)],some ⟨hg,0,none⟩,c6⟩
      simp only[pZ.out,<-eb.out] at P7 j0 j1
      obtain⟨cs,RJ,SB⟩:=vi.onlySl
      have grow:=al (al (au w7 (some g)) (s*2) (.slice ba bn bc)) (s*2+1) (.slice (some ⟨hg,0,none⟩) (m+1) c6)
      have G8:∀r∈rs.set s ⟨bs,ba,bc,hd++[(xt,xv)],some ⟨hg,0,none⟩,c6⟩,r.Good ((w7.setCell ⟨g,s*2,none⟩ (.slice ba bn bc)).setCell ⟨g,s*2+1,none⟩ (.slice (some ⟨hg,0,none⟩) (m+1) c6)):=by
       intro r hr
       rcases List.mem_or_eq_of_mem_set hr with hr|rfl
       .exact(Vm r hr).offSl grow RJ SB
       exact g7.offSl grow RJ SB
      have gK:=(OA.other (s*2) (.slice ba bn bc) (show g≠w.heap.size+1 by omega)).other (s*2+1) (.slice (some ⟨hg,0,none⟩) (m+1) c6) (show g≠w.heap.size+1 by omega)
      have Vz:w.heap.size<=g:=by omega
      have Mh:=(lH.setCell (p:=⟨g,s*2,none⟩) Vz (.slice ba bn bc)).setCell (p:=⟨g,s*2+1,none⟩) Vz (.slice (some ⟨hg,0,none⟩) (m+1) c6)
      have yj:(rs.set s ⟨bs,ba,bc,hd++[(xt,xv)],some ⟨hg,0,none⟩,c6⟩).map Lr.rw=(rs.map Lr.rw).set s ⟨bs.map Lb.b,hd++[(xt,xv)]⟩:=by rw[List.map_set];rfl
      replace G8:=aa (And.intro G8 (ae.put (k:=s) (x:=⟨bs,ba,bc,hd++[(xt,xv)],some ⟨hg,0,none⟩,c6⟩) hF.out (fun ad e=>by cases e;exact MJ)))
      replace yj:=aa yj
      clear Vm g7 RJ SB grow
      go_wp2_with fail
      go_roundw
      case rel=>exact⟨k+1,_,by omega,by go_num,by rw[yj.out];exact r7,by rw[yj.out];exact eQ,by rw[yj.out];exact R2,P7,G8,gK,Mh⟩
      case measure=>simp[intOf];omega
     rw[if_neg h0] at r7
     replace r7:=aa r7
     clear Dr
     go_wp2_with fail
     go_at_call 20
     refine(c5 _ Jl).mono ?_
     rintro e w7 ⟨a7,G7,rfl,s7,b7⟩
     have OA:=Fv.keep b7 Fv.lt
     have lH:=ac am b7
     have lR:=OA.lt
     have fR:=OA.free 0
     have dR:w7.cell? ⟨w.heap.size+1,0,none⟩=some (.slice none 0 0):=OA.cell 0
     clear k0 k1 c5 b7
     go_wp2_with fail
     exact bodyPost_ret (v:=.tuple #[.agg #[.slice none 0 0],.int .i64 RE]) (by simp[results,Tryz.results99,go_sem,dR]) rfl ⟨[],none,0,by rw[r7.out];rfl,by rw[hZ.out,r7.out,if_neg h0];rfl,bL.ofNil _,lH.setCell (Nat.le_succ _) _,ae.nil _ _⟩
  obtain rfl:k=n:=by omega
  have aJ:=H0.out
  have eQ:=H1.out
  rw[hn.out,List.drop_length] at aJ eQ
  rw[gn] at aJ
  rw[jl] at eQ
  have l4:rs.length=4:=by have:=hR.out.four;rwa[List.length_map] at this
  have lR:=BR.lt
  have fR:=BR.free 0
  have dR:wr.cell? ⟨w.heap.size+1,0,none⟩=some (.slice none 0 0):=BR.cell 0
  have grow:=al (au wr (some (w.heap.size+1))) 0 (.slice (some ⟨g,0,none⟩) 4 G)
  have S9:=(rows.other (w.heap.size+1) 0 (.slice (some ⟨g,0,none⟩) 4 G) (by omega)).slr (fun r hr=>(gl.out.1 r hr).offSl grow BR (io _ _ _))
  have b9:=bel.setCell (p:=⟨w.heap.size+1,0,none⟩) (Nat.le_succ w.heap.size) (.slice (some ⟨g,0,none⟩) 4 G)
  replace aJ:=aa aJ
  replace eQ:=aa eQ
  replace l4:=aa l4
  have hO:=aa gl.out.2
  clear H0 H1 grow gl hR
  go_wp2_with fail
  exact bodyPost_ret (v:=.tuple #[.agg #[.slice (some ⟨g,0,none⟩) 4 G],.int .i64 0]) (by simp[results,Tryz.results99,go_sem,dR]) rfl ⟨rs,_,_,by rw[aJ.out,l4.out],by rw[hZ.out,aJ.out,eQ.out];rfl,S9,b9,hO.out⟩
theorem EP (l:List Lr)(ao:Option Addr)(cap:Nat)(L:List En)(la:Option Addr)(lc:Nat)(w:World)(hs:bL w ao cap l)(hL:be En.cells w la lc L)(few:L.length<=140737488355328)(hR:eY (l.map Lr.rw)):
  Calls Tryz.prog 99 #[.agg #[.slice ao l.length cap],.slice la L.length lc] w fun e w'=>
   ∃rs a' G,e=.returned (.tuple #[.agg #[.slice a' rs.length G],.int .i64 (fB (l.map Lr.rw) L)])/\rs.map Lr.rw=iO (l.map Lr.rw) L/\bL w' a' G rs/\Below w.heap.size w w'/\ae w.heap.size l rs:=by
 have h4:l.length=4:=by have:=hR.four;rwa[List.length_map] at this
 by_cases h:10<L.length
 .have e:fB (l.map Lr.rw) L=2:=by unfold fB;rw[if_pos h]
  refine(Ci l.length ao cap la L.length lc w h few).mono ?_
  rintro _ w' ⟨rfl,b⟩
  exact⟨[],none,0,by rw[e];rfl,by unfold iO;rw[e];rfl,bL.ofNil _,b,ae.nil _ _⟩
 have e:fB (l.map Lr.rw) L=gn (l.map Lr.rw) L:=by unfold fB;rw[if_neg h]
 unfold iO
 rw[e,h4]
 exact Eq l ao cap L la lc w hs hL hR (by omega)
end Go.Proofs.YtoonnbhoiocoeaaGreatDoor
