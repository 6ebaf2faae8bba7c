/-
  rainbookref.PutAll, of a shelf that is right: what it answers; nothing that was there is written.
-/
import Derived.Deep.Cut
import Derived.Deep.CutRange
import Derived.Deep.AppendLies
import Derived.Test.YtoonnbhoiocoeaaGreatDoorP13
import Derived.Test.YtoonnbhoiocoeaaGreatDoorP08
import Derived.Test.YtoonnbhoiocoeaaGreatDoorP32
import Derived.Test.YtoonnbhoiocoeaaGreatDoorP33
import Derived.Test.YtoonnbhoiocoeaaGreatDoorP19
set_option maxHeartbeats 40000000
set_option maxRecDepth 100000
set_option linter.unusedVariables false
namespace Go.Proofs.YtoonnbhoiocoeaaGreatDoor
open Go.RowKit
theorem Cs (m:Nat)(ao:Option Addr)(cap:Nat)(la:Option Addr)(n lc:Nat)(w:World)(h:10<n)(hn:n<=140737488355328):
  Calls Tryz.prog 99 #[.agg #[.slice ao m cap],.slice la n lc] w fun e w'=>e=.returned (.tuple #[.agg #[.slice none 0 0],.int .i64 2])/\Below w.heap.size w w':=by
 have h':(10:Int)<n:=by omega
 go_enter Tryz.func99,Tryz.ntmps99
 go_wp2_with fail
 exact bodyPost_ret (v:=.tuple #[.agg #[.slice none 0 0],.int .i64 2]) (by simp[results,Tryz.results99,go_sem]) rfl ⟨rfl,dG w _ _⟩
theorem dE.onlySl {w:World}{g G:Nat}{l:List Lr}(h:dE w g G l):∃cs,ac w g cs 53/\mg cs:=by
 obtain⟨L,B,hL⟩:=h.blk
 refine⟨_,B,fun v hv=>?_⟩
 rcases List.mem_append.1 hv with hv|hv
 .exact ko l v hv
 .exact⟨_,_,_,hL v hv⟩
theorem Eb (l:List Lr)(ao:Option Addr)(cap:Nat)(L:List En)(la:Option Addr)(lc:Nat)(w:World)(hs:bJ w ao cap l)(hL:aY En.cells w la lc L)(hR:ff (l.map Lr.rw))(h:L.length<=10):
  Calls Tryz.prog 99 #[.agg #[.slice ao 4 cap],.slice la L.length lc] w fun e w'=>
   ∃rs a' G,e=.returned (.tuple #[.agg #[.slice a' rs.length G],.int .i64 (fQ (l.map Lr.rw) L)])/\rs.map Lr.rw=(if fQ (l.map Lr.rw) L=0 then hH (l.map Lr.rw) L else [])/\bJ w' a' G rs/\Below w.heap.size w w':=by
 have h4:l.length=4:=by have:=hR.four;rwa[List.length_map] at this
 obtain⟨E,hE⟩:∃E,E=fQ (l.map Lr.rw) L:=⟨_,rfl⟩
 obtain⟨F,hF⟩:∃F,F=hH (l.map Lr.rw) L:=⟨_,rfl⟩
 rw[<-hE,<-hF]
 obtain⟨Z,hZ⟩:∃Z,Z=if E=0 then F else []:=⟨_,rfl⟩
 rw[<-hZ]
 replace hZ:=hide hZ
 have H0:Hid (E=fQ (l.map Lr.rw) (L.drop 0)):=by rw[List.drop_zero];exact hE
 have H1:Hid (F=hH (l.map Lr.rw) (L.drop 0)):=by rw[List.drop_zero];exact hF
 clear hE hF
 obtain⟨n,hn⟩:∃n,n=L.length:=⟨_,rfl⟩
 rw[<-hn] at h⊢
 have h':¬(10:Int)<n:=by omega
 replace hn:=hide hn
 obtain⟨lb,lo,rfl,-⟩:=hs.where (by intro e;rw[e] at h4;simp at h4)
 have c3:=fun W (hW:aY Lr.cells W (some ⟨lb,lo,none⟩) cap l)=>tw ⟨lb,lo,none⟩ cap (l.flatMap Lr.cells) 4 W hW.row (by rw[ar Lr.two,h4]) (by decide) (by decide)
 have s2:=fun o1 o2=>(hs.sl.alloc o1).alloc o2
 have gl:=hs.good
 replace hR:=hide hR
 replace h4:=hide h4
 clear hs
 go_enter Tryz.func99,Tryz.ntmps99
 go_wp2_with fail
 have BR:=(qM w [.slice (some ⟨lb,lo,none⟩) 4 cap] [.slice none 0 0] 24)
 go_at_call 129
 refine(c3 _ (s2 _ _)).mono ?_
 rintro e w1 ⟨g,G,X,rfl,B1,hX,hG,r7,xX,b1⟩
 have rows:dE w1 g G l:=⟨⟨X,B1,hX⟩,by rw[h4.out];exact hG,r7⟩
 obtain⟨BR,bel⟩:=BR
 replace BR:=BR.keep b1 BR.lt
 replace bel:=aa bel b1
 have GD:∀r∈l,r.Good w1:=fun r hr=>(gl r hr).keep bel (Nat.le_refl _)
 clear b1 s2 c3 B1 hX X gl
 simp only[World.size_alloc] at xX
 replace GD:=hide GD
 have hG4:4<=G:=hG
 go_wp2_with fail
 go_loopw [21] (fun i wr=>∃(k:Nat) (rs:List Lr),k<=n/\i=.int .i64 k/\Hid (E=fQ (rs.map Lr.rw) (L.drop k))/\Hid (F=hH (rs.map Lr.rw) (L.drop k))/\Hid (ff (rs.map Lr.rw))/\dE wr g G rs/\Hid (∀r∈rs,r.Good wr)/\ac wr (w.heap.size+1) [.slice none 0 0] 24/\Below w.heap.size w wr) (fun i _=>n-(intOf i).toNat)
 case atStart=>exact⟨0,l,by omega,rfl,H0,H1,hR,rows,GD,BR,bel⟩
 case round=>
  clear H0 H1 hR rows GD BR bel h4
  obtain⟨k,rs,hk,rfl,H0,H1,hR,rows,gl,BR,bel⟩:=hrel
  by_cases az:k<n
  .have dZ:=hL.keep bel (Nat.le_refl _)
   obtain⟨b,off,rfl,pL⟩:=dZ.where En.three (by decide) (by intro e;rw[hn.out,e] at az;simp at az)
   obtain⟨x,hx⟩:∃x,L[k]? =some x:=⟨_,List.getElem?_eq_getElem (by rw[<-hn.out];exact az)⟩
   have e0:=dZ.cell En.three k 0 x _ hx rfl
   have e1:=dZ.cell En.three k 1 x _ hx rfl
   have e2:=dZ.cell En.three k 2 x _ hx rfl
   simp only[Nat.add_zero] at e0
   have hd:L.drop k=x::L.drop (k+1):=by
    obtain⟨fK,rfl⟩:=List.getElem?_eq_some_iff.1 hx
    exact List.drop_eq_getElem_cons fK
   have aP:=H0.out
   have eY:=H1.out
   rw[hd,fQ] at aP
   rw[hd,hH] at eY
   clear H0 H1 hd hx dZ
   obtain⟨xs,xt,xv⟩:=x
   simp only at*
   have c:=fun W=>cm xs 0 3 W
   cases hi:dw xs 0 3 with
   |false=>
    have hE:E=5:=by rw[aP];unfold fm;rw[if_pos hi];simp
    unfold dw at hi
    rw[hi] at c
    replace hE:=hide hE
    clear aP eY hi
    have lR:=BR.lt
    have fR:=BR.free 0
    have dR:wr.cell? ⟨w.heap.size+1,0,none⟩=some (.slice none 0 0):=BR.cell 0
    go_wp2_with fail
    go_at_call 36
    refine(c _).mono ?_
    rintro e w2 ⟨rfl,rfl⟩
    go_wp2_with fail
    exact bodyPost_ret (v:=.tuple #[.agg #[.slice none 0 0],.int .i64 5]) (by simp[results,Tryz.results99,go_sem,lR,dR]) rfl ⟨[],none,0,by rw[hE.out];rfl,by rw[hZ.out,hE.out];rfl,bJ.ofNil _,av (bel.setCell (Nat.le_succ _) _) _⟩
   |true=>
    obtain⟨s,rfl,XJ⟩:=nX hi
    have l4:rs.length=4:=by have:=hR.out.four;rwa[List.length_map] at this
    obtain⟨r,hr⟩:∃r,rs[s]? =some r:=⟨_,List.getElem?_eq_getElem (by omega)⟩
    have Wu:=gl.out r (List.mem_of_getElem? hr)
    obtain⟨f1,f2⟩:=hR.out.few r.rw (List.mem_map.2 ⟨r,List.mem_of_getElem? hr,rfl⟩)
    obtain⟨q0,q1⟩:=rows.cells s r hr
    have mW:(rs.map Lr.rw).getD s dN=r.rw:=by rw[List.getD,List.getElem?_map,hr];rfl
    have Ah:putRow (rs.map Lr.rw) ⟨s,xt,xv⟩=⟨r.bs.map Lb.b,r.hd++[(xt,xv)]⟩:=by
     unfold putRow
     simp only[Int.toNat_natCast]
     rw[mW]
     rfl
    rw[show fm (rs.map Lr.rw) ⟨s,xt,xv⟩=dV ⟨r.bs.map Lb.b,r.hd++[(xt,xv)]⟩ by unfold fm;rw[hi,if_neg (by decide),Ah],show fV (rs.map Lr.rw) ⟨s,xt,xv⟩=(rs.map Lr.rw).set s ⟨r.bs.map Lb.b,r.hd++[(xt,xv)]⟩ by unfold fV;rw[Ah];rfl] at aP
    rw[show fV (rs.map Lr.rw) ⟨s,xt,xv⟩=(rs.map Lr.rw).set s ⟨r.bs.map Lb.b,r.hd++[(xt,xv)]⟩ by unfold fV;rw[Ah];rfl] at eY
    replace aP:=hide aP
    replace eY:=hide eY
    have CS:dV ⟨r.bs.map Lb.b,r.hd++[(xt,xv)]⟩=0->ff ((rs.map Lr.rw).set s ⟨r.bs.map Lb.b,r.hd++[(xt,xv)]⟩):=by
     intro h0
     have:=hR.out.put (x:=⟨s,xt,xv⟩) (by unfold fm;rw[hi,if_neg (by decide),Ah];exact h0)
     unfold fV at this
     rw[Ah] at this
     exact this
    unfold dw at hi
    rw[hi] at c
    clear hi Ah mW
    obtain⟨bs,ba,bc,hd,ha,hc⟩:=r
    simp only at*
    obtain⟨m,em⟩:∃m,m=hd.length:=⟨_,rfl⟩
    obtain⟨bn,eb⟩:∃bn,bn=bs.length:=⟨_,rfl⟩
    have Vt:bn<=8:=by rw[eb];simpa[Lr.rw] using f1
    have f2':m<=40:=by rw[em];simpa[Lr.rw] using f2
    rw[<-eb] at q0
    rw[<-em] at q1
    replace em:=hide em
    replace eb:=hide eb
    replace hr:=hide hr
    replace l4:=hide l4
    clear f1 f2
    have ZH:(s:Int)<4:=by omega
    have gW:=fun W (hW:Below wr.heap.size wr W)=>Wu.keep hW (Nat.le_refl _)
    clear Wu
    go_wp2_with fail
    go_at_call 36
    refine(c _).mono ?_
    rintro e w2 ⟨rfl,rfl⟩
    clear c
    have X8:=ac.laid wr [.int .i64 s,.int .i64 xt,.int .i64 xv] 75 _ rfl
    have fZ:Below wr.heap.size wr (wr.alloc (.cells #[.int .i64 s,.int .i64 xt,.int .i64 xv] 75)):=(Below.refl _ _).alloc (Nat.le_refl _) _
    have lg:=rows.lt
    generalize Rj:wr.heap.size=g8 at X8⊢
    generalize wr.alloc _=w2 at*
    have a0:=(fZ.cell (p:=⟨g,s*2,none⟩) lg).trans q0
    have a1:=(fZ.cell (p:=⟨g,s*2+1,none⟩) lg).trans q1
    have Zn:g<w2.heap.size:=Nat.lt_of_lt_of_le lg fZ.size
    have x0:w2.cell? ⟨g8,0,none⟩=some (.int .i64 s):=X8.cell 0
    clear q0 q1 e0 e1 e2
    go_wp2_with fail
    have B9:=ac.laid w2 [.slice ba bn bc,.slice ha m hc] 53 _ rfl
    have X9:=X8.alc (.cells #[.slice ba bn bc,.slice ha m hc] 53)
    have fN:=av fZ (.cells #[.slice ba bn bc,.slice ha m hc] 53)
    have h89:g8<w2.heap.size:=X8.lt
    clear X8 fZ a0 a1 Zn x0
    generalize MI:w2.heap.size=g9 at*
    generalize w2.alloc _=w4 at*
    clear MI
    obtain⟨i1,ma,y0,y1,y2⟩:=info_parts Ma
    have q1:w4.cell? ⟨g9,1,none⟩=some (.slice ha m hc):=B9.cell 1
    have x1:w4.cell? ⟨g8,1,none⟩=some (.int .i64 xt):=X9.cell 1
    have x2:w4.cell? ⟨g8,2,none⟩=some (.int .i64 xv):=X9.cell 2
    have fz:w4.frozen? ⟨g9,1,none⟩=false:=B9.free 1
    have l9:=B9.lt
    have l8:=X9.lt
    have cP:∀W,Below w4.heap.size w4 W->Calls Tryz.prog 130 #[.slice ha m hc] W fun e w'=>∃v',e=.returned v'/\w'.ownsRow w4.heap.size 56 2 v' m (am hd)/\Below W.heap.size W w'/\Below w4.heap.size w4 w'/\v'.ownBlock≠some g8/\v'.ownBlock≠some g9/\w'.cell? ⟨g9,1,none⟩=some (.slice ha m hc)/\w'.cell? ⟨g8,1,none⟩=some (.int .i64 xt)/\w'.cell? ⟨g8,2,none⟩=some (.int .i64 xv):=by
     intro W hW
     have gg:=(gW W (fN.trans (hW.mono fN.size))).hd
     refine(PZ ha hc (am hd) m W gg.row (by have:=gg.le;rw[em.out];exact this) gg.nil (by rw[aK,em.out]) (fW hd) (by omega)).mono ?_
     rintro e w' ⟨v',rfl,o',b'⟩
     have o2:=qK o' hW.size
     have bb:=hW.trans (b'.mono hW.size)
     refine⟨v',rfl,o2,b',bb,?_,?_,(B9.keep bb l9).cell 1,(X9.keep bb l8).cell 1,(X9.keep bb l8).cell 2⟩
     .intro e;have:=(o2.lt g8 e).1;omega
     .intro e;have:=(o2.lt g9 e).1;omega
    have fo:∀u∈([.int .i64 xt,.int .i64 xv]:List Value),u.oneCell'=true:=by
     intro u hu
     simp only[List.mem_cons,List.not_mem_nil,or_false] at hu
     rcases hu with rfl|rfl<;>rfl
    have n89:¬g8=g9:=by omega
    have YN:¬g9=g8:=by omega
    have Zm:wr.heap.size<=g9:=by omega
    go_cut [] from 35 to 60 (fun wx=>∃(hg c6:Nat),ac wx g9 [.slice ba bn bc,.slice (some ⟨hg,0,none⟩) (m+1) c6] 53/\wx.ownsRow w4.heap.size 56 2 (.slice (some ⟨hg,0,none⟩) (m+1) c6) (m+1) (am (hd++[(xt,xv)]))/\ac wx g8 [.int .i64 s,.int .i64 xt,.int .i64 xv] 75/\Below wr.heap.size wr wx)
    case first=>
     go_region_law
      (first
       | (refine zL (by rfl) 130 (.tmp 36) 42 (by rfl) (.slice ha m hc) (by rfl) (by go_simp) (cP _ (by first|exact ai (Below.refl _ _)|exact ai (av (Below.refl _ _) _)|exact av (ai (Below.refl _ _)) _)) (by rintro e w' ⟨v',rfl,_⟩;exact⟨_,rfl⟩) ?_;rintro v5 w5 ⟨v5',Xz,dF,b5,mc,n8,n9,z0,z1,z2⟩;obtain rfl:=Ending.returned.inj Xz)
       | ((refine step_append_lies _ (by rfl) (.tmp 37) (.tmp 43) 42 (by rfl) w4.heap.size 56 i1 (.agg #[.int .i64 0,.int .i64 0]) 2 16 Tryz.underlying42 ma y0 y1 y2 rfl (by decide) v5 m _ (by rfl) (dF.alloc _) ⟨w5.heap.size,0,none⟩ 1 1 [.int .i64 xt,.int .i64 xv] (by rfl) (by rfl) (World.news_of_block (cs:=#[.int .i64 xt,.int .i64 xv]) (t:=56) (fr:=(0,0)) (heap_alloc_new w5 _)) fo (by decide) (by unfold maxLen;omega) (by omega) (by simp;exact Nat.le_succ_of_le mc.size) (w5.heap.size+1) (by simp) ?_;intro g6 c6 w6 ft du L7 LZ;have ew:=aH (av mc _) (dF.alloc _) du (Nat.le_refl _) (av mc _).size;have u1:=(ew.cell (p:=⟨g9,1,none⟩) l9).trans q1;have v1:=(ew.cell (p:=⟨g8,1,none⟩) l8).trans x1;have v2:=(ew.cell (p:=⟨g8,2,none⟩) l8).trans x2;have Zj:=(ew.frozen (p:=⟨g9,1,none⟩) l9).trans fz))
       | ((refine step_append_lies _ (by rfl) (.tmp 37) (.tmp 43) 42 (by rfl) w4.heap.size 56 i1 (.agg #[.int .i64 0,.int .i64 0]) 2 16 Tryz.underlying42 ma y0 y1 y2 rfl (by decide) v5 m _ (by rfl) dF ⟨w4.heap.size,0,none⟩ 1 1 [.int .i64 xt,.int .i64 xv] (by rfl) (by rfl) (World.news_of_block (cs:=#[.int .i64 xt,.int .i64 xv]) (t:=56) (fr:=(0,0)) ((b5.block w4.heap.size (by simp)).trans (heap_alloc_new w4 _))) fo (by decide) (by unfold maxLen;omega) (by omega) mc.size w5.heap.size rfl ?_;intro g6 c6 w6 ft du L7 LZ;have ew:=aH mc dF du (Nat.le_refl _) mc.size;have u1:=(ew.cell (p:=⟨g9,1,none⟩) l9).trans q1;have v1:=(ew.cell (p:=⟨g8,1,none⟩) l8).trans x1;have v2:=(ew.cell (p:=⟨g8,2,none⟩) l8).trans x2;have Zj:=(ew.frozen (p:=⟨g9,1,none⟩) l9).trans fz)))
     all_goals(
      go_wp2_with fail
      go_meet
      case rel=>
       have hx6:=(ft.lt g6 rfl).1
       have o7:=ft.kept (row:=some g9) (ak (au w6 (some g9)) 1 (.slice (some ⟨g6,0,none⟩) (m+1) c6)) (.inr (fun e=>by have:g6=g9:=Option.some.inj e;omega))
       rw[show am hd++[.int .i64 xt,.int .i64 xv]=am (hd++[(xt,xv)]) by rw[cq];rfl] at o7
       exact⟨g6,c6,(B9.keep ew l9).set 1 _,o7,(X9.keep ew l8).other 1 _ YN,(fN.trans (ew.mono fN.size)).setCell Zm _⟩)
    case rest=>
     obtain⟨hg,c6,B9,lH,X9,sO⟩:=hcut
     have qF:(hd++[(xt,xv)]).length=m+1:=by rw[List.length_append,<-em.out];rfl
     have IP:Lr.Good wc ⟨bs,ba,bc,hd++[(xt,xv)],some ⟨hg,0,none⟩,c6⟩:=by
      obtain⟨a3,G3,e3,s3,_,_⟩:=aI.ofOwn lH
      simp only[Value.slice.injEq,true_and] at e3
      obtain⟨rfl,rfl⟩:=e3
      have g0:=gW wc sO
      exact⟨g0.bs,s3,g0.few,by simp only[qF];omega⟩
     have c5:=fun W h=>qd ⟨bs,ba,bc,hd++[(xt,xv)],some ⟨hg,0,none⟩,c6⟩ W h
     obtain⟨RE,om⟩:∃RE,RE=dV ⟨bs.map Lb.b,hd++[(xt,xv)]⟩:=⟨_,rfl⟩
     rw[show Lr.rw ⟨bs,ba,bc,hd++[(xt,xv)],some ⟨hg,0,none⟩,c6⟩=⟨bs.map Lb.b,hd++[(xt,xv)]⟩ from rfl,<-om] at c5
     generalize og ⟨bs.map Lb.b,hd++[(xt,xv)]⟩=RL at c5
     unfold Lr.v at c5
     simp only[qF] at c5
     rw[<-eb.out] at c5
     have rC:=aP.out
     rw[<-om] at rC CS
     have GU:=rows.keep sO rows.lt
     have DM:=BR.keep sO BR.lt
     have al:Below w.heap.size w wc:=bel.trans (sO.mono bel.size)
     have OH:∀r∈rs,r.Good wc:=fun r hr=>(gl.out r hr).keep sO (Nat.le_refl _)
     replace qF:=hide qF
     replace om:=hide om
     replace OH:=hide OH
     have k0:wc.cell? ⟨g9,0,none⟩=some (.slice ba bn bc):=B9.cell 0
     have k1:wc.cell? ⟨g9,1,none⟩=some (.slice (some ⟨hg,0,none⟩) (m+1) c6):=B9.cell 1
     clear gW cP lH fo q1 x1 x2 fz l8 l9 gl rows BR bel aP
     by_cases h0:RE=0
     .rw[if_pos h0] at rC
      replace rC:=hide rC
      have R2:=hide (CS h0)
      clear CS
      subst h0
      go_wp2_with fail
      go_at_call 20
      refine(c5 _ IP).mono ?_
      rintro e w7 ⟨a7,G7,rfl,s7,b7⟩
      have B7:=B9.keep b7 B9.lt
      have X7:=X9.keep b7 X9.lt
      have uI:=GU.keep b7 GU.lt
      have Mi:=DM.keep b7 DM.lt
      have k7:=aa al b7
      have g7:=IP.call b7
      have Vq:∀r∈rs,r.Good w7:=fun r hr=>(OH.out r hr).call b7
      clear k0 k1 c5 b7 B9 X9 GU DM al IP OH s7
      have k0:w7.cell? ⟨g9,0,none⟩=some (.slice ba bn bc):=B7.cell 0
      have k1:w7.cell? ⟨g9,1,none⟩=some (.slice (some ⟨hg,0,none⟩) (m+1) c6):=B7.cell 1
      have k2:w7.cell? ⟨g8,0,none⟩=some (.int .i64 s):=X7.cell 0
      have l7:=uI.lt
      have L5:=uI.free (s*2)
      have Ij:=uI.free (s*2+1)
      obtain⟨j0,j1⟩:=uI.cells s _ hr.out
      have P7:=uI.put s (by rw[l4.out];exact XJ) ⟨bs,ba,bc,hd++[(xt,xv)],some ⟨hg,0,none⟩,c6⟩
      simp only[qF.out,<-eb.out] at P7 j0 j1
      obtain⟨cs,QR,SO⟩:=uI.onlySl
      have grow:=ak (ak (au w7 (some g)) (s*2) (.slice ba bn bc)) (s*2+1) (.slice (some ⟨hg,0,none⟩) (m+1) c6)
      have G8:∀r∈rs.set s ⟨bs,ba,bc,hd++[(xt,xv)],some ⟨hg,0,none⟩,c6⟩,r.Good ((w7.setCell ⟨g,s*2,none⟩ (.slice ba bn bc)).setCell ⟨g,s*2+1,none⟩ (.slice (some ⟨hg,0,none⟩) (m+1) c6)):=by
       intro r hr
       rcases List.mem_or_eq_of_mem_set hr with hr|rfl
       .exact(Vq r hr).offSl grow QR SO
       .exact g7.offSl grow QR SO
      have Zx:=(Mi.other (s*2) (.slice ba bn bc) (show g≠w.heap.size+1 by omega)).other (s*2+1) (.slice (some ⟨hg,0,none⟩) (m+1) c6) (show g≠w.heap.size+1 by omega)
      have UL:w.heap.size<=g:=by omega
      have LO:=(k7.setCell (p:=⟨g,s*2,none⟩) UL (.slice ba bn bc)).setCell (p:=⟨g,s*2+1,none⟩) UL (.slice (some ⟨hg,0,none⟩) (m+1) c6)
      have xp:(rs.set s ⟨bs,ba,bc,hd++[(xt,xv)],some ⟨hg,0,none⟩,c6⟩).map Lr.rw=(rs.map Lr.rw).set s ⟨bs.map Lb.b,hd++[(xt,xv)]⟩:=by rw[List.map_set];rfl
      replace G8:=hide G8
      replace xp:=hide xp
      clear Vq g7 QR SO grow
      go_wp2_with fail
      go_roundw
      case rel=>exact⟨k+1,_,by omega,by go_num,by rw[xp.out];exact rC,by rw[xp.out];exact eY,by rw[xp.out];exact R2,P7,G8,Zx,LO⟩
      case measure=>simp[intOf];omega
     .rw[if_neg h0] at rC
      replace rC:=hide rC
      clear CS
      go_wp2_with fail
      go_at_call 20
      refine(c5 _ IP).mono ?_
      rintro e w7 ⟨a7,G7,rfl,s7,b7⟩
      have Mi:=DM.keep b7 DM.lt
      have k7:=aa al b7
      have lR:=Mi.lt
      have fR:=Mi.free 0
      have dR:w7.cell? ⟨w.heap.size+1,0,none⟩=some (.slice none 0 0):=Mi.cell 0
      clear k0 k1 c5 b7
      go_wp2_with fail
      exact bodyPost_ret (v:=.tuple #[.agg #[.slice none 0 0],.int .i64 RE]) (by simp[results,Tryz.results99,go_sem,dR]) rfl ⟨[],none,0,by rw[rC.out];rfl,by rw[hZ.out,rC.out,if_neg h0];rfl,bJ.ofNil _,k7.setCell (Nat.le_succ _) _⟩
  .obtain rfl:k=n:=by omega
   have aP:=H0.out
   have eY:=H1.out
   rw[hn.out,List.drop_length] at aP eY
   rw[fQ] at aP
   rw[hH] at eY
   have l4:rs.length=4:=by have:=hR.out.four;rwa[List.length_map] at this
   have lR:=BR.lt
   have fR:=BR.free 0
   have dR:wr.cell? ⟨w.heap.size+1,0,none⟩=some (.slice none 0 0):=BR.cell 0
   have grow:=ak (au wr (some (w.heap.size+1))) 0 (.slice (some ⟨g,0,none⟩) 4 G)
   have S9:=(rows.other (w.heap.size+1) 0 (.slice (some ⟨g,0,none⟩) 4 G) (by omega)).slr (fun r hr=>(gl.out r hr).offSl grow BR (ik _ _ _))
   have b9:=bel.setCell (p:=⟨w.heap.size+1,0,none⟩) (Nat.le_succ w.heap.size) (.slice (some ⟨g,0,none⟩) 4 G)
   replace aP:=hide aP
   replace eY:=hide eY
   replace l4:=hide l4
   clear H0 H1 grow gl hR
   go_wp2_with fail
   exact bodyPost_ret (v:=.tuple #[.agg #[.slice (some ⟨g,0,none⟩) 4 G],.int .i64 0]) (by simp[results,Tryz.results99,go_sem,dR]) rfl ⟨rs,_,_,by rw[aP.out,l4.out],by rw[hZ.out,aP.out,eY.out];rfl,S9,b9⟩
theorem Eu (l:List Lr)(ao:Option Addr)(cap:Nat)(L:List En)(la:Option Addr)(lc:Nat)(w:World)(hs:bJ w ao cap l)(hL:aY En.cells w la lc L)(few:L.length<=140737488355328)(hR:ff (l.map Lr.rw)):
  Calls Tryz.prog 99 #[.agg #[.slice ao l.length cap],.slice la L.length lc] w fun e w'=>
   ∃rs a' G,e=.returned (.tuple #[.agg #[.slice a' rs.length G],.int .i64 (fG (l.map Lr.rw) L)])/\rs.map Lr.rw=iH (l.map Lr.rw) L/\bJ w' a' G rs/\Below w.heap.size w w':=by
 have h4:l.length=4:=by have:=hR.four;rwa[List.length_map] at this
 by_cases h:10<L.length
 .have e:fG (l.map Lr.rw) L=2:=by unfold fG;rw[if_pos h]
  refine(Cs l.length ao cap la L.length lc w h few).mono ?_
  rintro _ w' ⟨rfl,b⟩
  exact⟨[],none,0,by rw[e];rfl,by unfold iH;rw[e];rfl,bJ.ofNil _,b⟩
 .have e:fG (l.map Lr.rw) L=fQ (l.map Lr.rw) L:=by unfold fG;rw[if_neg h]
  unfold iH
  rw[e,h4]
  exact Eb l ao cap L la lc w hs hL hR (by omega)
end Go.Proofs.YtoonnbhoiocoeaaGreatDoor
