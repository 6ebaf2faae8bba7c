/-
  shelf.copyOf: a shelf in memory of the call's own, list by list.
-/
import Derived.Deep.RegionWith
import Derived.Test.YtoonnbhoiocoeaaGreatDoorP13
import Derived.Test.YtoonnbhoiocoeaaGreatDoorP11
set_option maxHeartbeats 40000000
set_option maxRecDepth 100000
set_option linter.unusedVariables false
namespace Go.Proofs.YtoonnbhoiocoeaaGreatDoor
open Go.RowKit
theorem Lr.cells_one (r:Lr):∀v∈r.cells,v.oneCell'=true:=by
 intro v hv
 simp only[Lr.cells,List.mem_cons,List.not_mem_nil,or_false] at hv
 rcases hv with rfl|rfl<;>rfl
theorem Lb.cells_one (r:Lb):∀v∈r.cells,v.oneCell'=true:=by
 intro v hv
 simp only[Lb.cells,List.mem_cons,List.not_mem_nil,or_false] at hv
 rcases hv with rfl|rfl|rfl|rfl<;>rfl
theorem Aq {α:Type}{f:α->List Value}(h:∀x,∀v∈f x,v.oneCell'=true)(l:List α):∀v∈l.flatMap f,v.oneCell'=true:=by
 intro v hv
 obtain⟨r,_,hr⟩:=List.mem_flatMap.1 hv
 exact h r v hr
theorem OL (l:List Lr)(ao:Option Addr)(cap:Nat)(w:World)(h:bJ w ao cap l)(few:l.length<=1000000000000):
  Calls Tryz.prog 210 #[.slice ao l.length cap] w fun e w'=>∃g,e=.returned (.slice (some ⟨g,0,none⟩) l.length l.length)/\ac w' g (l.flatMap Lr.cells) 53/\w.heap.size<=g/\Below w.heap.size w w':=
 Sa ao cap _ _ w h.sl.row h.sl.le h.sl.nil (ar Lr.two l) (Aq Lr.cells_one l) few
theorem Ol (l:List Lb)(ao:Option Addr)(cap:Nat)(w:World)(h:pj w ao cap l)(few:l.length<=1000000000000):
  Calls Tryz.prog 211 #[.slice ao l.length cap] w fun e w'=>∃g,e=.returned (.slice (some ⟨g,0,none⟩) l.length l.length)/\ac w' g (l.flatMap Lb.cells) 107/\w.heap.size<=g/\Below w.heap.size w w':=
 Rs ao cap _ _ w h.sl.row h.sl.le h.sl.nil (ar Lb.four l) (Aq Lb.cells_one l) few
theorem Pe (l:List Pt)(ao:Option Addr)(cap:Nat)(w:World)(h:aI w ao cap l)(few:l.length<=1000000000000):
  Calls Tryz.prog 212 #[.slice ao l.length cap] w fun e w'=>∃g,e=.returned (.slice (some ⟨g,0,none⟩) l.length l.length)/\ac w' g (am l) 56/\w.heap.size<=g/\Below w.heap.size w w':=
 QX ao cap _ _ w h.row h.le h.nil (aK l) (fW l) few
theorem Qe (l:List Bool)(ao:Option Addr)(cap:Nat)(w:World)(h:Sl w ao cap (l.map Value.bool))(few:l.length<=140737488355328):
  Calls Tryz.prog 213 #[.slice ao l.length cap] w fun e w'=>∃g,e=.returned (.slice (some ⟨g,0,none⟩) l.length l.length)/\ac w' g (l.map Value.bool) 4/\w.heap.size<=g/\Below w.heap.size w w':=
 Q1 ao cap _ _ w h.row (by have:=h.le;rw[List.length_map] at this;exact this) h.nil (by rw[List.length_map,Nat.mul_one]) (fun v hv=>by obtain⟨b,_,rfl⟩:=List.mem_map.1 hv;rfl) few
theorem qD (l:List Lr)(ao:Option Addr)(cap:Nat)(w:World)(hs:bJ w ao cap l)(h4:l.length=4)(few:∀r∈l,r.bs.length<=8/\r.hd.length<=40):
  Calls Tryz.prog 181 #[.agg #[.slice ao 4 cap]] w fun e w'=>∃g rs,e=.returned (.agg #[.slice (some ⟨g,0,none⟩) 4 4])/\rs.map Lr.rw=l.map Lr.rw/\ol w' w.heap.size g rs/\Below w.heap.size w w':=by
 have c0:=fun W h=>OL l ao cap W h (by omega)
 rw[h4] at c0
 replace h4:=hide h4
 go_enter Tryz.func181,Tryz.ntmps181
 go_wp2_with fail
 have R0:=ac.laid (w.alloc (.cells #[.slice ao 4 cap] 24)) [.slice none 0 0] 24 (w.heap.size+1) (by simp)
 have de:=dG w (.cells #[.slice ao 4 cap] 24) (.cells #[.slice none 0 0] 24)
 have iJ:=(hs.alloc (.cells #[.slice ao 4 cap] 24)).alloc (.cells #[.slice none 0 0] 24)
 generalize(w.alloc _).alloc _=w1 at*
 go_at_call 210
 refine(c0 _ iJ).mono ?_
 rintro e w2 ⟨g,rfl,BG,We,b2⟩
 have al:=aa de b2
 have R2:=R0.keep b2 R0.lt
 have hg:w.heap.size<=g:=Nat.le_trans de.size We
 clear b2 R0 de iJ We c0
 go_wp2_with fail
 have O3:=ac.laid w2 [.slice (some ⟨g,0,none⟩) 4 4] 24 _ rfl
 have Wm:=BG.alc (.cells #[.slice (some ⟨g,0,none⟩) 4 4] 24)
 have R3:=R2.alc (.cells #[.slice (some ⟨g,0,none⟩) 4 4] 24)
 have ay:=av al (.cells #[.slice (some ⟨g,0,none⟩) 4 4] 24)
 have ho1:=BG.lt
 have ho2:=R2.lt
 have mU:g≠w.heap.size+1:=by
  rintro rfl
  exact absurd (bY BG R2) (by decide)
 clear BG R2 al
 generalize w2.alloc _=w3 at*
 generalize w2.heap.size=o at*
 go_loopw [14] (fun i wr=>∃(k:Nat) (dn:List Lr),k<=4/\i=.int .i64 k/\Hid (dn.length=k)/\Hid (dn.map Lr.rw=(l.take k).map Lr.rw)/\ac wr g ((dn++l.drop k).flatMap Lr.cells) 53/\(∀r∈dn,gT wr w.heap.size r)/\ApartL dn/\
   ac wr (w.heap.size+1) [.slice none 0 0] 24/\ac wr o [.slice (some ⟨g,0,none⟩) 4 4] 24/\Below w.heap.size w wr) (fun i _=>4-(intOf i).toNat)
 case atStart=>exact⟨0,[],by omega,rfl,rfl,rfl,by simpa using Wm,fun r hr=>by simp at hr,fun i j r q _ h _=>by simp at h,R3,O3,ay⟩
 case round=>
  clear Wm R3 O3 ay
  obtain⟨k,dn,hk,rfl,dp,mW,BG,own,ap,R,O,bel⟩:=hrel
  have d0:wr.cell? ⟨o,0,none⟩=some (.slice (some ⟨g,0,none⟩) 4 4):=O.cell 0
  by_cases az:k<4
  .obtain⟨x,hx⟩:∃x,l[k]? =some x:=⟨_,List.getElem?_eq_getElem (by rw[h4.out];exact az)⟩
   have sK:(dn++l.drop k)[k]? =some x:=by
    rw[List.getElem?_append_right (by rw[dp.out];exact Nat.le_refl _),dp.out,Nat.sub_self,List.getElem?_drop,Nat.add_zero]
    exact hx
   have gx:=(hs.good x (List.mem_of_getElem? hx)).keep bel (Nat.le_refl _)
   have fx:=few x (List.mem_of_getElem? hx)
   have cB:=fun W h=>Ol x.bs x.ba x.bc W h (by omega)
   have cP:=fun W h=>Pe x.hd x.ha x.hc W h (by omega)
   obtain⟨bs,ba,bc,hd,ha,hc⟩:=x
   simp only at*
   have e0:wr.cell? ⟨g,k*2,none⟩=some (.slice ba bs.length bc):=by rw[BG.cell];exact flat_get Lr.two _ k 0 _ sK (by decide)
   have e1:wr.cell? ⟨g,k*2+1,none⟩=some (.slice ha hd.length hc):=by rw[BG.cell];exact flat_get Lr.two _ k 1 _ sK (by decide)
   have f0:=BG.free (k*2)
   have f1:=BG.free (k*2+1)
   obtain⟨n,hn⟩:∃n,n=bs.length:=⟨_,rfl⟩
   obtain⟨m,hm⟩:∃m,m=hd.length:=⟨_,rfl⟩
   rw[<-hn] at cB e0 fx
   rw[<-hm] at cP e1 fx
   replace hn:=hide hn
   replace hm:=hide hm
   have bD:=ai (Below.refl wr.heap.size wr)
   have gD:=gx.keep bD (Nat.le_refl _)
   have Rl:ac wr.drew g ((dn++l.drop k).flatMap Lr.cells) 53:=BG
   clear bD gx
   replace gD:=hide gD
   replace own:=hide own
   replace ap:=hide ap
   replace hx:=hide hx
   replace sK:=hide sK
   clear few hs
   go_wp2_with fail
   go_region_with (first
    | (go_at_call 211;refine(cB _ ?_).mono ?_;exact gD.out.bs;rintro e w4 ⟨gB,rfl,BB,U5,b4⟩;have Lo:=Rl.keep b4 Rl.lt;have XS:w4.cell? ⟨g,k*2,none⟩=some (.slice ba n bc):=by {rw[Lo.cell,<-BG.cell];exact e0};have XI:w4.cell? ⟨g,k*2+1,none⟩=some (.slice ha m hc):=by {rw[Lo.cell,<-BG.cell];exact e1};have Wy:=hide (gD.out.hd.call b4))
    | (go_at_call 212;refine(cP _ ?_).mono ?_;exact Wy.out;rintro e w5 ⟨gP,rfl,BP,Wh,b5⟩;have wM:=Lo.keep b5 Lo.lt;have Xu:w5.cell? ⟨g,k*2,none⟩=some (.slice ba n bc):=by {rw[wM.cell,<-BG.cell];exact e0};have Zd:w5.cell? ⟨g,k*2+1,none⟩=some (.slice ha m hc):=by {rw[wM.cell,<-BG.cell];exact e1};have Xi:=wM.free (k*2);have f15:=wM.free (k*2+1)))
   all_goals(
    have M:=Mid.start dp.out hx.out hn.out hm.out BG own.out R O gD.out bel hg BB U5 b4 BP Wh b5
    clear e0 e1 f0 f1 Rl XS XI Xu Zd Xi f15 cB cP gD Lo wM BB BP Wy BG own R O d0 bel b4 b5 U5 Wh
    simp only at M
    rename World=>w5
    generalize(World.setCell _ _ _).setCell _ _=w6 at*
    have c0:w6.cell? ⟨g,k*2,none⟩=some (.slice (some ⟨gB,0,none⟩) n n):=by rw[M.cells dp.out,<-hn.out]
    replace M:=hide M
    go_wp2_with fail
    go_loopw [42] (fun i wq=>∃(j:Nat) (bl:List Lb),j<=n/\i=.int .i64 j/\Hid (bl.length=n)/\Hid (bl.map Lb.b=bs.map Lb.b)/\Hid (Mid w wq g o gB gP j dn (l.drop (k+1)) bl hd)) (fun i _=>n-(intOf i).toNat)
    case atStart=>exact⟨0,bs,by omega,rfl,hn.out.symm,rfl,M⟩
    case round=>
     clear M c0
     obtain⟨j,bl,hj,rfl,ri,O7,M⟩:=hrel
     have c0:wr.cell? ⟨g,k*2,none⟩=some (.slice (some ⟨gB,0,none⟩) n n):=by rw[M.out.cells dp.out,ri.out]
     by_cases Kr:j<n
     .obtain⟨x,Kk⟩:∃x,bl[j]? =some x:=⟨_,List.getElem?_eq_getElem (by rw[ri.out];exact Kr)⟩
      have gx:=(M.out.good j x Kk).1
      have cO:=fun W h=>Qe x.b.bits x.a x.c W h gx.few
      have c3:wr.cell? ⟨gB,j*4+3,none⟩=some (.slice x.a x.b.bits.length x.c):=by rw[M.out.bs.cell];exact flat_get Lb.four _ j 3 _ Kk (by decide)
      have gD:Hid (Sl wr.drew x.a x.c (x.b.bits.map Value.bool)):=gx.bits.keep (ai (Below.refl wr.heap.size wr)) (Nat.le_refl _)
      obtain⟨q,hq⟩:∃q,q=x.b.bits.length:=⟨_,rfl⟩
      rw[<-hq] at cO c3
      replace hq:=hide hq
      replace Kk:=hide Kk
      have M1:=hide M.out.drew
      clear gx
      have VM:j<8:=by omega
      go_wp2_with fail
      go_region_with (first
       | (go_at_call 213;refine(cO _ ?_).mono ?_;exact gD.out;rintro e w7 ⟨gO,rfl,BO,Xj,b7⟩;have M7:=M1.out.call b7;have XQ:w7.cell? ⟨g,k*2,none⟩=some (.slice (some ⟨gB,0,none⟩) n n):=by {rw[M7.cells dp.out,ri.out]};have c37:w7.cell? ⟨gB,j*4+3,none⟩=some (.slice x.a q x.c):=by {rw[M7.bs.cell,<-M.out.bs.cell];exact c3};have f37:=M7.bs.free (j*4+3);clear M7))
      all_goals(
       have M8:=M1.out.step Kk.out hq.out BO b7
       clear c0 c3 XQ c37 f37 cO gD BO Xj b7 M M1
       generalize World.setCell _ _ _=w8 at*
       replace M8:=hide M8
       go_wp2_with fail
       go_roundw
       case rel=>exact⟨j+1,_,by omega,by go_num,by rw[List.length_set];exact ri.out,hide ((HJ Kk.out _ _).trans O7.out),M8⟩
       case measure=>simp[intOf];omega)
     .obtain rfl:j=n:=by omega
      go_wp2_with fail
      obtain⟨y,y1,y2,y3,y4,y5⟩:=M.out.done (by rw[ri.out];exact Nat.le_refl _) dp.out mW.out hx.out O7.out rfl (by rw[<-hm.out];omega) ap.out
      have R9:=M.out.res
      have O9:=M.out.out
      have aq:=M.out.bel
      go_roundw
      case rel=>exact⟨k+1,dn++[y],by omega,by go_num,y1,y2,y3,y4,y5,R9,O9,aq⟩
      case measure=>simp[intOf];omega)
  .obtain rfl:k=4:=by omega
   have rj:l.drop 4=[]:=List.drop_eq_nil_of_le (by rw[h4.out];exact Nat.le_refl _)
   rw[rj,List.append_nil] at BG
   rw[List.take_of_length_le (by rw[h4.out];exact Nat.le_refl _)] at mW
   have r0:wr.cell? ⟨w.heap.size+1,0,none⟩=some (.slice none 0 0):=R.cell 0
   have r1:=R.free 0
   have grow:wr.grownBy (wr.setCell ⟨w.heap.size+1,0,none⟩ (.slice (some ⟨g,0,none⟩) 4 4)) (some (w.heap.size+1)):=ak (au wr _) _ _
   have G9:ol (wr.setCell ⟨w.heap.size+1,0,none⟩ (.slice (some ⟨g,0,none⟩) 4 4)) w.heap.size g dn:=
    ⟨BG.grown grow (fun j e=>by obtain rfl:=Option.some.inj e;exact fun e=>mU e.symm),hg,fun r hr=>(own r hr).wrote grow R (by decide) ((own r hr).notB R (by decide)) ((own r hr).notH R (by decide)),ap⟩
   have aq:=bel.setCell (p:=⟨w.heap.size+1,0,none⟩) (Nat.le_succ _) (.slice (some ⟨g,0,none⟩) 4 4)
   replace G9:=hide G9
   clear own ap BG few hs
   go_wp2_with fail
   exact bodyPost_ret (v:=.agg #[.slice (some ⟨g,0,none⟩) 4 4]) (by simp[results,Tryz.results181,go_sem,r0]) rfl ⟨g,dn,rfl,mW.out,G9.out,aq⟩
end Go.Proofs.YtoonnbhoiocoeaaGreatDoor
