/-
  shelf.copyOf: a shelf in memory of the call's own, list by list.
-/
import Derived.Deep.RegionWith
import Derived.Test.YtoonnbhoiocoeaaGreatDoorQ13
set_option maxHeartbeats 40000000
set_option maxRecDepth 100000
set_option linter.unusedVariables false
namespace Go.Proofs.YtoonnbhoiocoeaaGreatDoor
open Go.RowKit
theorem Lr.cells_one (r:Lr):∀v∈r.cells,v.oneCell'=true:=by
 intro v hv
 simp only[Lr.cells,List.mem_cons,List.not_mem_nil,or_false] at hv
 rcases hv with rfl|rfl<;>rfl
theorem Lb.cells_one (r:Lb):∀v∈r.cells,v.oneCell'=true:=by
 intro v hv
 simp only[Lb.cells,List.mem_cons,List.not_mem_nil,or_false] at hv
 rcases hv with rfl|rfl|rfl|rfl<;>rfl
theorem AW {α:Type}{f:α->List Value}(h:∀x,∀v∈f x,v.oneCell'=true)(l:List α):∀v∈l.flatMap f,v.oneCell'=true:=by
 intro v hv
 obtain⟨r,_,hr⟩:=List.mem_flatMap.1 hv
 exact h r v hr
theorem Pn (l:List Lr)(ao:Option Addr)(cap:Nat)(w:World)(h:bL w ao cap l)(few:l.length<=1000000000000):
  Calls Tryz.prog 210 #[.slice ao l.length cap] w fun e w'=>∃g,e=.returned (.slice (some ⟨g,0,none⟩) l.length l.length)/\ag w' g (l.flatMap Lr.cells) 53/\w.heap.size<=g/\Below w.heap.size w w':=
 Ua ao cap _ _ w h.sl.row h.sl.le h.sl.nil (av Lr.two l) (AW Lr.cells_one l) few
theorem Qg (l:List Lb)(ao:Option Addr)(cap:Nat)(w:World)(h:pB w ao cap l)(few:l.length<=1000000000000):
  Calls Tryz.prog 211 #[.slice ao l.length cap] w fun e w'=>∃g,e=.returned (.slice (some ⟨g,0,none⟩) l.length l.length)/\ag w' g (l.flatMap Lb.cells) 107/\w.heap.size<=g/\Below w.heap.size w w':=
 Sk ao cap _ _ w h.sl.row h.sl.le h.sl.nil (av Lb.four l) (AW Lb.cells_one l) few
theorem Ph (l:List Pt)(ao:Option Addr)(cap:Nat)(w:World)(h:aV w ao cap l)(few:l.length<=1000000000000):
  Calls Tryz.prog 212 #[.slice ao l.length cap] w fun e w'=>∃g,e=.returned (.slice (some ⟨g,0,none⟩) l.length l.length)/\ag w' g (ar l) 56/\w.heap.size<=g/\Below w.heap.size w w':=
 UD ao cap _ _ w h.row h.le h.nil (aI l) (fU l) few
theorem QA (l:List Bool)(ao:Option Addr)(cap:Nat)(w:World)(h:Sl w ao cap (l.map Value.bool))(few:l.length<=140737488355328):
  Calls Tryz.prog 213 #[.slice ao l.length cap] w fun e w'=>∃g,e=.returned (.slice (some ⟨g,0,none⟩) l.length l.length)/\ag w' g (l.map Value.bool) 4/\w.heap.size<=g/\Below w.heap.size w w':=
 TZ ao cap _ _ w h.row (by have:=h.le;rw[List.length_map] at this;exact this) h.nil (by rw[List.length_map,Nat.mul_one]) (fun v hv=>by obtain⟨b,_,rfl⟩:=List.mem_map.1 hv;rfl) few
theorem p7 (l:List Lr)(ao:Option Addr)(cap:Nat)(w:World)(hs:bL w ao cap l)(h4:l.length=4)(few:∀r∈l,r.bs.length<=8/\r.hd.length<=40):
  Calls Tryz.prog 181 #[.agg #[.slice ao 4 cap]] w fun e w'=>∃g rs,e=.returned (.agg #[.slice (some ⟨g,0,none⟩) 4 4])/\rs.map Lr.rw=l.map Lr.rw/\oD w' w.heap.size g rs/\Below w.heap.size w w':=by
 have c0:=fun W h=>Pn l ao cap W h (by omega)
 rw[h4] at c0
 replace h4:=aa h4
 go_enter Tryz.func181,Tryz.ntmps181
 go_wp2_with fail
 have R0:=ag.laid (w.alloc (.cells #[.slice ao 4 cap] 24)) [.slice none 0 0] 24 (w.heap.size+1) (by simp)
 have cq:=dN w (.cells #[.slice ao 4 cap] 24) (.cells #[.slice none 0 0] 24)
 have jq:=(hs.alloc (.cells #[.slice ao 4 cap] 24)).alloc (.cells #[.slice none 0 0] 24)
 generalize(w.alloc _).alloc _=w1 at*
 go_at_call 210
 refine(c0 _ jq).mono ?_
 rintro e w2 ⟨g,rfl,BG,Xp,b2⟩
 have am:=ac cq b2
 have R2:=R0.keep b2 R0.lt
 have hg:w.heap.size<=g:=Nat.le_trans cq.size Xp
 clear b2 R0 cq jq Xp c0
 go_wp2_with fail
 have O3:=ag.laid w2 [.slice (some ⟨g,0,none⟩) 4 4] 24 _ rfl
 have VC:=BG.alc (.cells #[.slice (some ⟨g,0,none⟩) 4 4] 24)
 have R3:=R2.alc (.cells #[.slice (some ⟨g,0,none⟩) 4 4] 24)
 have aC:=ax am (.cells #[.slice (some ⟨g,0,none⟩) 4 4] 24)
 have ho1:=BG.lt
 have ho2:=R2.lt
 have ip:g≠w.heap.size+1:=by
  rintro rfl
  exact absurd (bV BG R2) (by decide)
 clear BG R2 am
 generalize w2.alloc _=w3 at*
 generalize w2.heap.size=o at*
 go_loopw [14] (fun i wr=>∃(k:Nat) (dn:List Lr),k<=4/\i=.int .i64 k/\Hid (dn.length=k)/\Hid (dn.map Lr.rw=(l.take k).map Lr.rw)/\ag wr g ((dn++l.drop k).flatMap Lr.cells) 53/\(∀r∈dn,hH wr w.heap.size r)/\ApartL dn/\
   ag wr (w.heap.size+1) [.slice none 0 0] 24/\ag wr o [.slice (some ⟨g,0,none⟩) 4 4] 24/\Below w.heap.size w wr) (fun i _=>4-(intOf i).toNat)
 case atStart=>exact⟨0,[],by omega,rfl,rfl,rfl,by simpa using VC,fun r hr=>by simp at hr,fun i j r q _ h _=>by simp at h,R3,O3,aC⟩
 case round=>
  clear VC R3 O3 aC
  obtain⟨k,dn,hk,rfl,ck,m8,BG,own,ap,R,O,bel⟩:=hrel
  have d0:wr.cell? ⟨o,0,none⟩=some (.slice (some ⟨g,0,none⟩) 4 4):=O.cell 0
  by_cases aE:k<4
  .obtain⟨x,hx⟩:∃x,l[k]? =some x:=⟨_,List.getElem?_eq_getElem (by rw[h4.out];exact aE)⟩
   have ui:(dn++l.drop k)[k]? =some x:=by
    rw[List.getElem?_append_right (by rw[ck.out];exact Nat.le_refl _),ck.out,Nat.sub_self,List.getElem?_drop,Nat.add_zero]
    exact hx
   have gx:=(hs.good x (List.mem_of_getElem? hx)).keep bel (Nat.le_refl _)
   have fx:=few x (List.mem_of_getElem? hx)
   have cB:=fun W h=>Qg x.bs x.ba x.bc W h (by omega)
   have cP:=fun W h=>Ph x.hd x.ha x.hc W h (by omega)
   obtain⟨bs,ba,bc,hd,ha,hc⟩:=x
   simp only at*
   have e0:wr.cell? ⟨g,k*2,none⟩=some (.slice ba bs.length bc):=by rw[BG.cell];exact flat_get Lr.two _ k 0 _ ui (by decide)
   have e1:wr.cell? ⟨g,k*2+1,none⟩=some (.slice ha hd.length hc):=by rw[BG.cell];exact flat_get Lr.two _ k 1 _ ui (by decide)
   have f0:=BG.free (k*2)
   have f1:=BG.free (k*2+1)
   obtain⟨n,hn⟩:∃n,n=bs.length:=⟨_,rfl⟩
   obtain⟨m,hm⟩:∃m,m=hd.length:=⟨_,rfl⟩
   rw[<-hn] at cB e0 fx
   rw[<-hm] at cP e1 fx
   replace hn:=aa hn
   replace hm:=aa hm
   have bD:=ak (Below.refl wr.heap.size wr)
   have gD:=gx.keep bD (Nat.le_refl _)
   have RU:ag wr.drew g ((dn++l.drop k).flatMap Lr.cells) 53:=BG
   clear bD gx
   replace gD:=aa gD
   replace own:=aa own
   replace ap:=aa ap
   replace hx:=aa hx
   replace ui:=aa ui
   clear few hs
   go_wp2_with fail
   go_region_with (first
    | (go_at_call 211;refine(cB _ ?_).mono ?_;exact gD.out.bs;rintro e w4 ⟨gB,rfl,BB,WD,b4⟩;have ON:=RU.keep b4 RU.lt;have Zl:w4.cell? ⟨g,k*2,none⟩=some (.slice ba n bc):=by {rw[ON.cell,<-BG.cell];exact e0};have YY:w4.cell? ⟨g,k*2+1,none⟩=some (.slice ha m hc):=by {rw[ON.cell,<-BG.cell];exact e1};have XG:=aa (gD.out.hd.call b4))
    | (go_at_call 212;refine(cP _ ?_).mono ?_;exact XG.out;rintro e w5 ⟨gP,rfl,BP,VQ,b5⟩;have zu:=ON.keep b5 ON.lt;have Z0:w5.cell? ⟨g,k*2,none⟩=some (.slice ba n bc):=by {rw[zu.cell,<-BG.cell];exact e0};have e15:w5.cell? ⟨g,k*2+1,none⟩=some (.slice ha m hc):=by {rw[zu.cell,<-BG.cell];exact e1};have ZW:=zu.free (k*2);have f15:=zu.free (k*2+1)))
   all_goals(
    have M:=Mid.start ck.out hx.out hn.out hm.out BG own.out R O gD.out bel hg BB WD b4 BP VQ b5
    clear e0 e1 f0 f1 RU Zl YY Z0 e15 ZW f15 cB cP gD ON zu BB BP XG BG own R O d0 bel b4 b5 WD VQ
    simp only at M
    rename World=>w5
    generalize(World.setCell _ _ _).setCell _ _=w6 at*
    have c0:w6.cell? ⟨g,k*2,none⟩=some (.slice (some ⟨gB,0,none⟩) n n):=by rw[M.cells ck.out,<-hn.out]
    replace M:=aa M
    go_wp2_with fail
    go_loopw [42] (fun i wq=>∃(j:Nat) (bl:List Lb),j<=n/\i=.int .i64 j/\Hid (bl.length=n)/\Hid (bl.map Lb.b=bs.map Lb.b)/\Hid (Mid w wq g o gB gP j dn (l.drop (k+1)) bl hd)) (fun i _=>n-(intOf i).toNat)
    case atStart=>exact⟨0,bs,by omega,rfl,hn.out.symm,rfl,M⟩
    case round=>
     clear M c0
     obtain⟨j,bl,hj,rfl,rQ,QF,M⟩:=hrel
     have c0:wr.cell? ⟨g,k*2,none⟩=some (.slice (some ⟨gB,0,none⟩) n n):=by rw[M.out.cells ck.out,rQ.out]
     by_cases Yz:j<n
     .obtain⟨x,Lg⟩:∃x,bl[j]? =some x:=⟨_,List.getElem?_eq_getElem (by rw[rQ.out];exact Yz)⟩
      have gx:=(M.out.good j x Lg).1
      have cO:=fun W h=>QA x.b.bits x.a x.c W h gx.few
      have c3:wr.cell? ⟨gB,j*4+3,none⟩=some (.slice x.a x.b.bits.length x.c):=by rw[M.out.bs.cell];exact flat_get Lb.four _ j 3 _ Lg (by decide)
      have gD:Hid (Sl wr.drew x.a x.c (x.b.bits.map Value.bool)):=gx.bits.keep (ak (Below.refl wr.heap.size wr)) (Nat.le_refl _)
      obtain⟨q,hq⟩:∃q,q=x.b.bits.length:=⟨_,rfl⟩
      rw[<-hq] at cO c3
      replace hq:=aa hq
      replace Lg:=aa Lg
      have M1:=aa M.out.drew
      clear gx
      have Yf:j<8:=by omega
      go_wp2_with fail
      go_region_with (first
       | (go_at_call 213;refine(cO _ ?_).mono ?_;exact gD.out;rintro e w7 ⟨gO,rfl,BO,hgO,b7⟩;have M7:=M1.out.call b7;have ZT:w7.cell? ⟨g,k*2,none⟩=some (.slice (some ⟨gB,0,none⟩) n n):=by {rw[M7.cells ck.out,rQ.out]};have c37:w7.cell? ⟨gB,j*4+3,none⟩=some (.slice x.a q x.c):=by {rw[M7.bs.cell,<-M.out.bs.cell];exact c3};have f37:=M7.bs.free (j*4+3);clear M7))
      all_goals(
       have M8:=M1.out.step Lg.out hq.out BO b7
       clear c0 c3 ZT c37 f37 cO gD BO hgO b7 M M1
       generalize World.setCell _ _ _=w8 at*
       replace M8:=aa M8
       go_wp2_with fail
       go_roundw
       case rel=>exact⟨j+1,_,by omega,by go_num,by rw[List.length_set];exact rQ.out,aa ((Gv Lg.out _ _).trans QF.out),M8⟩
       case measure=>simp[intOf];omega)
     obtain rfl:j=n:=by omega
     go_wp2_with fail
     obtain⟨y,y1,y2,y3,y4,y5⟩:=M.out.done (by rw[rQ.out];exact Nat.le_refl _) ck.out m8.out hx.out QF.out rfl (by rw[<-hm.out];omega) ap.out
     have R9:=M.out.res
     have O9:=M.out.out
     have aq:=M.out.bel
     go_roundw
     case rel=>exact⟨k+1,dn++[y],by omega,by go_num,y1,y2,y3,y4,y5,R9,O9,aq⟩
     case measure=>simp[intOf];omega)
  obtain rfl:k=4:=by omega
  have rS:l.drop 4=[]:=List.drop_eq_nil_of_le (by rw[h4.out];exact Nat.le_refl _)
  rw[rS,List.append_nil] at BG
  rw[List.take_of_length_le (by rw[h4.out];exact Nat.le_refl _)] at m8
  have r0:wr.cell? ⟨w.heap.size+1,0,none⟩=some (.slice none 0 0):=R.cell 0
  have r1:=R.free 0
  have grow:wr.grownBy (wr.setCell ⟨w.heap.size+1,0,none⟩ (.slice (some ⟨g,0,none⟩) 4 4)) (some (w.heap.size+1)):=al (au wr _) _ _
  have G9:oD (wr.setCell ⟨w.heap.size+1,0,none⟩ (.slice (some ⟨g,0,none⟩) 4 4)) w.heap.size g dn:=
   ⟨BG.grown grow (fun j e=>by obtain rfl:=Option.some.inj e;exact fun e=>ip e.symm),hg,fun r hr=>(own r hr).wrote grow R (by decide) ((own r hr).notB R (by decide)) ((own r hr).notH R (by decide)),ap⟩
  have aq:=bel.setCell (p:=⟨w.heap.size+1,0,none⟩) (Nat.le_succ _) (.slice (some ⟨g,0,none⟩) 4 4)
  replace G9:=aa G9
  clear own ap BG few hs
  go_wp2_with fail
  exact bodyPost_ret (v:=.agg #[.slice (some ⟨g,0,none⟩) 4 4]) (by simp[results,Tryz.results181,go_sem,r0]) rfl ⟨g,dn,rfl,m8.out,G9.out,aq⟩
end Go.Proofs.YtoonnbhoiocoeaaGreatDoor
