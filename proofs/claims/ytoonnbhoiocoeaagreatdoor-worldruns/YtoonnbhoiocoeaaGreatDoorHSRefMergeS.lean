/-
  rainbookref.MergedRow, of a shelf that is right: what it answers; nothing that was there is written.
-/
import Derived.Test.YtoonnbhoiocoeaaGreatDoorS36
set_option maxHeartbeats 40000000
set_option maxRecDepth 100000
set_option linter.unusedVariables false
namespace Go.Proofs.YtoonnbhoiocoeaaGreatDoor
open Go.RowKit
theorem Fq (m:Nat)(ao:Option Addr)(cap:Nat)(s n:Int)(w:World)(h:dG s 0 3=false):
  Calls Tryz.prog 101 #[.agg #[.slice ao m cap],.int .i64 s,.int .i64 n] w fun e w'=>e=.returned (.tuple #[.agg #[.slice none 0 0],.int .i64 5])/\Below w.heap.size w w':=by
 have c:=fun W=>bG s 0 3 W
 unfold dG at h
 rw[h] at c
 clear h
 go_enter Tryz.func101,Tryz.ntmps101
 go_wp2_with fail
 go_at_call 36
 refine(c _).mono ?_
 rintro e w1 ⟨rfl,rfl⟩
 go_wp2_with fail
 exact bodyPost_ret (v:=.tuple #[.agg #[.slice none 0 0],.int .i64 5]) (by simp[results,Tryz.results101,go_sem]) rfl ⟨rfl,dN w _ _⟩
theorem Ak (l:List Lr)(ao:Option Addr)(cap:Nat)(k:Nat)(n:Int)(w:World)(hs:bL w ao cap l)(h4:l.length=4)(hk:k<4)(r:Lr)(hr:l[k]? =some r)(hw:(Lit.int .i64 n).wf=true)(h:dG n 0 ((r.bs.length:Int)-2)=false):
  Calls Tryz.prog 101 #[.agg #[.slice ao 4 cap],.int .i64 k,.int .i64 n] w fun e w'=>e=.returned (.tuple #[.agg #[.slice none 0 0],.int .i64 3])/\Below w.heap.size w w':=by
 have c:=fun W=>bG (k:Int) 0 3 W
 rw[decide_eq_true (show(0:Int)<=k/\(k:Int)<=3 by omega)] at c
 obtain⟨lb,lo,rfl,-⟩:=hs.where (by intro e;rw[e] at h4;simp at h4)
 have c3:=fun W (hW:be Lr.cells W (some ⟨lb,lo,none⟩) cap l)=>tQ ⟨lb,lo,none⟩ cap (l.flatMap Lr.cells) 4 W hW.row (by rw[av Lr.two,h4]) (by decide) (by decide)
 have s2:=fun o1 o2=>(hs.sl.alloc o1).alloc o2
 have fC:(k:Int)<4:=by omega
 have hn:=(of_decide_eq_false h:¬(0<=n/\n<=(r.bs.length:Int)-2))
 have rc:=fun W g G (h:dL W g G l)=>h.cells k r hr
 replace h4:=aa h4
 generalize r.hd.length=m at*
 generalize r.bs.length=bn at*
 clear h hr hs
 simp only[Lit.wf,IntKind.min,IntKind.max,IntKind.signed,IntKind.bits,Bool.and_eq_true,decide_eq_true_eq,if_true] at hw
 have key:n<0\/(0<=n/\n=9223372036854775807)\/(0<=n/\n<9223372036854775807/\(bn:Int)<=n+1):=by omega
 clear hn
 obtain⟨DU,xd⟩:=hw
 have lw:wrap64 9223372036854775808=-9223372036854775808:=by unfold wrap64;omega
 rcases key with h1| ⟨h1,rfl⟩| ⟨h1,h2,h3⟩
 all_goals(
  go_enter Tryz.func101,Tryz.ntmps101
  go_wp2_with fail
  go_at_call 36
  refine(c _).mono ?_
  rintro e w1 ⟨rfl,rfl⟩
  go_wp2_with fail
  have BR:=(rh w [.slice (some ⟨lb,lo,none⟩) 4 cap] [.slice none 0 0] 24)
  go_at_call 129
  refine(c3 _ (s2 _ _)).mono ?_
  rintro e w1 ⟨g,G,L,rfl,B1,hL,hG,pT,zn,b1⟩
  have rows:dL w1 g G l:=⟨⟨L,B1,hL⟩,by rw[h4.out];exact hG,pT⟩
  obtain⟨BR,bel⟩:=BR
  replace BR:=BR.keep b1 BR.lt
  replace bel:=ac bel b1
  clear b1 s2 c3 c B1 hL
  simp only[World.size_alloc] at zn
  obtain⟨e0,e1⟩:=rc _ _ _ rows
  have QC:=rows.lt
  have f0:=BR.free 0
  have d0:w1.cell? ⟨w.heap.size+1,0,none⟩=some (.slice none 0 0):=BR.cell 0
  have jF:=BR.lt
  go_wp2_with fail
  exact bodyPost_ret (v:=.tuple #[.agg #[.slice none 0 0],.int .i64 3]) (by simp[results,Tryz.results101,go_sem,d0,jF]) rfl ⟨rfl,ax (bel.setCell (by simp) _) _⟩)
theorem Iz (l:List Lr)(ao:Option Addr)(cap:Nat)(k j:Nat)(w:World)(hs:bL w ao cap l)(h4:l.length=4)(hk:k<4)(r:Lr)(hr:l[k]? =some r)(hb:r.bs.length<=8)(hm:r.hd.length<=40)(x y:Lb)(hx:r.bs[j]? =some x)(hy:r.bs[j+1]? =some y):
  Calls Tryz.prog 101 #[.agg #[.slice ao 4 cap],.int .i64 k,.int .i64 j] w fun e w'=>
   (eA x.b y.b≠0/\e=.returned (.tuple #[.agg #[.slice none 0 0],.int .i64 (eA x.b y.b)])/\Below w.heap.size w w')\/
   (eA x.b y.b=0/\∃rs a' G,e=.returned (.tuple #[.agg #[.slice a' 4 G],.int .i64 0])/\rs.map Lr.rw=(l.map Lr.rw).set k ⟨(r.bs.map Lb.b).take j++(eO x.b y.b::(r.bs.map Lb.b).drop (j+2)),r.hd⟩/\bL w' a' G rs/\Below w.heap.size w w'/\ae w.heap.size l rs):=by
 have c:=fun W=>bG (k:Int) 0 3 W
 rw[decide_eq_true (show(0:Int)<=k/\(k:Int)<=3 by omega)] at c
 obtain⟨lb,lo,rfl,-⟩:=hs.where (by intro e;rw[e] at h4;simp at h4)
 have c3:=fun W (hW:be Lr.cells W (some ⟨lb,lo,none⟩) cap l)=>tQ ⟨lb,lo,none⟩ cap (l.flatMap Lr.cells) 4 W hW.row (by rw[av Lr.two,h4]) (by decide) (by decide)
 have s2:=fun o1 o2=>(hs.sl.alloc o1).alloc o2
 have gr:=hs.good r (List.mem_of_getElem? hr)
 have gl:=hs.good
 have Ft:j+2<=r.bs.length:=by have:=(List.getElem?_eq_some_iff.1 hy).1;omega
 obtain⟨bs,ba,bc,hd,ha,hc⟩:=r
 simp only at*
 have SS:=List.mem_of_getElem? hr
 replace SS:=aa SS
 have gx:=gr.bs.good x (List.mem_of_getElem? hx)
 have gy:=gr.bs.good y (List.mem_of_getElem? hy)
 have fx:=gx.few
 have fy:=gy.few
 have c4:=fun W hX hY=>Ap x.b y.b x.a y.a x.c y.c W hX hY fx fy
 have lM:=ur x.b y.b
 generalize eO x.b y.b=M at*
 generalize eA x.b y.b=ME at*
 have fC:(k:Int)<4:=by omega
 obtain⟨m,em⟩:∃m,m=hd.length:=⟨_,rfl⟩
 obtain⟨bn,eb⟩:∃bn,bn=bs.length:=⟨_,rfl⟩
 rw[<-em] at hm
 rw[<-eb] at hb Ft
 have tP:bn<=bc:=by have:=gr.bs.sl.le;rw[<-eb] at this;exact this
 have ZB:=gr.bs.sl.max
 simp only at ZB
 have EL:(j:Int)+1<bn:=by omega
 have pf:(0:Int)<=j:=by omega
 have TD:(j:Int)<bn:=by omega
 have ZL:(bn:Int)<=8:=by omega
 have SP:(0:Int)<=(j:Int)+1:=by omega
 have Zi:(0:Int)<=(j:Int)+2:=by omega
 have YU:(j:Int)+2<=bn:=by omega
 have DU:IntKind.i64.wrap ((j:Int)+1)=(j:Int)+1:=by rw[IntKind.wrap_i64];omega
 have xd:IntKind.i64.wrap ((j:Int)+2)=(j:Int)+2:=by rw[IntKind.wrap_i64];omega
 replace em:=aa em
 replace eb:=aa eb
 replace hr:=aa hr
 replace h4:=aa h4
 replace hx:=aa hx
 replace hy:=aa hy
 have gW:=fun W (hW:Below w.heap.size w W)=>gr.keep hW (Nat.le_refl _)
 obtain⟨bb,bo,rfl,QF⟩:=gr.bs.where (by intro e;have e':bs=[]:=e;have:=eb.out;rw[e'] at this;simp at this;omega)
 clear gr hs gx gy
 go_enter Tryz.func101,Tryz.ntmps101
 go_wp2_with fail
 go_at_call 36
 refine(c _).mono ?_
 rintro e w1 ⟨rfl,rfl⟩
 go_wp2_with fail
 have BR:=(rh w [.slice (some ⟨lb,lo,none⟩) 4 cap] [.slice none 0 0] 24)
 go_at_call 129
 refine(c3 _ (s2 _ _)).mono ?_
 rintro e w1 ⟨g,G,L,rfl,B1,hL,hG,pT,zn,b1⟩
 have rows:dL w1 g G l:=⟨⟨L,B1,hL⟩,by rw[h4.out];exact hG,pT⟩
 obtain⟨BR,bel⟩:=BR
 replace BR:=BR.keep b1 BR.lt
 replace bel:=ac bel b1
 clear b1 s2 c3 c B1 hL L
 simp only[World.size_alloc] at zn
 obtain⟨e0,e1⟩:=rows.cells k _ hr.out
 simp only at e0 e1
 rw[<-eb.out] at e0
 rw[<-em.out] at e1
 have QC:=rows.lt
 go_wp2_with fail
 have B9:=ag.laid w1 [.slice (some ⟨bb,bo,none⟩) bn bc,.slice ha m hc] 53 _ rfl
 replace rows:=rows.alloc (.cells #[.slice (some ⟨bb,bo,none⟩) bn bc,.slice ha m hc] 53)
 replace BR:=BR.alc (.cells #[.slice (some ⟨bb,bo,none⟩) bn bc,.slice ha m hc] 53)
 replace bel:=ax bel (.cells #[.slice (some ⟨bb,bo,none⟩) bn bc,.slice ha m hc] 53)
 clear e0 e1
 generalize Oz:w1.heap.size=g9 at*
 generalize w1.alloc _=w2 at*
 clear Oz
 have q0:w2.cell? ⟨g9,0,none⟩=some (.slice (some ⟨bb,bo,none⟩) bn bc):=B9.cell 0
 have l9:=B9.lt
 obtain⟨x0,x1,x2,x3,gx⟩:=(gW w2 bel).bs.at j x hx.out
 obtain⟨y0,y1,y2,y3,gy⟩:=(gW w2 bel).bs.at (j+1) y hy.out
 have cM:∀W,Below w2.heap.size w2 W->Calls Tryz.prog 133 #[ej x.b x.a x.c,ej y.b y.a y.c] W fun e w'=>∃a' G,e=.returned (.tuple #[ej M a' G,.int .i64 ME])/\Sl w' a' G (M.bits.map Value.bool)/\Below W.heap.size W w'/\Below w2.heap.size w2 w'/\w'.cell? ⟨g9,0,none⟩=some (.slice (some ⟨bb,bo,none⟩) bn bc)/\w'.cell? ⟨bb,bo+j*4,none⟩=some (.int .i64 x.b.n)/\w'.cell? ⟨bb,bo+j*4+1,none⟩=some (.int .i64 x.b.fr)/\w'.cell? ⟨bb,bo+j*4+2,none⟩=some (.int .i64 x.b.to)/\w'.cell? ⟨bb,bo+j*4+3,none⟩=some (.slice x.a x.b.bits.length x.c)/\w'.cell? ⟨bb,bo+(j+1)*4,none⟩=some (.int .i64 y.b.n)/\w'.cell? ⟨bb,bo+(j+1)*4+1,none⟩=some (.int .i64 y.b.fr)/\w'.cell? ⟨bb,bo+(j+1)*4+2,none⟩=some (.int .i64 y.b.to)/\w'.cell? ⟨bb,bo+(j+1)*4+3,none⟩=some (.slice y.a y.b.bits.length y.c):=by
  intro W hW
  refine(c4 W (gx.bits.keep hW (Nat.le_refl _)) (gy.bits.keep hW (Nat.le_refl _))).mono ?_
  rintro e w' ⟨a',G',rfl,t',b'⟩
  have Qq:=hW.trans (b'.mono hW.size)
  obtain⟨x0,x1,x2,x3,_⟩:=(gW w' (bel.trans (Qq.mono bel.size))).bs.at j x hx.out
  obtain⟨y0,y1,y2,y3,_⟩:=(gW w' (bel.trans (Qq.mono bel.size))).bs.at (j+1) y hy.out
  exact⟨a',G',rfl,t',b',Qq,(B9.keep Qq l9).cell 0,x0,x1,x2,x3,y0,y1,y2,y3⟩
 unfold ej at cM
 have ld:=Nat.lt_of_lt_of_le QF bel.size
 have PF:¬g9=w2.heap.size:=by omega
 have Pi:¬w2.heap.size=g9:=by omega
 have UP:¬bb=w2.heap.size:=by omega
 have UK:¬w2.heap.size=bb:=by omega
 go_region_held3 (fun w'=>w'.cell? ⟨g9,0,none⟩=some (.slice (some ⟨bb,bo,none⟩) bn bc)/\w'.cell? ⟨bb,bo+j*4,none⟩=some (.int .i64 x.b.n)/\w'.cell? ⟨bb,bo+j*4+1,none⟩=some (.int .i64 x.b.fr)/\w'.cell? ⟨bb,bo+j*4+2,none⟩=some (.int .i64 x.b.to)/\w'.cell? ⟨bb,bo+j*4+3,none⟩=some (.slice x.a x.b.bits.length x.c)/\w'.cell? ⟨bb,bo+(j+1)*4,none⟩=some (.int .i64 y.b.n)/\w'.cell? ⟨bb,bo+(j+1)*4+1,none⟩=some (.int .i64 y.b.fr)/\w'.cell? ⟨bb,bo+(j+1)*4+2,none⟩=some (.int .i64 y.b.to)/\w'.cell? ⟨bb,bo+(j+1)*4+3,none⟩=some (.slice y.a y.b.bits.length y.c)) (go_keep)
  (first
   | (go_at_call 133;refine(cM _ ?_).mono ?_;exact ak (Below.refl _ _);rintro e w3 ⟨a3,G3,rfl,t3,b3,bb3,z0,z1,z2,z3,z4,z5,z6,z7,z8⟩)
   | (go_at_call 133;refine(cM _ ?_).mono ?_;exact ak (ax (Below.refl _ _) _);rintro e w3 ⟨a3,G3,rfl,t3,b3,bb3,z0,z1,z2,z3,z4,z5,z6,z7,z8⟩;have BZ:=(ag.laid w2 [.int .i64 0,.int .i64 0,.int .i64 0,.slice none 0 0] 107 _ rfl).drewS.keep b3 (by simp);have u0:w3.cell? ⟨w2.heap.size,0,none⟩=some (.int .i64 0):=BZ.cell 0;have u1:w3.cell? ⟨w2.heap.size,1,none⟩=some (.int .i64 0):=BZ.cell 1;have u2:w3.cell? ⟨w2.heap.size,2,none⟩=some (.int .i64 0):=BZ.cell 2;have u3:w3.cell? ⟨w2.heap.size,3,none⟩=some (.slice none 0 0):=BZ.cell 3;have v0:=BZ.free 0;have v1:=BZ.free 1;have v2:=BZ.free 2;have v3:=BZ.free 3))
 all_goals
  first
  | (
    have sw:=BZ.put4 (.int .i64 M.n) (.int .i64 M.fr) (.int .i64 M.to) (.slice a3 M.bits.length G3)
    replace rows:=((((rows.keep bb3 rows.lt).other w2.heap.size 0 (.int .i64 M.n) (by omega)).other w2.heap.size 1 (.int .i64 M.fr) (by omega)).other w2.heap.size 2 (.int .i64 M.to) (by omega)).other w2.heap.size 3 (.slice a3 M.bits.length G3) (by omega)
    replace BR:=((((BR.keep bb3 BR.lt).other 0 (.int .i64 M.n) (g':=w2.heap.size) (by have:=BR.lt;omega)).other 1 (.int .i64 M.fr) (g':=w2.heap.size) (by have:=BR.lt;omega)).other 2 (.int .i64 M.to) (g':=w2.heap.size) (by have:=BR.lt;omega)).other 3 (.slice a3 M.bits.length G3) (g':=w2.heap.size) (by have:=BR.lt;omega)
    replace B9:=((((B9.keep bb3 l9).other 0 (.int .i64 M.n) (g':=w2.heap.size) (by omega)).other 1 (.int .i64 M.fr) (g':=w2.heap.size) (by omega)).other 2 (.int .i64 M.to) (g':=w2.heap.size) (by omega)).other 3 (.slice a3 M.bits.length G3) (g':=w2.heap.size) (by omega)
    replace t3:=t3.put4 BZ (.int .i64 M.n) (.int .i64 M.fr) (.int .i64 M.to) (.slice a3 M.bits.length G3)
    replace bel:=ic (bel.trans (bb3.mono bel.size)) (g:=w2.heap.size) bel.size (.int .i64 M.n) (.int .i64 M.fr) (.int .i64 M.to) (.slice a3 M.bits.length G3)
    have Yh:g9<w2.heap.size:=l9
    clear b3 bb3 BZ u0 u1 u2 u3 v0 v1 v2 v3 z0 z1 z2 z3 z4 z5 z6 z7 z8 x0 x1 x2 x3 y0 y1 y2 y3 gx gy q0 l9 PF Pi UP UK cM ld
    generalize(((w3.setCell ⟨w2.heap.size,0,none⟩ (.int .i64 M.n)).setCell ⟨w2.heap.size,1,none⟩ (.int .i64 M.fr)).setCell ⟨w2.heap.size,2,none⟩ (.int .i64 M.to)).setCell ⟨w2.heap.size,3,none⟩ (.slice a3 M.bits.length G3)=w4 at*
    generalize w2.heap.size=g10 at*)
  | (
    have sw:=ag.laid w3 [.int .i64 M.n,.int .i64 M.fr,.int .i64 M.to,.slice a3 M.bits.length G3] 107 _ rfl
    replace rows:=(rows.keep bb3 rows.lt).alloc (.cells #[.int .i64 M.n,.int .i64 M.fr,.int .i64 M.to,.slice a3 M.bits.length G3] 107)
    replace BR:=(BR.keep bb3 BR.lt).alc (.cells #[.int .i64 M.n,.int .i64 M.fr,.int .i64 M.to,.slice a3 M.bits.length G3] 107)
    replace B9:=(B9.keep bb3 l9).alc (.cells #[.int .i64 M.n,.int .i64 M.fr,.int .i64 M.to,.slice a3 M.bits.length G3] 107)
    replace bel:=ax (bel.trans (bb3.mono bel.size)) (.cells #[.int .i64 M.n,.int .i64 M.fr,.int .i64 M.to,.slice a3 M.bits.length G3] 107)
    replace t3:=t3.alloc (.cells #[.int .i64 M.n,.int .i64 M.fr,.int .i64 M.to,.slice a3 M.bits.length G3] 107)
    have Yh:g9<w3.heap.size:=Nat.lt_of_lt_of_le l9 bb3.size
    clear b3 bb3 z0 z1 z2 z3 z4 z5 z6 z7 z8
    generalize w3.heap.size=g10 at*
    generalize w3.alloc _=w4 at*)
 all_goals(
  by_cases hE:ME=0
  .have q0:w4.cell? ⟨g9,0,none⟩=some (.slice (some ⟨bb,bo,none⟩) bn bc):=B9.cell 0
   have q1:w4.cell? ⟨g9,1,none⟩=some (.slice ha m hc):=B9.cell 1
   have p0:w4.cell? ⟨g10,0,none⟩=some (.int .i64 M.n):=sw.cell 0
   have p1:w4.cell? ⟨g10,1,none⟩=some (.int .i64 M.fr):=sw.cell 1
   have p2:w4.cell? ⟨g10,2,none⟩=some (.int .i64 M.to):=sw.cell 2
   have p3:w4.cell? ⟨g10,3,none⟩=some (.slice a3 M.bits.length G3):=sw.cell 3
   have l9:=B9.lt
   have l10:=sw.lt
   have oJ:=rows.lt
   have lR:=BR.lt
   have U8:¬g=g9:=by omega
   have To:¬g=g10:=by omega
   have Xk:¬g=w.heap.size+1:=by omega
   have Uj:¬w.heap.size+1=g:=by omega
   have cC:∀aD nD cD,be Lb.cells w aD cD (bs.drop (j+2))->(bs.drop (j+2)).length=nD->Calls Tryz.prog 134 #[.slice (some ⟨w4.heap.size+1,0,none⟩) 3 3] (((w4.alloc (.cells #[.int .i64 M.n,.int .i64 M.fr,.int .i64 M.to,.slice a3 M.bits.length G3] 107)).alloc (.cells #[.slice (some ⟨bb,bo,none⟩) j bc,.slice (some ⟨w4.heap.size,0,none⟩) 1 1,.slice aD nD cD] 51)).drew) fun e w'=>∃g6 c6,e=.returned (.slice (some ⟨g6,0,none⟩) (j+1+nD) c6)/\w'.ownsRow w4.heap.size 107 4 (.slice (some ⟨g6,0,none⟩) (j+1+nD) c6) (j+1+nD) ((bs.take j).flatMap Lb.cells++([.int .i64 M.n,.int .i64 M.fr,.int .i64 M.to,.slice a3 M.bits.length G3]++(bs.drop (j+2)).flatMap Lb.cells))/\Below w4.heap.size w4 w'/\w'.cell? ⟨g9,0,none⟩=some (.slice (some ⟨bb,bo,none⟩) bn bc)/\w'.cell? ⟨g9,1,none⟩=some (.slice ha m hc)/\w'.cell? ⟨g10,0,none⟩=some (.int .i64 M.n)/\w'.cell? ⟨g10,1,none⟩=some (.int .i64 M.fr)/\w'.cell? ⟨g10,2,none⟩=some (.int .i64 M.to)/\w'.cell? ⟨g10,3,none⟩=some (.slice a3 M.bits.length G3)/\w'.cell? ⟨g,k*2,none⟩=some (.slice (some ⟨bb,bo,none⟩) bs.length bc)/\w'.cell? ⟨g,k*2+1,none⟩=some (.slice ha hd.length hc)/\w'.frozen? ⟨g,k*2,none⟩=false/\w'.frozen? ⟨g,k*2+1,none⟩=false/\w'.cell? ⟨w.heap.size+1,0,none⟩=some (.slice none 0 0)/\w'.frozen? ⟨w.heap.size+1,0,none⟩=false:=by
    intro aD nD cD pD lD
    have bW:Below w4.heap.size w4 (((w4.alloc (.cells #[.int .i64 M.n,.int .i64 M.fr,.int .i64 M.to,.slice a3 M.bits.length G3] 107)).alloc (.cells #[.slice (some ⟨bb,bo,none⟩) j bc,.slice (some ⟨w4.heap.size,0,none⟩) 1 1,.slice aD nD cD] 51)).drew):=ak (dN w4 _ _)
    have WC:=bel.trans (bW.mono bel.size)
    have gg:=(gW _ WC).bs.sl
    have BX:=(ag.laid (w4.alloc (.cells #[.int .i64 M.n,.int .i64 M.fr,.int .i64 M.to,.slice a3 M.bits.length G3] 107)) [.slice (some ⟨bb,bo,none⟩) j bc,.slice (some ⟨w4.heap.size,0,none⟩) 1 1,.slice aD nD cD] 51 (w4.heap.size+1) (by simp)).drewS
    have BM:=((ag.laid w4 [.int .i64 M.n,.int .i64 M.fr,.int .i64 M.to,.slice a3 M.bits.length G3] 107 _ rfl).alc (.cells #[.slice (some ⟨bb,bo,none⟩) j bc,.slice (some ⟨w4.heap.size,0,none⟩) 1 1,.slice aD nD cD] 51)).drewS
    have hlen:=pD.le
    have UY:=Lc (w4.heap.size+1) (some ⟨bb,bo,none⟩) (some ⟨w4.heap.size,0,none⟩) aD bc 1 cD j 1 nD ((bs.take j).flatMap Lb.cells) [.int .i64 M.n,.int .i64 M.fr,.int .i64 M.to,.slice a3 M.bits.length G3] ((bs.drop (j+2)).flatMap Lb.cells) (((w4.alloc (.cells #[.int .i64 M.n,.int .i64 M.fr,.int .i64 M.to,.slice a3 M.bits.length G3] 107)).alloc (.cells #[.slice (some ⟨bb,bo,none⟩) j bc,.slice (some ⟨w4.heap.size,0,none⟩) 1 1,.slice aD nD cD] 51)).drew) (BX.cell 0) (BX.cell 1) (BX.cell 2)
     (gg.front Lb.four j).row (BM.row 0 _ (fun i v hv=>by rw[Nat.zero_add];exact hv)) (pD.keep WC (Nat.le_refl _)).row (by rw[av Lb.four,List.length_take,<-eb.out,Nat.min_eq_left (by omega)]) rfl (by rw[av Lb.four,lD])
     (by intro e;cases e) (by intro e;cases e) (by intro e;have:=pD.nil e;exact⟨by omega,this⟩) (qz _) (by intro u hu;simp only[List.mem_cons,List.not_mem_nil,or_false] at hu;rcases hu with rfl|rfl|rfl|rfl<;>rfl) (qz _) (by omega) (by rw[<-lD,List.length_drop,<-eb.out];omega) BX.lt
    refine UY.mono ?_
    rintro e w' ⟨g6,c6,rfl,o6,b6⟩
    have eg:=bW.trans (b6.mono bW.size)
    have k9:=B9.keep eg l9
    have yZ:=sw.keep eg l10
    have kR:=BR.keep eg lR
    have kr:=rows.keep eg oJ
    obtain⟨u0,u1⟩:=kr.cells k _ hr.out
    exact⟨g6,c6,rfl,rg o6 bW.size,eg,k9.cell 0,k9.cell 1,yZ.cell 0,yZ.cell 1,yZ.cell 2,yZ.cell 3,u0,u1,kr.free _,kr.free _,kR.cell 0,kR.free 0⟩
   have fin:∀nD,(bs.drop (j+2)).length=nD->∀(g6 c6:Nat) (w6:World),w6.ownsRow w4.heap.size 107 4 (.slice (some ⟨g6,0,none⟩) (j+1+nD) c6) (j+1+nD) ((bs.take j).flatMap Lb.cells++([.int .i64 M.n,.int .i64 M.fr,.int .i64 M.to,.slice a3 M.bits.length G3]++(bs.drop (j+2)).flatMap Lb.cells))->Below w4.heap.size w4 w6->
     (l.set k ⟨bs.take j++(⟨M,a3,G3⟩::bs.drop (j+2)),some ⟨g6,0,none⟩,c6,hd,ha,hc⟩).map Lr.rw=(l.map Lr.rw).set k ⟨(bs.map Lb.b).take j++(M::(bs.map Lb.b).drop (j+2)),hd⟩/\
     bL (((w6.setCell ⟨g,k*2,none⟩ (.slice (some ⟨g6,0,none⟩) (j+1+nD) c6)).setCell ⟨g,k*2+1,none⟩ (.slice ha m hc)).setCell ⟨w.heap.size+1,0,none⟩ (.slice (some ⟨g,0,none⟩) 4 G)) (some ⟨g,0,none⟩) G (l.set k ⟨bs.take j++(⟨M,a3,G3⟩::bs.drop (j+2)),some ⟨g6,0,none⟩,c6,hd,ha,hc⟩)/\Below w.heap.size w (((w6.setCell ⟨g,k*2,none⟩ (.slice (some ⟨g6,0,none⟩) (j+1+nD) c6)).setCell ⟨g,k*2+1,none⟩ (.slice ha m hc)).setCell ⟨w.heap.size+1,0,none⟩ (.slice (some ⟨g,0,none⟩) 4 G))/\ae w.heap.size l (l.set k ⟨bs.take j++(⟨M,a3,G3⟩::bs.drop (j+2)),some ⟨g6,0,none⟩,c6,hd,ha,hc⟩):=by
    intro nD lD g6 c6 w6 d8 eg
    obtain⟨x,hx⟩:∃x:Lr,x=⟨bs.take j++(⟨M,a3,G3⟩::bs.drop (j+2)),some ⟨g6,0,none⟩,c6,hd,ha,hc⟩:=⟨_,rfl⟩
    have hlen:(bs.take j++((⟨M,a3,G3⟩:Lb)::bs.drop (j+2))).length=j+1+nD:=by
     rw[List.length_append,List.length_cons,lD,List.length_take,<-eb.out,Nat.min_eq_left (by omega)]
     omega
    have UQ:((w6.setCell ⟨g,k*2,none⟩ (.slice (some ⟨g6,0,none⟩) (j+1+nD) c6)).setCell ⟨g,k*2+1,none⟩ (.slice ha m hc)).setCell ⟨w.heap.size+1,0,none⟩ (.slice (some ⟨g,0,none⟩) 4 G)=wrote w6 g k x (w.heap.size+1) (.slice (some ⟨g,0,none⟩) 4 G):=by
     rw[hx]
     simp only[wrote,hlen,<-em.out]
    rw[UQ]
    have dD:=bel.trans (eg.mono bel.size)
    have b8:=um dD (g:=g) (gR:=w.heap.size+1) (by omega) (by omega) k x (.slice (some ⟨g,0,none⟩) 4 G)
    have yX:=rows.keep eg rows.lt
    have jZ:=BR.keep eg BR.lt
    have t6:=vN (t3.keep eg (Nat.le_refl _)) yX jZ (by intro v hv b e;simp at hv;subst hv;cases e) k x (.slice (some ⟨g,0,none⟩) 4 G)
    have nt:=y7 d8 oJ lR k x (.slice (some ⟨g,0,none⟩) 4 G)
    rw[show((bs.take j).flatMap Lb.cells++([.int .i64 M.n,.int .i64 M.fr,.int .i64 M.to,.slice a3 M.bits.length G3]++(bs.drop (j+2)).flatMap Lb.cells))=(bs.take j++((⟨M,a3,G3⟩:Lb)::bs.drop (j+2))).flatMap Lb.cells by rw[List.flatMap_append,List.flatMap_cons];rfl] at nt
    obtain⟨a9,c9,ev,Sx,_,_⟩:=be.ofOwn Lb.four (by decide) nt
    simp only[Value.slice.injEq,true_and] at ev
    obtain⟨rfl,rfl⟩:=ev
    have gx:x.Good (wrote w6 g k x (w.heap.size+1) (.slice (some ⟨g,0,none⟩) 4 G)):=by
     generalize wrote w6 g k x (w.heap.size+1) (.slice (some ⟨g,0,none⟩) 4 G)=w8 at*
     rw[hx]
     have gb:=gW w8 b8
     refine⟨⟨Sx,fun y hy=>?_⟩,gb.hd,?_,gb.hfew⟩
     .rcases List.mem_append.1 hy with hy|hy
      .exact gb.bs.good y (List.mem_of_mem_take hy)
      rcases List.mem_cons.1 hy with rfl|hy
      .exact⟨t6,by simp only;omega⟩
      exact gb.bs.good y (List.mem_of_mem_drop hy)
     simp only
     rw[hlen,<-lD,List.length_drop,<-eb.out]
     omega
    refine⟨?_,?_,b8,ae.set (fun aF ad e=>.inr ⟨_,SS.out,aF,ad,e,rfl⟩)⟩
    .rw[List.map_set]
     congr 1
     unfold Lr.rw
     simp
    rw[<-hx]
    exact vJ yX (by omega) k (by rw[h4.out];exact hk) x _ b8 gl gx
   have pt:=(gW w (Below.refl _ _)).bs.sl.part Lb.four (j+2) bs.length (by rw[<-eb.out];exact Ft) (Nat.le_refl _)
   simp only at pt
   rw[List.take_length] at pt
   have WR:(bs.drop (j+2)).length=bn-(j+2):=by rw[List.length_drop,<-eb.out]
   have Fd:=aa hE
   have aaF:(j:Int)<=bc:=by omega
   have hz:(ME==0)=true:=by simpa using hE
   clear hE
   rw[Option.map_some,Addr.add_lit] at pt
   have ht:((j:Int)+2).toNat=j+2:=by omega
   have pD:be Lb.cells w (if bc=((j:Int)+2).toNat then some ⟨bb,bo,none⟩ else some ⟨bb,bo+((j:Int)+2).toNat*4,none⟩) (bc-((j:Int)+2).toNat) (bs.drop (j+2)):=by rw[ht];exact pt
   have lD:(bs.drop (j+2)).length=bn-((j:Int)+2).toNat:=by rw[ht];exact WR
   clear pt WR ht
   by_cases sE:bc=((j:Int)+2).toNat
   .rw[if_pos sE] at pD
    have kV:(bc=((j:Int)+2).toNat)=True:=eq_true sE
    clear sE
    have Tn:=cC (some ⟨bb,bo,none⟩) (bn-((j:Int)+2).toNat) (bc-((j:Int)+2).toNat) pD lD
    have O0:=fin (bn-((j:Int)+2).toNat) lD
    clear cC fin pD lD gW gl hr hx hy c4
    go_wp2_with fail
    go_region_held3 (fun w'=>w'.cell? ⟨g9,0,none⟩=some (.slice (some ⟨bb,bo,none⟩) bn bc)/\w'.cell? ⟨g9,1,none⟩=some (.slice ha m hc)/\w'.cell? ⟨g10,0,none⟩=some (.int .i64 M.n)/\w'.cell? ⟨g10,1,none⟩=some (.int .i64 M.fr)/\w'.cell? ⟨g10,2,none⟩=some (.int .i64 M.to)/\w'.cell? ⟨g10,3,none⟩=some (.slice a3 M.bits.length G3)) (go_keep)
     (first
      | (go_at_call 134;refine Tn.mono ?_;rintro e w6 ⟨g6,c6,rfl,d8,eg,z0,z1,z2,z3,z4,z5,u0,u1,x0,x1,j0,j1⟩))
    go_wp2_with fail
    obtain⟨E1,E2,E3⟩:=O0 _ _ _ d8 eg
    exact bodyPost_ret (v:=.tuple #[.agg #[.slice (some ⟨g,0,none⟩) 4 G],.int .i64 0]) (by simp[results,Tryz.results101,go_sem,j0]) rfl (Or.inr ⟨Fd.out,_,_,_,rfl,E1,E2,E3⟩)
   rw[if_neg sE] at pD
   have Tn:=cC (some ⟨bb,bo+((j:Int)+2).toNat*4,none⟩) (bn-((j:Int)+2).toNat) (bc-((j:Int)+2).toNat) pD lD
   have O0:=fin (bn-((j:Int)+2).toNat) lD
   clear cC fin pD lD gW gl hr hx hy c4
   go_wp2_with fail
   go_region_held3 (fun w'=>w'.cell? ⟨g9,0,none⟩=some (.slice (some ⟨bb,bo,none⟩) bn bc)/\w'.cell? ⟨g9,1,none⟩=some (.slice ha m hc)/\w'.cell? ⟨g10,0,none⟩=some (.int .i64 M.n)/\w'.cell? ⟨g10,1,none⟩=some (.int .i64 M.fr)/\w'.cell? ⟨g10,2,none⟩=some (.int .i64 M.to)/\w'.cell? ⟨g10,3,none⟩=some (.slice a3 M.bits.length G3)) (go_keep)
    (first
     | (go_at_call 134;refine Tn.mono ?_;rintro e w6 ⟨g6,c6,rfl,d8,eg,z0,z1,z2,z3,z4,z5,u0,u1,x0,x1,j0,j1⟩))
   go_wp2_with fail
   obtain⟨E1,E2,E3⟩:=O0 _ _ _ d8 eg
   exact bodyPost_ret (v:=.tuple #[.agg #[.slice (some ⟨g,0,none⟩) 4 G],.int .i64 0]) (by simp[results,Tryz.results101,go_sem,j0]) rfl (Or.inr ⟨Fd.out,_,_,_,rfl,E1,E2,E3⟩)
  have f0:=BR.free 0
  have d0:w4.cell? ⟨w.heap.size+1,0,none⟩=some (.slice none 0 0):=BR.cell 0
  have jF:=BR.lt
  clear gW gl hr hx hy rows B9 sw t3 DU xd pf EL TD SP Zi YU ZL
  go_wp2_with fail
  refine bodyPost_ret (v:=.tuple #[.agg #[.slice none 0 0],.int .i64 ME]) (by simp[results,Tryz.results101,go_sem,d0]) rfl ?_
  exact Or.inl ⟨hE,rfl,bel.setCell (by simp) _⟩)
end Go.Proofs.YtoonnbhoiocoeaaGreatDoor
