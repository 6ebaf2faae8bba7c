/-
  rainbookref.Sealed, of a shelf that is right: what it answers; nothing that was there is written.
-/
import Derived.Deep.RegionHeld3
import Derived.Deep.AppendLies
import Derived.Lib.SliceRun
import Derived.Deep.DeepAppendWide
import Derived.Test.YtoonnbhoiocoeaaGreatDoorP10
import Derived.Test.YtoonnbhoiocoeaaGreatDoorP32
import Derived.Test.YtoonnbhoiocoeaaGreatDoorP24
import Derived.Test.YtoonnbhoiocoeaaGreatDoorP20
import Derived.Test.YtoonnbhoiocoeaaGreatDoorP03
import Derived.Test.YtoonnbhoiocoeaaGreatDoorP01
set_option maxHeartbeats 40000000
set_option maxRecDepth 100000
set_option linter.unusedVariables false
namespace Go.Proofs.YtoonnbhoiocoeaaGreatDoor
open Go.RowKit
theorem zU (l:List Lr):∀v∈l.flatMap Lr.cells,v.oneCell'=true:=by
 intro v hv
 obtain⟨r,_,h⟩:=List.mem_flatMap.1 hv
 simp only[Lr.cells,List.mem_cons,List.not_mem_nil,or_false] at h
 rcases h with rfl|rfl<;>rfl
theorem qE (l:List Lb):∀v∈l.flatMap Lb.cells,v.oneCell'=true:=by
 intro v hv
 obtain⟨r,_,h⟩:=List.mem_flatMap.1 hv
 simp only[Lb.cells,List.mem_cons,List.not_mem_nil,or_false] at h
 rcases h with rfl|rfl|rfl|rfl<;>rfl
theorem qM (w:World)(x y:List Value)(t:TypeId):ac ((w.alloc (.cells x.toArray t)).alloc (.cells y.toArray t)) (w.heap.size+1) y t/\Below w.heap.size w ((w.alloc (.cells x.toArray t)).alloc (.cells y.toArray t)):=
 ⟨ac.laid _ y t _ (by simp),dG w _ _⟩
theorem Da (m:Nat)(ao:Option Addr)(cap:Nat)(s n:Int)(w:World)(h:dw s 0 3=false):
  Calls Tryz.prog 100 #[.agg #[.slice ao m cap],.int .i64 s,.int .i64 n] w fun e w'=>e=.returned (.tuple #[.agg #[.slice none 0 0],.int .i64 5])/\Below w.heap.size w w':=by
 have c:=fun W=>cm s 0 3 W
 unfold dw at h
 rw[h] at c
 clear h
 go_enter Tryz.func100,Tryz.ntmps100
 go_wp2_with fail
 go_at_call 36
 refine(c _).mono ?_
 rintro e w1 ⟨rfl,rfl⟩
 go_wp2_with fail
 exact bodyPost_ret (v:=.tuple #[.agg #[.slice none 0 0],.int .i64 5]) (by simp[results,Tryz.results100,go_sem]) rfl ⟨rfl,dG w _ _⟩
theorem Ad {w:World}{base:Nat}{e:TypeId}{v:Value}{xs:List Value}(h:w.ownsRow base e 2 v 4 xs):∃g cap,v=.slice (some ⟨g,0,none⟩) 4 cap/\base<=g/\g<w.heap.size:=by
 rcases h.2 with⟨rfl,h0⟩| ⟨g,cap,cur,rfl,hb,hg,_⟩
 .cases h0
 .exact⟨g,cap,rfl,hb,(Array.getElem?_eq_some_iff.1 hg).1⟩
theorem x7 {w:World}{base g cap:Nat}{e:TypeId}{l:List Lr}(h:w.ownsRow base e 2 (.slice (some ⟨g,0,none⟩) 4 cap) 4 (l.flatMap Lr.cells))(k:Nat)(hk:k<4)(r:Lr)(hr:l[k]? =some r):
  w.cell? ⟨g,k*2,none⟩=some (.slice r.ba r.bs.length r.bc)/\w.cell? ⟨g,k*2+1,none⟩=some (.slice r.ha r.hd.length r.hc):=by
 rw[h.cellAt (k*2) (by omega),h.cellAt (k*2+1) (by omega)]
 exact⟨flat_get Lr.two l k 0 r hr (by decide),flat_get Lr.two l k 1 r hr (by decide)⟩
theorem wQ (l:List Lr)(ao:Option Addr)(cap:Nat)(k:Nat)(n:Int)(w:World)(hs:bJ w ao cap l)(h4:l.length=4)(hk:k<4)(r:Lr)(hr:l[k]? =some r)(h:dw n 1 r.hd.length=false):
  Calls Tryz.prog 100 #[.agg #[.slice ao 4 cap],.int .i64 k,.int .i64 n] w fun e w'=>e=.returned (.tuple #[.agg #[.slice none 0 0],.int .i64 3])/\Below w.heap.size w w':=by
 have c:=fun W=>cm (k:Int) 0 3 W
 rw[decide_eq_true (show(0:Int)<=k/\(k:Int)<=3 by omega)] at c
 have c2:=fun W=>cm n 1 (r.hd.length:Int) W
 unfold dw at h
 rw[h] at c2
 have c3:=fun W (hW:aY Lr.cells W ao cap l)=>IU ao cap (l.flatMap Lr.cells) 4 W hW.row (by have:=hs.sl.le;omega) hs.sl.nil (by rw[ar Lr.two,h4]) (zU l) (by omega)
 have rc:=fun W g c (h:World.ownsRow W (w.heap.size+2) 53 2 (.slice (some ⟨g,0,none⟩) 4 c) 4 (l.flatMap Lr.cells))=>x7 h k hk r hr
 have s2:=fun o1 o2=>(hs.sl.alloc o1).alloc o2
 have fK:(k:Int)<4:=by omega
 generalize r.hd.length=m at*
 generalize r.bs.length=bn at*
 clear h hr h4 hs
 go_enter Tryz.func100,Tryz.ntmps100
 go_wp2_with fail
 go_at_call 36
 refine(c _).mono ?_
 rintro e w1 ⟨rfl,rfl⟩
 go_wp2_with fail
 have BR:=(qM w [.slice ao 4 cap] [.slice none 0 0] 24)
 go_at_call 129
 refine(c3 _ (s2 _ _)).mono ?_
 rintro e w1 ⟨v1,rfl,own,b1⟩
 obtain⟨BR,bel⟩:=BR
 replace BR:=BR.keep b1 BR.lt
 replace bel:=aa bel b1
 clear b1 s2 c3 c
 obtain⟨g,G,rfl,xX,Pb⟩:=Ad own
 simp only[World.size_alloc] at own xX
 obtain⟨e0,e1⟩:=rc _ _ _ own
 have f0:=BR.free 0
 have d0:w1.cell? ⟨w.heap.size+1,0,none⟩=some (.slice none 0 0):=BR.cell 0
 have js:=BR.lt
 go_wp2_with fail
 go_at_call 36
 refine(c2 _).mono ?_
 rintro e w2 ⟨rfl,rfl⟩
 go_wp2_with fail
 exact bodyPost_ret (v:=.tuple #[.agg #[.slice none 0 0],.int .i64 3]) (by simp[results,Tryz.results100,go_sem,d0,js]) rfl ⟨rfl,av (bel.setCell (by simp) _) _⟩
theorem zt (l:List Lr)(ao:Option Addr)(cap:Nat)(k:Nat)(q:Nat)(w:World)(hs:bJ w ao cap l)(h4:l.length=4)(hk:k<4)(r:Lr)(hr:l[k]? =some r)(h:dw q 1 r.hd.length=true)(h8:8<=r.bs.length)(hb:r.bs.length<=8):
  Calls Tryz.prog 100 #[.agg #[.slice ao 4 cap],.int .i64 k,.int .i64 q] w fun e w'=>e=.returned (.tuple #[.agg #[.slice none 0 0],.int .i64 2])/\Below w.heap.size w w':=by
 have c:=fun W=>cm (k:Int) 0 3 W
 rw[decide_eq_true (show(0:Int)<=k/\(k:Int)<=3 by omega)] at c
 have c2:=fun W=>cm (q:Int) 1 (r.hd.length:Int) W
 unfold dw at h
 rw[h] at c2
 have c3:=fun W (hW:aY Lr.cells W ao cap l)=>IU ao cap (l.flatMap Lr.cells) 4 W hW.row (by have:=hs.sl.le;omega) hs.sl.nil (by rw[ar Lr.two,h4]) (zU l) (by omega)
 have rc:=fun W g c (h:World.ownsRow W (w.heap.size+2) 53 2 (.slice (some ⟨g,0,none⟩) 4 c) 4 (l.flatMap Lr.cells))=>x7 h k hk r hr
 have s2:=fun o1 o2=>(hs.sl.alloc o1).alloc o2
 have fK:(k:Int)<4:=by omega
 generalize r.hd.length=m at*
 generalize r.bs.length=bn at*
 have r9:(8:Int)<=bn:=by omega
 clear h hr h4 hs
 go_enter Tryz.func100,Tryz.ntmps100
 go_wp2_with fail
 go_at_call 36
 refine(c _).mono ?_
 rintro e w1 ⟨rfl,rfl⟩
 go_wp2_with fail
 have BR:=(qM w [.slice ao 4 cap] [.slice none 0 0] 24)
 go_at_call 129
 refine(c3 _ (s2 _ _)).mono ?_
 rintro e w1 ⟨v1,rfl,own,b1⟩
 obtain⟨BR,bel⟩:=BR
 replace BR:=BR.keep b1 BR.lt
 replace bel:=aa bel b1
 clear b1 s2 c3 c
 obtain⟨g,G,rfl,xX,Pb⟩:=Ad own
 simp only[World.size_alloc] at own xX
 obtain⟨e0,e1⟩:=rc _ _ _ own
 have f0:=BR.free 0
 have d0:w1.cell? ⟨w.heap.size+1,0,none⟩=some (.slice none 0 0):=BR.cell 0
 have js:=BR.lt
 go_wp2_with fail
 go_at_call 36
 refine(c2 _).mono ?_
 rintro e w2 ⟨rfl,rfl⟩
 go_wp2_with fail
 exact bodyPost_ret (v:=.tuple #[.agg #[.slice none 0 0],.int .i64 2]) (by simp[results,Tryz.results100,go_sem,d0,js]) rfl ⟨rfl,av (bel.setCell (by simp) _) _⟩
theorem qK {w:World}{base base':Nat}{e:TypeId}{size n:Nat}{v:Value}{xs:List Value}(h:w.ownsRow base e size v n xs)(hb:base'<=base):w.ownsRow base' e size v n xs:=by
 refine⟨h.1,?_⟩
 rcases h.2 with h0| ⟨g,cap,cur,e1,h1,h2⟩
 .exact .inl h0
 .exact .inr ⟨g,cap,cur,e1,Nat.le_trans hb h1,h2⟩
theorem EU (l:List Lr)(ao:Option Addr)(cap:Nat)(k q:Nat)(w:World)(hs:bJ w ao cap l)(h4:l.length=4)(hk:k<4)(r:Lr)(hr:l[k]? =some r)(hm:r.hd.length<=40)(h1:1<=q)(h2:q<=r.hd.length)(hb:r.bs.length<8):
  Calls Tryz.prog 100 #[.agg #[.slice ao 4 cap],.int .i64 k,.int .i64 q] w fun e w'=>
   ∃rs a' G,e=.returned (.tuple #[.agg #[.slice a' 4 G],.int .i64 0])/\rs.map Lr.rw=(l.map Lr.rw).set k ⟨r.bs.map Lb.b++[dx (r.hd.take q)],r.hd.drop q⟩/\bJ w' a' G rs/\Below w.heap.size w w':=by
 have c:=fun W=>cm (k:Int) 0 3 W
 rw[decide_eq_true (show(0:Int)<=k/\(k:Int)<=3 by omega)] at c
 have c2:=fun W=>cm (q:Int) 1 (r.hd.length:Int) W
 rw[decide_eq_true (show(1:Int)<=q/\(q:Int)<=r.hd.length by omega)] at c2
 obtain⟨lb,lo,rfl,-⟩:=hs.where (by intro e;rw[e] at h4;simp at h4)
 have c3:=fun W (hW:aY Lr.cells W (some ⟨lb,lo,none⟩) cap l)=>tw ⟨lb,lo,none⟩ cap (l.flatMap Lr.cells) 4 W hW.row (by rw[ar Lr.two,h4]) (by decide) (by decide)
 have s2:=fun o1 o2=>(hs.sl.alloc o1).alloc o2
 have gr:=hs.good r (List.mem_of_getElem? hr)
 have gl:=hs.good
 have c4:∀W,aI W r.ha r.hc r.hd->Calls Tryz.prog 131 #[.slice r.ha q r.hc] W fun e w'=>∃a' G,e=.returned (.tuple #[ep (dx (r.hd.take q)) a' G,.int .i64 (fk (r.hd.take q))])/\Sl w' a' G ((dx (r.hd.take q)).bits.map Value.bool)/\Below W.heap.size W w':=by
  intro W h
  have t:=sM r.ha r.hc (r.hd.take q) W (h.front q)
  rw[List.length_take,Nat.min_eq_left h2] at t
  exact t
 have lM:=qe (r.hd.take q)
 have QW:r.hd.length<=r.hc:=gr.hd.le
 have Zl:=gr.hd.max
 obtain⟨bs,ba,bc,hd,ha,hc⟩:=r
 simp only at*
 generalize dx (hd.take q)=M at*
 generalize fk (hd.take q)=ME at*
 have fK:(k:Int)<4:=by omega
 obtain⟨m,em⟩:∃m,m=hd.length:=⟨_,rfl⟩
 obtain⟨bn,eb⟩:∃bn,bn=bs.length:=⟨_,rfl⟩
 rw[<-em] at c2 h2 hm QW
 rw[<-eb] at hb
 have CN:(bn:Int)<8:=by omega
 replace em:=hide em
 replace eb:=hide eb
 replace hr:=hide hr
 replace h4:=hide h4
 have gW:=fun W (hW:Below w.heap.size w W)=>gr.keep hW (Nat.le_refl _)
 obtain⟨xS,Es,rfl,hhb⟩:=gr.hd.where (by intro e;have e':hd=[]:=e;have:=em.out;rw[e'] at this;simp at this;omega)
 have pt:=gr.hd.part q hd.length (by rw[<-em.out];exact h2) (Nat.le_refl _)
 simp only at pt
 rw[List.take_length] at pt
 clear gr hs
 go_enter Tryz.func100,Tryz.ntmps100
 go_wp2_with fail
 go_at_call 36
 refine(c _).mono ?_
 rintro e w1 ⟨rfl,rfl⟩
 go_wp2_with fail
 have BR:=(qM w [.slice (some ⟨lb,lo,none⟩) 4 cap] [.slice none 0 0] 24)
 go_at_call 129
 refine(c3 _ (s2 _ _)).mono ?_
 rintro e w1 ⟨g,G,L,rfl,B1,hL,hG,r7,xX,b1⟩
 have rows:dE w1 g G l:=⟨⟨L,B1,hL⟩,by rw[h4.out];exact hG,r7⟩
 obtain⟨BR,bel⟩:=BR
 replace BR:=BR.keep b1 BR.lt
 replace bel:=aa bel b1
 clear b1 s2 c3 c B1 hL L
 simp only[World.size_alloc] at xX
 obtain⟨e0,e1⟩:=rows.cells k _ hr.out
 simp only at e0 e1
 rw[<-eb.out] at e0
 rw[<-em.out] at e1
 have Pb:=rows.lt
 go_wp2_with fail
 go_at_call 36
 refine(c2 _).mono ?_
 rintro e w2 ⟨rfl,rfl⟩
 clear c2
 go_wp2_with fail
 have B9:=ac.laid w1 [.slice ba bn bc,.slice (some ⟨xS,Es,none⟩) m hc] 53 _ rfl
 replace rows:=rows.alloc (.cells #[.slice ba bn bc,.slice (some ⟨xS,Es,none⟩) m hc] 53)
 replace BR:=BR.alc (.cells #[.slice ba bn bc,.slice (some ⟨xS,Es,none⟩) m hc] 53)
 replace bel:=av bel (.cells #[.slice ba bn bc,.slice (some ⟨xS,Es,none⟩) m hc] 53)
 clear e0 e1
 generalize MI:w1.heap.size=g9 at*
 generalize w1.alloc _=w2 at*
 clear MI
 go_at_call 131
 refine(c4 _ (gW _ bel).hd).mono ?_
 rintro e w3 ⟨a3,G3,rfl,t3,b3⟩
 replace rows:=rows.call b3
 replace BR:=BR.keep b3 BR.lt
 replace B9:=B9.keep b3 B9.lt
 replace bel:=aa bel b3
 clear b3 c4
 unfold ep
 go_wp2_with fail
 have rJ:=ac.laid w3 [.int .i64 M.n,.int .i64 M.fr,.int .i64 M.to,.slice a3 M.bits.length G3] 107 _ rfl
 have UF:=rows.lt
 replace rows:=rows.alloc (.cells #[.int .i64 M.n,.int .i64 M.fr,.int .i64 M.to,.slice a3 M.bits.length G3] 107)
 replace BR:=BR.alc (.cells #[.int .i64 M.n,.int .i64 M.fr,.int .i64 M.to,.slice a3 M.bits.length G3] 107)
 replace B9:=B9.alc (.cells #[.int .i64 M.n,.int .i64 M.fr,.int .i64 M.to,.slice a3 M.bits.length G3] 107)
 replace bel:=av bel (.cells #[.int .i64 M.n,.int .i64 M.fr,.int .i64 M.to,.slice a3 M.bits.length G3] 107)
 replace t3:=t3.alloc (.cells #[.int .i64 M.n,.int .i64 M.fr,.int .i64 M.to,.slice a3 M.bits.length G3] 107)
 generalize UI:w3.heap.size=g10 at*
 generalize w3.alloc _=w4 at*
 clear UI
 obtain⟨i1,ma,y0,y1,y2⟩:=info_parts yL
 have q0:w4.cell? ⟨g9,0,none⟩=some (.slice ba bn bc):=B9.cell 0
 have q1:w4.cell? ⟨g9,1,none⟩=some (.slice (some ⟨xS,Es,none⟩) m hc):=B9.cell 1
 have p0:w4.cell? ⟨g10,0,none⟩=some (.int .i64 M.n):=rJ.cell 0
 have p1:w4.cell? ⟨g10,1,none⟩=some (.int .i64 M.fr):=rJ.cell 1
 have p2:w4.cell? ⟨g10,2,none⟩=some (.int .i64 M.to):=rJ.cell 2
 have p3:w4.cell? ⟨g10,3,none⟩=some (.slice a3 M.bits.length G3):=rJ.cell 3
 have l9:=B9.lt
 have l10:=rJ.lt
 have cB:∀W,Below w4.heap.size w4 W->Calls Tryz.prog 132 #[.slice ba bn bc] W fun e w'=>∃v',e=.returned v'/\w'.ownsRow w4.heap.size 107 4 v' bn (bs.flatMap Lb.cells)/\Below W.heap.size W w'/\Below w4.heap.size w4 w'/\v'.ownBlock≠some g9/\v'.ownBlock≠some g10/\g9<w'.heap.size/\g10<w'.heap.size/\w'.cell? ⟨g9,0,none⟩=some (.slice ba bn bc)/\w'.cell? ⟨g9,1,none⟩=some (.slice (some ⟨xS,Es,none⟩) m hc)/\w'.cell? ⟨g10,0,none⟩=some (.int .i64 M.n)/\w'.cell? ⟨g10,1,none⟩=some (.int .i64 M.fr)/\w'.cell? ⟨g10,2,none⟩=some (.int .i64 M.to)/\w'.cell? ⟨g10,3,none⟩=some (.slice a3 M.bits.length G3):=by
  intro W hW
  have gg:=(gW W (bel.trans (hW.mono bel.size))).bs
  refine(Pp ba bc (bs.flatMap Lb.cells) bn W gg.sl.row (by have:=gg.sl.le;rw[eb.out];exact this) gg.sl.nil (by rw[ar Lb.four,eb.out]) (qE bs) (by omega)).mono ?_
  rintro e w' ⟨v',rfl,o',b'⟩
  have o2:=qK o' hW.size
  have bb:=hW.trans (b'.mono hW.size)
  refine⟨v',rfl,o2,b',bb,?_,?_,Nat.lt_of_lt_of_le l9 bb.size,Nat.lt_of_lt_of_le l10 bb.size,?_⟩
  .intro e;have:=(o2.lt g9 e).1;omega
  .intro e;have:=(o2.lt g10 e).1;omega
  .have k9:=B9.keep bb l9
   have xJ:=rJ.keep bb l10
   exact⟨k9.cell 0,k9.cell 1,xJ.cell 0,xJ.cell 1,xJ.cell 2,xJ.cell 3⟩
 have fo:∀u:Value,u∈([.int .i64 M.n,.int .i64 M.fr,.int .i64 M.to,.slice a3 M.bits.length G3]:List Value)->u.oneCell'=true:=by intro u hu;simp only[List.mem_cons,List.not_mem_nil,or_false] at hu;rcases hu with rfl|rfl|rfl|rfl<;>rfl
 have oi:=rows.lt
 obtain⟨r0,r1⟩:=rows.cells k _ hr.out
 have L5:=rows.free (k*2)
 have Ij:=rows.free (k*2+1)
 have lR:=BR.lt
 have rR:w4.cell? ⟨w.heap.size+1,0,none⟩=some (.slice none 0 0):=BR.cell 0
 have fR:=BR.free 0
 have TU:¬g=w.heap.size+1:=by omega
 have RI:¬w.heap.size+1=g:=by omega
 have WM:¬g=g9:=by omega
 have Tf:¬g=g10:=by omega
 have i7:(0:Int)<=q:=by omega
 have vI:(0:Int)<=k:=by omega
 have fin:∀(g6 c6:Nat) (w6:World) (qy:Option Addr),aI w qy (hc-q) (hd.drop q)->w6.ownsRow w4.heap.size 107 4 (.slice (some ⟨g6,0,none⟩) (bn+1) c6) (bn+1) (bs.flatMap Lb.cells++[.int .i64 M.n,.int .i64 M.fr,.int .i64 M.to,.slice a3 M.bits.length G3])->Below w4.heap.size w4 w6->
   (l.set k ⟨bs++[⟨M,a3,G3⟩],some ⟨g6,0,none⟩,c6,hd.drop q,qy,hc-q⟩).map Lr.rw=(l.map Lr.rw).set k ⟨bs.map Lb.b++[M],hd.drop q⟩/\
   bJ (((w6.setCell ⟨g,k*2,none⟩ (.slice (some ⟨g6,0,none⟩) (bn+1) c6)).setCell ⟨g,k*2+1,none⟩ (.slice qy (m-q) (hc-q))).setCell ⟨w.heap.size+1,0,none⟩ (.slice (some ⟨g,0,none⟩) 4 G)) (some ⟨g,0,none⟩) G (l.set k ⟨bs++[⟨M,a3,G3⟩],some ⟨g6,0,none⟩,c6,hd.drop q,qy,hc-q⟩)/\
   Below w.heap.size w (((w6.setCell ⟨g,k*2,none⟩ (.slice (some ⟨g6,0,none⟩) (bn+1) c6)).setCell ⟨g,k*2+1,none⟩ (.slice qy (m-q) (hc-q))).setCell ⟨w.heap.size+1,0,none⟩ (.slice (some ⟨g,0,none⟩) 4 G)):=by
  intro g6 c6 w6 qy e2 ft ew
  obtain⟨x,hx⟩:∃x:Lr,x=⟨bs++[⟨M,a3,G3⟩],some ⟨g6,0,none⟩,c6,hd.drop q,qy,hc-q⟩:=⟨_,rfl⟩
  have Tk:((w6.setCell ⟨g,k*2,none⟩ (.slice (some ⟨g6,0,none⟩) (bn+1) c6)).setCell ⟨g,k*2+1,none⟩ (.slice qy (m-q) (hc-q))).setCell ⟨w.heap.size+1,0,none⟩ (.slice (some ⟨g,0,none⟩) 4 G)=wrote w6 g k x (w.heap.size+1) (.slice (some ⟨g,0,none⟩) 4 G):=by
   rw[hx]
   simp only[wrote,List.length_append,List.length_singleton,List.length_drop,<-eb.out,<-em.out]
  rw[Tk]
  have dy:=bel.trans (ew.mono bel.size)
  have b8:=sY dy (g:=g) (gR:=w.heap.size+1) (by omega) (by omega) k x (.slice (some ⟨g,0,none⟩) 4 G)
  have xC:=rows.keep ew rows.lt
  have iF:=BR.keep ew BR.lt
  have t6:=ve (t3.keep ew (Nat.le_refl _)) xC iF (by intro v hv b e;simp at hv;subst hv;cases e) k x (.slice (some ⟨g,0,none⟩) 4 G)
  have mY:=yw ft oi lR k x (.slice (some ⟨g,0,none⟩) 4 G)
  rw[show bs.flatMap Lb.cells++[.int .i64 M.n,.int .i64 M.fr,.int .i64 M.to,.slice a3 M.bits.length G3]=(bs++[(⟨M,a3,G3⟩:Lb)]).flatMap Lb.cells by rw[List.flatMap_append];rfl] at mY
  obtain⟨a9,c9,ev,RY,_,_⟩:=aY.ofOwn Lb.four (by decide) mY
  simp only[Value.slice.injEq,true_and] at ev
  obtain⟨rfl,rfl⟩:=ev
  have gx:x.Good (wrote w6 g k x (w.heap.size+1) (.slice (some ⟨g,0,none⟩) 4 G)):=by
   generalize wrote w6 g k x (w.heap.size+1) (.slice (some ⟨g,0,none⟩) 4 G)=w8 at*
   rw[hx]
   have gb:=(gW w8 b8).bs
   refine⟨⟨RY,fun y hy=>?_⟩,?_,?_,?_⟩
   .rcases List.mem_append.1 hy with hy|hy
    .exact gb.good y hy
    .simp at hy
     subst hy
     exact⟨t6,by simp only;omega⟩
   .exact e2.keep b8 (Nat.le_refl _)
   .simp only[List.length_append,List.length_singleton]
    rw[<-eb.out]
    omega
   .simp only[List.length_drop]
    rw[<-em.out]
    omega
  refine⟨?_,?_,b8⟩
  .rw[List.map_set]
   congr 1
   unfold Lr.rw
   simp
  .rw[<-hx]
   exact vq xC (by omega) k (by rw[h4.out];exact hk) x _ b8 gl gx
 by_cases sE:hc=q
 .rw[if_pos sE] at pt
  obtain rfl:q=m:=by omega
  obtain rfl:q=hc:=sE.symm
  clear sE
  rw[Nat.sub_self] at pt
  simp only[Nat.sub_self] at fin
  go_region_held3 (fun w'=>w'.cell? ⟨g9,0,none⟩=some (.slice ba bn bc)/\w'.cell? ⟨g9,1,none⟩=some (.slice (some ⟨xS,Es,none⟩) q q)/\w'.cell? ⟨g10,0,none⟩=some (.int .i64 M.n)/\w'.cell? ⟨g10,1,none⟩=some (.int .i64 M.fr)/\w'.cell? ⟨g10,2,none⟩=some (.int .i64 M.to)/\w'.cell? ⟨g10,3,none⟩=some (.slice a3 M.bits.length G3))
   (first
    |go_keep
    | (
      go_split_ands
      refine⟨?_,?_,?_,?_,?_,?_⟩
      ·(rw[du.cell_far _ (by simp;omega) (Ne.symm n9)];assumption)
      ·(rw[du.cell_far _ (by simp;omega) (Ne.symm n9)];assumption)
      ·(rw[du.cell_far _ (by simp;omega) (Ne.symm n10)];assumption)
      ·(rw[du.cell_far _ (by simp;omega) (Ne.symm n10)];assumption)
      ·(rw[du.cell_far _ (by simp;omega) (Ne.symm n10)];assumption)
      ·(rw[du.cell_far _ (by simp;omega) (Ne.symm n10)];assumption)))
   (first
    | (go_at_call 132;refine(cB _ ?_).mono ?_;(first|exact ai (Below.refl _ _)|exact ai (av (Below.refl _ _) _));rintro e w5 ⟨v5,rfl,dF,b5,mc,n9,n10,XE,Vm,z0,z1,z2,z3,z4,z5⟩)
    | ((refine step_append_lies _ (by rfl) (.tmp 47) (.tmp 49) 51 (by rfl) w4.heap.size 107 i1 (.agg #[.int .i64 0,.int .i64 0,.int .i64 0,.slice none 0 0]) 4 48 Tryz.underlying51 ma y0 y1 y2 rfl (by decide) v5 bn _ (by rfl) (dF.alloc _) ⟨w5.heap.size,0,none⟩ 1 1 [.int .i64 M.n,.int .i64 M.fr,.int .i64 M.to,.slice a3 M.bits.length G3] (by rfl) (by rfl) (World.news_of_block (cs:=#[.int .i64 M.n,.int .i64 M.fr,.int .i64 M.to,.slice a3 M.bits.length G3]) (t:=107) (fr:=(0,0)) (heap_alloc_new w5 _)) fo (by decide) (by unfold maxLen;omega) (by omega) (by simp;exact Nat.le_succ_of_le mc.size) (w5.heap.size+1) (by simp) ?_;intro g6 c6 w6 ft du L7 LZ;have ew:=aH (av mc _) (dF.alloc _) du (Nat.le_refl _) (av mc _).size;have u0:=(ew.cell (p:=⟨g,k*2,none⟩) oi).trans r0;have u1:=(ew.cell (p:=⟨g,k*2+1,none⟩) oi).trans r1;have x0:=(ew.frozen (p:=⟨g,k*2,none⟩) oi).trans L5;have x1:=(ew.frozen (p:=⟨g,k*2+1,none⟩) oi).trans Ij;have j0:=(ew.cell (p:=⟨w.heap.size+1,0,none⟩) lR).trans rR;have j1:=(ew.frozen (p:=⟨w.heap.size+1,0,none⟩) lR).trans fR))
    | ((refine step_append_lies _ (by rfl) (.tmp 47) (.tmp 49) 51 (by rfl) w4.heap.size 107 i1 (.agg #[.int .i64 0,.int .i64 0,.int .i64 0,.slice none 0 0]) 4 48 Tryz.underlying51 ma y0 y1 y2 rfl (by decide) v5 bn _ (by rfl) dF ⟨w4.heap.size,0,none⟩ 1 1 [.int .i64 M.n,.int .i64 M.fr,.int .i64 M.to,.slice a3 M.bits.length G3] (by rfl) (by rfl) (World.news_of_block (cs:=#[.int .i64 M.n,.int .i64 M.fr,.int .i64 M.to,.slice a3 M.bits.length G3]) (t:=107) (fr:=(0,0)) ((b5.block w4.heap.size (by simp)).trans (heap_alloc_new w4 _))) fo (by decide) (by unfold maxLen;omega) (by omega) mc.size w5.heap.size rfl ?_;intro g6 c6 w6 ft du L7 LZ;have ew:=aH mc dF du (Nat.le_refl _) mc.size;have u0:=(ew.cell (p:=⟨g,k*2,none⟩) oi).trans r0;have u1:=(ew.cell (p:=⟨g,k*2+1,none⟩) oi).trans r1;have x0:=(ew.frozen (p:=⟨g,k*2,none⟩) oi).trans L5;have x1:=(ew.frozen (p:=⟨g,k*2+1,none⟩) oi).trans Ij;have j0:=(ew.cell (p:=⟨w.heap.size+1,0,none⟩) lR).trans rR;have j1:=(ew.frozen (p:=⟨w.heap.size+1,0,none⟩) lR).trans fR)))
  all_goals go_wp2_with fail
  all_goals(
   have E:=fin _ _ _ _ pt ft ew
   obtain⟨E1,E2,E3⟩:=E
   exact bodyPost_ret (v:=.tuple #[.agg #[.slice (some ⟨g,0,none⟩) 4 G],.int .i64 0]) (by simp[results,Tryz.results100,go_sem,j0]) rfl ⟨_,_,_,rfl,E1,E2,E3⟩)
 .have ZN:q<hc:=by omega
  rw[if_neg sE,Option.map_some,Addr.add_lit] at pt
  go_region_held3 (fun w'=>w'.cell? ⟨g9,0,none⟩=some (.slice ba bn bc)/\w'.cell? ⟨g9,1,none⟩=some (.slice (some ⟨xS,Es,none⟩) m hc)/\w'.cell? ⟨g10,0,none⟩=some (.int .i64 M.n)/\w'.cell? ⟨g10,1,none⟩=some (.int .i64 M.fr)/\w'.cell? ⟨g10,2,none⟩=some (.int .i64 M.to)/\w'.cell? ⟨g10,3,none⟩=some (.slice a3 M.bits.length G3))
   (first
    |go_keep
    | (
      go_split_ands
      refine⟨?_,?_,?_,?_,?_,?_⟩
      ·(rw[du.cell_far _ (by simp;omega) (Ne.symm n9)];assumption)
      ·(rw[du.cell_far _ (by simp;omega) (Ne.symm n9)];assumption)
      ·(rw[du.cell_far _ (by simp;omega) (Ne.symm n10)];assumption)
      ·(rw[du.cell_far _ (by simp;omega) (Ne.symm n10)];assumption)
      ·(rw[du.cell_far _ (by simp;omega) (Ne.symm n10)];assumption)
      ·(rw[du.cell_far _ (by simp;omega) (Ne.symm n10)];assumption)))
   (first
    | (go_at_call 132;refine(cB _ ?_).mono ?_;(first|exact ai (Below.refl _ _)|exact ai (av (Below.refl _ _) _));rintro e w5 ⟨v5,rfl,dF,b5,mc,n9,n10,XE,Vm,z0,z1,z2,z3,z4,z5⟩)
    | ((refine step_append_lies _ (by rfl) (.tmp 47) (.tmp 49) 51 (by rfl) w4.heap.size 107 i1 (.agg #[.int .i64 0,.int .i64 0,.int .i64 0,.slice none 0 0]) 4 48 Tryz.underlying51 ma y0 y1 y2 rfl (by decide) v5 bn _ (by rfl) (dF.alloc _) ⟨w5.heap.size,0,none⟩ 1 1 [.int .i64 M.n,.int .i64 M.fr,.int .i64 M.to,.slice a3 M.bits.length G3] (by rfl) (by rfl) (World.news_of_block (cs:=#[.int .i64 M.n,.int .i64 M.fr,.int .i64 M.to,.slice a3 M.bits.length G3]) (t:=107) (fr:=(0,0)) (heap_alloc_new w5 _)) fo (by decide) (by unfold maxLen;omega) (by omega) (by simp;exact Nat.le_succ_of_le mc.size) (w5.heap.size+1) (by simp) ?_;intro g6 c6 w6 ft du L7 LZ;have ew:=aH (av mc _) (dF.alloc _) du (Nat.le_refl _) (av mc _).size;have u0:=(ew.cell (p:=⟨g,k*2,none⟩) oi).trans r0;have u1:=(ew.cell (p:=⟨g,k*2+1,none⟩) oi).trans r1;have x0:=(ew.frozen (p:=⟨g,k*2,none⟩) oi).trans L5;have x1:=(ew.frozen (p:=⟨g,k*2+1,none⟩) oi).trans Ij;have j0:=(ew.cell (p:=⟨w.heap.size+1,0,none⟩) lR).trans rR;have j1:=(ew.frozen (p:=⟨w.heap.size+1,0,none⟩) lR).trans fR))
    | ((refine step_append_lies _ (by rfl) (.tmp 47) (.tmp 49) 51 (by rfl) w4.heap.size 107 i1 (.agg #[.int .i64 0,.int .i64 0,.int .i64 0,.slice none 0 0]) 4 48 Tryz.underlying51 ma y0 y1 y2 rfl (by decide) v5 bn _ (by rfl) dF ⟨w4.heap.size,0,none⟩ 1 1 [.int .i64 M.n,.int .i64 M.fr,.int .i64 M.to,.slice a3 M.bits.length G3] (by rfl) (by rfl) (World.news_of_block (cs:=#[.int .i64 M.n,.int .i64 M.fr,.int .i64 M.to,.slice a3 M.bits.length G3]) (t:=107) (fr:=(0,0)) ((b5.block w4.heap.size (by simp)).trans (heap_alloc_new w4 _))) fo (by decide) (by unfold maxLen;omega) (by omega) mc.size w5.heap.size rfl ?_;intro g6 c6 w6 ft du L7 LZ;have ew:=aH mc dF du (Nat.le_refl _) mc.size;have u0:=(ew.cell (p:=⟨g,k*2,none⟩) oi).trans r0;have u1:=(ew.cell (p:=⟨g,k*2+1,none⟩) oi).trans r1;have x0:=(ew.frozen (p:=⟨g,k*2,none⟩) oi).trans L5;have x1:=(ew.frozen (p:=⟨g,k*2+1,none⟩) oi).trans Ij;have j0:=(ew.cell (p:=⟨w.heap.size+1,0,none⟩) lR).trans rR;have j1:=(ew.frozen (p:=⟨w.heap.size+1,0,none⟩) lR).trans fR)))
  all_goals go_wp2_with fail
  all_goals(
   have E:=fin _ _ _ _ pt ft ew
   obtain⟨E1,E2,E3⟩:=E
   exact bodyPost_ret (v:=.tuple #[.agg #[.slice (some ⟨g,0,none⟩) 4 G],.int .i64 0]) (by simp[results,Tryz.results100,go_sem,j0]) rfl ⟨_,_,_,rfl,E1,E2,E3⟩)
end Go.Proofs.YtoonnbhoiocoeaaGreatDoor
namespace Go.Proofs.YtoonnbhoiocoeaaGreatDoor
open Go.RowKit
theorem Ma:(Tryz.prog.info? 56).map (fun i=>(i.zero,i.size,i.bytes))=some (some (.agg #[.int .i64 0,.int .i64 0]),2,16):=by kernel_rfl
theorem PZ (ao:Option Addr)(cap:Nat)(C:List Value)(n:Nat)(w:World)(dA:Row w ao C)(fF:n<=cap)(jq:ao=none->cap=0)(aw:C.length=n*2)(one:∀v∈C,v.oneCell'=true)(hl:n<=1000000000000):
  Calls Tryz.prog 130 #[.slice ao n cap] w fun e w'=>
   ∃v',e=.returned v'/\w'.ownsRow w.heap.size 56 2 v' n C/\Below w.heap.size w w':=by
 obtain⟨i0,hi,bU,bi,bk⟩:=info_parts Ma
 have q:∀(w:World) (a:Option Addr) (n c n' c':Nat),(binOp .eql 42 (.slice a n c) (.slice none n' c')).run Tryz.prog w=.ok (.bool a.isNone) w:=fun w a n c n' c'=>Lib.run_eql_slice_nil w _ _ a n c n' c' Tryz.underlying42
 cases ao with
 |none=>
  obtain rfl:=jq rfl
  obtain rfl:n=0:=by omega
  obtain rfl:C=[]:=List.eq_nil_of_length_eq_zero aw
  clear aw
  go_enter Tryz.func130,Tryz.ntmps130
  go_wp2_with fail
  go_ret
  exact⟨_,rfl,World.ownsRow_nil _ _ _ _,Below.refl _ _⟩
 |some ad=>
  have fj:(w.alloc (.cells #[] 56)).ownsRow w.heap.size 56 2 (.slice (some ⟨w.heap.size,0,none⟩) 0 0) 0 []:=
   ⟨rfl,.inr ⟨w.heap.size,0,#[],rfl,Nat.le_refl _,heap_alloc_new w _,Nat.le_refl _,by decide,rfl,rfl⟩⟩
  have fZ:=(Below.refl w.heap.size w).alloc (Nat.le_refl _) (Obj.cells #[] 56)
  have hs:=dA.alloc (.cells #[] 56)
  have fc:∀j u,C[j]? =some u->(w.alloc (.cells #[] 56)).cell? (ad.add j)=some u:=by
   intro j u hu
   obtain⟨b',k8,e,_,hc⟩:=hs.at (by intro e;rw[e] at hu;simp at hu)
   obtain rfl:=Option.some.inj e
   rw[Addr.add_lit]
   exact hc j u hu
  have bA:w.heap.size<=(w.alloc (.cells #[] 56)).heap.size:=by simp
  replace aw:=hide aw
  clear dA hs jq
  go_enter Tryz.func130,Tryz.ntmps130
  go_wp2_with (at_builtin;refine wpList_append_own_wide _ rfl (.tmp 5) (.tmp 6) 42 rfl w.heap.size 56 i0 (.agg #[.int .i64 0,.int .i64 0]) 2 16 Tryz.underlying42 hi bU bi bk rfl (by decide) _ 0 _ rfl fj ad n cap C rfl aw.out fc one (by unfold maxLen;omega) (by omega) bA ?_)
  intro v' w1 eB cY _
  have aU:=aH fZ fj cY (Nat.le_refl _) bA
  obtain⟨a1,c1,rfl⟩:∃a1 c1,v'=.slice a1 n c1:=by
   rcases eB.2 with⟨rfl,h0⟩| ⟨g,cp,cur,rfl,_⟩
   .subst h0
    exact⟨_,_,rfl⟩
   .exact⟨_,_,rfl⟩
  go_wp2_with fail
  go_ret
  exact⟨_,rfl,eB,aU⟩
end Go.Proofs.YtoonnbhoiocoeaaGreatDoor
